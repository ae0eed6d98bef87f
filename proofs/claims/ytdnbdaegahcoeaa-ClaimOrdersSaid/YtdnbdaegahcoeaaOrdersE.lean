/- Layer 1: the reference on two houses, in one order and on the average, and what ClaimOrders answers. -/
import Derived.Test.YtdnbdaegahcoeaaRefB
import Derived.Test.YtdnbdaegahcoeaaRuleD
import Derived.Test.YtdnbdaegahcoeaaU
import Derived.Test.YtdnbdaegahcoeaaQueueA
import Derived.Deep.AppendLies
import Derived.Maps.AppendAt
import Derived.OwnWalk
import Derived.Laws.AppendOwnNone
import Derived.Test.YtdnbdaegahcoeaaOpenQ
namespace Go.Proofs.Ytdnbdaegahcoeaa
open Go.RowKit Go.Sort
theorem far_cell {w : World} {g k : Nat} {v u : Value} {p : Addr} (h : w.cell? p = some u) (hne : p.block ≠ g) : (w.setCell ⟨g, k, none⟩ v).cell? p = some u := by
  rw [World.cell?_setCell_other _ _ _ _ (fun e => hne (by rw [← e]))]; exact h
theorem IntsAt.far {w : World} {b off g k : Nat} {v : Value} {zs : List Int} (h : IntsAt w (some ⟨b, off, none⟩) zs) (hne : b ≠ g) : IntsAt (w.setCell ⟨g, k, none⟩ v) (some ⟨b, off, none⟩) zs := fun j hj => by
  obtain ⟨b', off', e, h1, h2⟩ := h j hj
  injection e with e
  injection e with e1 e2
  subst e1 e2
  exact ⟨b, off, rfl, by simpa [World.setCell] using h1, far_cell h2 hne⟩
theorem own_row2 {w : World} {B : Nat} {v : Value} {zs : List Int} (h : Owns w B v zs) (h0 : 0 < zs.length) :
    ∃ g cap, v = .slice (some ⟨g, 0, none⟩) zs.length cap ∧ B ≤ g ∧ g < w.heap.size ∧ RowN w g zs ∧ zs.length ≤ cap ∧ cap ≤ 9223372036854775807 := by
  obtain ⟨g, cap, e, h1, h2, h3⟩ := own_row h h0
  refine ⟨g, cap, e, h1, h2, h3, ?_⟩
  obtain ⟨_, h | ⟨g', cap', cur, e', hb, hg, hnc, hm, _, _⟩⟩ := h
  · exfalso; obtain ⟨_, h4⟩ := h; omega
  · rw [e] at e'
    injection e' with _ _ e3
    unfold maxLen at hm
    rw [e3]; exact ⟨hnc, by omega⟩
theorem K_ptf {x : Int} {zs : List Int} (h : Full5 x zs) (i : Fin 5) : Pt (K zs i) := by
  have := full_nth h i.val
  unfold K; constructor <;> omega
theorem own_head {w : World} {base : Nat} {v : Value} {n : Nat} {zs : List Int} (h : w.ownsRow base 3 1 v (n + 1) (zs.map (Value.int .i64))) : ∃ g cap, v = .slice (some ⟨g, 0, none⟩) (n + 1) cap ∧ base ≤ g ∧ n + 1 ≤ cap ∧ IntsAt w (some ⟨g, 0, none⟩) zs := by
  have hl := h.1
  rw [List.length_map] at hl
  have hO : Owns w base v zs := by unfold Owns; rw [hl, Nat.mul_one]; exact h
  obtain ⟨g, cap, e, h1, h2, h3, h4, _⟩ := own_row2 hO (by omega)
  rw [hl, Nat.mul_one] at e h4
  exact ⟨g, cap, e, h1, h4, h3.ints⟩
theorem rest_step {os rest r : List (Fin 5)} (h : (os ++ rest).Perm r) (d : Fin 5) (hd : d ∈ r) (hn : d ∉ os) : ((os ++ [d]) ++ rest.erase d).Perm r ∧ (rest.erase d).length + 1 = rest.length := by
  have hm : d ∈ rest := by
    rcases List.mem_append.1 (h.mem_iff.2 hd) with h' | h'
    · exact absurd h' hn
    · exact h'
  have hp := List.perm_cons_erase hm
  refine ⟨?_, by have := hp.length_eq; simpa using this.symm⟩
  refine List.Perm.trans ?_ h
  rw [List.append_assoc]
  exact List.Perm.append_left os hp.symm
theorem ext_all (m : Fin 5 → Int) (n : Nat) (hn : n ≤ 5) (x : Int) (j : Fin 5) : addAll m x (ext n n []) (fun _ => 0) j = addAll m x (vis n (idxL n) 0) (fun _ => 0) j ∧ (ext n n []).length = fct n := by
  have hp := ext_vis ⟨n, by omega⟩
  simp only at hp
  refine ⟨?_, by rw [hp.length_eq, vis_length]⟩
  rw [addAll_eq, addAll_eq]
  have := perm_sum (hp.map fun o => inF m o x (fun _ => 0) j)
  omega
section
theorem chk_two (x a b : Int) : chk x [a, b] = if twoB x a b then 0 else 1 := by
  simp [chk, twoB, Bool.and_assoc]
abbrev Two3 (r0 r1 r2 : Int) (w : World) (e : Ending) (w' : World) : Prop := e = .returned (.tuple #[.int .i64 r0, .int .i64 r1, .int .i64 r2]) ∧ Fut w w'
set_option maxRecDepth 100000 in
set_option maxHeartbeats 1000000 in
theorem rtwo_err (x a b : Int) (w : World) (h : twoB x a b = false) : Calls Try.prog 27 #[.int .i64 x, .int .i64 a, .int .i64 b] w (Two3 0 0 1 w) := by
  have HC := Lib.hid (fun W => rchk_any x (some ⟨w.heap.size, 0, none⟩) 2 [a, b] W (by simp))
  have hk : Hid (chk x [a, b] = 1) := Lib.hid (by rw [chk_two, h]; rfl)
  have hI := Lib.hid (ints_new w [a, b])
  have HF := Lib.hid (Fut.alloc w (.cells ([a, b].map (Value.int .i64)).toArray 3))
  clear h
  go_enter Try.func27, Try.ntmps27
  go_wp2_with fail
  refine (HC.out _ hI.out).mono ?_
  rintro _ _ ⟨rfl, rfl⟩
  rw [hk.out]
  go_wp2_with fail
  go_ret3
  exact ⟨rfl, HF.out⟩
set_option maxRecDepth 100000 in
set_option maxHeartbeats 1000000 in
theorem rtwo_ok (x a b : Int) (w : World) (h : twoB x a b = true) : Calls Try.prog 27 #[.int .i64 x, .int .i64 a, .int .i64 b] w (Two3 (tw1 (x * 120) (a * 120) (b * 120) / 2) (tw1 (x * 120) (b * 120) (a * 120) / 2) 0 w) := by
  have HC := Lib.hid (fun W => rchk_any x (some ⟨w.heap.size, 0, none⟩) 2 [a, b] W (by simp))
  have hk : Hid (chk x [a, b] = 0) := Lib.hid (by rw [chk_two, h]; rfl)
  have hI := Lib.hid (ints_new w [a, b])
  have HF := Lib.hid (Fut.alloc w (.cells ([a, b].map (Value.int .i64)).toArray 3))
  simp only [twoB, Bool.and_eq_true, decide_eq_true_eq] at h
  obtain ⟨⟨⟨h1, h2⟩, h3⟩, h4⟩ := h
  have ha : 1 ≤ a ∧ a ≤ 1000 := by simpa [isClaimB] using h1
  have hb : 1 ≤ b ∧ b ≤ 1000 := by simpa [isClaimB] using h2
  clear h1 h2
  obtain ⟨ha1, ha2⟩ := ha
  obtain ⟨hb1, hb2⟩ := hb
  have HP := Lib.hid (fun W => rpair_any (120 * x) (120 * a) (120 * b) W ⟨by omega, by omega⟩ ⟨by omega, by omega⟩ ⟨by omega, by omega⟩)
  have g1 : 0 ≤ garF (120 * x) (120 * a) (120 * b) := by unfold garF; omega
  have g2 : garF (120 * x) (120 * a) (120 * b) ≤ 1000000 := by unfold garF; omega
  have e1 : Hid (garF (120 * x) (120 * a) (120 * b) / 2 = tw1 (x * 120) (a * 120) (b * 120) / 2) := Lib.hid (by unfold garF tw1; omega)
  have e2 : Hid (120 * x - garF (120 * x) (120 * a) (120 * b) / 2 = tw1 (x * 120) (b * 120) (a * 120) / 2) := Lib.hid (by unfold garF tw1; omega)
  generalize garF (120 * x) (120 * a) (120 * b) = g at *
  generalize tw1 (x * 120) (a * 120) (b * 120) / 2 = p at *
  generalize tw1 (x * 120) (b * 120) (a * 120) / 2 = q at *
  have w1 : IntKind.i64.wrap (120 * x) = 120 * x := IntWalk.i64_in _ ⟨by omega, by omega⟩
  have w2 : IntKind.i64.wrap (120 * a) = 120 * a := IntWalk.i64_in _ ⟨by omega, by omega⟩
  have w3 : IntKind.i64.wrap (120 * b) = 120 * b := IntWalk.i64_in _ ⟨by omega, by omega⟩
  go_enter Try.func27, Try.ntmps27
  go_wp2_with fail
  refine (HC.out _ hI.out).mono ?_
  rintro _ _ ⟨rfl, rfl⟩
  rw [hk.out]
  go_wp2_with (go_at_call 68; refine (HP.out _).mono ?_; rintro e w' ⟨rfl, rfl⟩)
  go_ret3
  exact ⟨ret_int3 (by rw [← e1.out]) (by rw [← e2.out]) rfl, HF.out⟩
end
section
def HasPost (zs : List Int) (v : Int) (w : World) (e : Ending) (w' : World) : Prop := ∃ r : Bool, e = .returned (.bool r) ∧ (r = true ↔ v ∈ zs) ∧ w = w'
theorem rhas_any (a : Option Addr) (cap : Nat) (zs : List Int) (v : Int) (w : World) (hl : zs.length ≤ 1000) (hA : IntsAt w a zs) : Calls Try.prog 71 #[.slice a zs.length cap, .int .i64 v] w (HasPost zs v w) := by
  have HM := Lib.hid (mem_nth zs v)
  go_enter Try.func71, Try.ntmps71
  go_wp2
  go_loop [5] (fun i => ∃ k : Nat, k ≤ zs.length ∧ i = .int .i64 k ∧ ∀ j, j < k → nth zs j ≠ v) (fun i => zs.length - (intOf i).toNat)
  case atStart => exact ⟨0, Nat.zero_le _, rfl, fun j hj => absurd hj (by omega)⟩
  case round =>
    obtain ⟨k, hk, rfl, hne⟩ := hrel
    have HN := Lib.hid hne
    clear hne
    by_cases hlt : k < zs.length
    · obtain ⟨b, off, rfl, hb, hcell⟩ := hA k hlt
      have hkx : (k : Int) < zs.length := by omega
      by_cases he : nth zs k = v
      · have hmem : v ∈ zs := HM.out.2 ⟨k, hlt, he⟩
        have HMM := Lib.hid hmem
        have e1 : (nth zs k == v) = true := by rw [beq_iff_eq]; exact he
        clear hA he hmem
        generalize nth zs k = y at *
        go_wp2
        go_ret
        exact ⟨_, rfl, ⟨fun _ => HMM.out, fun _ => rfl⟩, rfl⟩
      · have e1 : (nth zs k == v) = false := by rw [beq_eq_false_iff_ne]; exact he
        have HN2 : Hid (∀ j, j < k + 1 → nth zs j ≠ v) := Lib.hid fun j hj => by
          by_cases e : j = k
          · rw [e]; exact he
          · exact HN.out j (by omega)
        clear hA he
        generalize nth zs k = y at *
        go_wp2
        go_round
        case rel => exact ⟨k + 1, by omega, by go_num, HN2.out⟩
        case measure => simp [intOf]; omega
    · obtain rfl : k = zs.length := by omega
      have hno : Hid (¬ v ∈ zs) := Lib.hid fun h => by
        obtain ⟨j, hj, e⟩ := HM.out.1 h
        exact HN.out j hj e
      clear hA
      go_wp2
      go_ret
      exact ⟨_, rfl, ⟨fun h => absurd h (by decide), fun h => absurd h hno.out⟩, rfl⟩
theorem repl_row (w : World) (n : Nat) (h5 : n ≤ 5) : RowN (w.alloc (.cells (Array.replicate n (Value.int .i64 0)) 3)) w.heap.size ((list5 (fun _ => 0)).take n) := by
  have hb := heap_alloc_new w (.cells (Array.replicate n (Value.int .i64 0)) 3)
  have e : (list5 (fun _ => (0 : Int))).take n = List.replicate n 0 := by
    have : ∀ n : Fin 6, (list5 (fun _ => (0 : Int))).take n.val = List.replicate n.val 0 := by decide
    exact this ⟨n, by omega⟩
  rw [e]
  refine ⟨fun j hj => ?_, fun j => frozen_of_row _ _ j _ _ hb⟩
  rw [List.length_replicate] at hj
  rw [cell_of_row _ _ j _ _ _ hb, nth_eq]
  simp [hj]
abbrev SlR (n : Nat) (w : World) (zs : List Int) (e : Ending) (w' : World) : Prop := ∃ cap, e = .returned (.slice (some ⟨w.heap.size, 0, none⟩) n cap) ∧ IntsAt w' (some ⟨w.heap.size, 0, none⟩) zs ∧ Fut w w'
theorem valL_lt {ds : List (Fin 5)} {n : Nat} (hd : ∀ d ∈ ds, d.val < n) (k : Nat) (h : k < ds.length) : (ds[k]).val < n := hd _ (List.getElem_mem h)
set_option maxRecDepth 100000 in
set_option maxHeartbeats 1000000 in
theorem rinOrder_row (x : Int) (zs : List Int) (a c : Option Addr) (cap dap : Nat) (ds : List (Fin 5)) (w : World) (h : Full5 x zs) (hl : ds.length ≤ 5) (hd : ∀ d ∈ ds, d.val < zs.length) (hA : IntsAt w a zs) (hG : IntsAt w c (valL ds)) :
    Calls Try.prog 72 #[.int .i64 x, .slice a zs.length cap, .slice c ds.length dap] w (SlR zs.length w ((list5 (inF (K zs) ds (x * 120) (fun _ => 0))).take zs.length)) := by
  generalize hr : inF (K zs) ds (x * 120) (fun _ => 0) = r
  have HR := Lib.hid hr; clear hr
  have HGo := Lib.hid hG; clear hG
  have h1 := h.1
  have h5 := h.2.1
  have hx0 := h.2.2.2.1
  have hx1 : x ≤ 5000 := by have := full_sum h; have := h.2.2.2.2; omega
  have HN := Lib.hid (full_nth h)
  obtain ⟨b0, o0, rfl, hb0, hc0⟩ := hA.addr (by omega)
  have HC := Lib.hid hc0
  have hmk := mk5 zs.length h5
  have HD := Lib.hid (fun k hk => valL_lt hd k hk)
  clear hA hd h hc0
  go_enter Try.func72, Try.ntmps72
  go_wp2_with fail
  have hrow := repl_row w zs.length h5
  have hS := World.size_alloc w (.cells (Array.replicate zs.length (Value.int .i64 0)) 3)
  have hB : Fut w (w.alloc (.cells (Array.replicate zs.length (Value.int .i64 0)) 3)) := Fut.alloc _ _
  generalize w.alloc (.cells (Array.replicate zs.length (Value.int .i64 0)) 3) = W1 at *
  clear hmk
  go_loopw [8, 9] (fun lv iv wr => ∃ (k : Nat) (lz : Int) (g : Fin 5 → Int), k ≤ ds.length ∧ iv = .int .i64 k ∧ lv = .int .i64 lz ∧ 0 ≤ lz ∧ lz ≤ 5000 ∧ Hid (RowN wr w.heap.size ((list5 g).take zs.length)) ∧ Hid (RowKit.Below w.heap.size w wr) ∧ w.heap.size < wr.heap.size ∧ Hid (inF (K zs) (ds.drop k) (lz * 120) g = r)) (fun _ iv _ => ds.length - (intOf iv).toNat)
  case atStart => exact ⟨0, x, fun _ => 0, Nat.zero_le _, rfl, rfl, hx0, hx1, Lib.hid hrow, Lib.hid hB, by omega, by simpa using HR⟩
  case round =>
    obtain ⟨k, lz, g, hk, rfl, rfl, hz, hz', hg, hBr, hsz, HG⟩ := hrel
    clear hrow hB
    by_cases hlt : k < ds.length
    · obtain ⟨b, off, rfl, hb, hcell⟩ := HGo.out k (by rw [valL_length]; exact hlt)
      have hcell' := (hBr.out.cell (p := ⟨b, off + k, none⟩) hb).trans hcell
      rw [valL_nth ds k hlt] at hcell'
      have hdr : ds.drop k = ds[k] :: ds.drop (k + 1) := List.drop_eq_getElem_cons hlt
      rw [hdr] at HG
      have hib := HD.out k hlt
      generalize ds[k] = i at hcell' HG hib
      have hcz := (hBr.out.cell (p := ⟨b0, o0 + i.val, none⟩) hb0).trans (HC.out i.val hib)
      have hst := hg.out.2 i.val
      have hgc := hg.out.cell i.val (by rw [list5_len _ _ h5]; exact hib)
      obtain ⟨n0, n1⟩ := HN.out i.val
      have hset : Hid (∀ v, RowN (wr.setCell ⟨w.heap.size, i.val, none⟩ (.int .i64 v)) w.heap.size ((list5 (upd g i v)).take zs.length)) := Lib.hid fun v => by rw [← list5_set g _ h5 i hib v]; exact hg.out.set i.val v (by rw [list5_len _ _ h5]; exact hib)
      have hBs : Hid (∀ v, RowKit.Below w.heap.size w (wr.setCell ⟨w.heap.size, i.val, none⟩ v)) := Lib.hid fun v => hBr.out.setCell (p := ⟨w.heap.size, i.val, none⟩) (Nat.le_refl _) v
      have hst2 : Hid (∀ m, m = min lz (nth zs i.val) → inF (K zs) (ds.drop (k + 1)) ((lz - m) * 120) (upd g i (120 * m)) = r) := Lib.hid fun m hm => by
        have hK : K zs i = nth zs i.val * 120 := rfl
        have e1 : min (K zs i) (lz * 120) = 120 * m := by rw [hK]; omega
        have := HG.out
        unfold inF at this
        rw [e1] at this
        rw [← this]; congr 1; omega
      have hi5 : ((i.val : Nat) : Int) < zs.length := by omega
      clear hdr HG hg
      generalize nth zs i.val = zi at *
      go_wp2
      go_roundw
      case rel => exact ⟨k + 1, lz - min lz zi, upd g i (120 * min lz zi), by omega, by go_num, rfl, by omega, by omega, Lib.hid (hset.out _), Lib.hid (hBs.out _), by simp only [World.size_setCell]; exact hsz, Lib.hid (hst2.out _ rfl)⟩
      case measure => simp [intOf]; omega
    · obtain rfl : k = ds.length := by omega
      have HG' : g = r := by
        have := HG.out; rw [List.drop_of_length_le (Nat.le_refl _)] at this; exact this
      subst HG'
      have HI : Hid (IntsAt wr (some ⟨w.heap.size, 0, none⟩) ((list5 g).take zs.length)) := Lib.hid hg.out.ints
      clear hg HG HR
      go_wp2
      go_ret
      exact ⟨_, rfl, HI.out, hBr.out⟩
theorem rinOrder_any (x : Int) (zs : List Int) (a c : Option Addr) (cap dap : Nat) (ds : List (Fin 5)) (w : World) (h : Full5 x zs) (hl : ds.length ≤ 5) (hd : ∀ d ∈ ds, d.val < zs.length) (hA : IntsAt w a zs) (hG : IntsAt w c (valL ds)) :
    Calls Try.prog 72 #[.int .i64 x, .slice a zs.length cap, .slice c ds.length dap] w (SlO zs.length w ((list5 (inF (K zs) ds (x * 120) (fun _ => 0))).take zs.length)) :=
  (rinOrder_row x zs a c cap dap ds w h hl hd hA hG).mono fun _ _ ⟨cp, e, hI, hB⟩ => ⟨_, cp, e, hI, hB⟩
end
section
def seenF (os : List Int) (k : Nat) : Fin 5 → Bool := fun i => decide ((i.val : Int) ∈ os.take k)
theorem once_step (n : Nat) (hn : n ≤ 5) (os : List Int) (k : Nat) (hk : k < os.length) :
    (¬ (0 ≤ nth os k ∧ nth os k ≤ (n : Int) - 1) → onceF n (os.drop k) (seenF os k) = 2) ∧
    (0 ≤ nth os k ∧ nth os k ≤ (n : Int) - 1 → nth os k ∈ os.take k → onceF n (os.drop k) (seenF os k) = 6) ∧
    (0 ≤ nth os k ∧ nth os k ≤ (n : Int) - 1 → ¬ nth os k ∈ os.take k → onceF n (os.drop k) (seenF os k) = onceF n (os.drop (k + 1)) (seenF os (k + 1))) := by
  rw [drop_nth os k hk]
  refine ⟨fun h => ?_, fun h hm => ?_, fun h hm => ?_⟩
  · unfold onceF; rw [dif_neg (by omega)]
  · have hc : 0 ≤ nth os k ∧ nth os k < n ∧ (nth os k).toNat < 5 := by omega
    unfold onceF; rw [dif_pos hc, if_pos]
    have e : (((nth os k).toNat : Nat) : Int) = nth os k := by omega
    simp only [seenF, e]; exact decide_eq_true hm
  · have hc : 0 ≤ nth os k ∧ nth os k < n ∧ (nth os k).toNat < 5 := by omega
    have e : (((nth os k).toNat : Nat) : Int) = nth os k := by omega
    conv => lhs; unfold onceF
    rw [dif_pos hc, if_neg (by simp only [seenF, e]; simpa using hm)]
    congr 1
    funext i
    unfold updB seenF
    rw [take_succ' os k hk]
    by_cases hi : i = ⟨(nth os k).toNat, hc.2.2⟩
    · subst hi; simp [e]
    · have : ((i.val : Nat) : Int) ≠ nth os k := fun h => hi (Fin.ext (by simp only; omega))
      simp [hi, this]
set_option maxRecDepth 100000 in
set_option maxHeartbeats 2000000 in
theorem rorder_err1 (x : Int) (a c : Option Addr) (cap dap : Nat) (zs os : List Int) (w : World) (hl : zs.length ≤ 9223372036854775807) (hA : IntsAt w a zs) (hc : chk x zs ≠ 0) :
    Calls Try.prog 29 #[.int .i64 x, .slice a zs.length cap, .slice c os.length dap] w (NilE (chk x zs) w) := by
  have HC := Lib.hid (rchk_any x a cap zs w hl hA)
  clear hA
  generalize chk x zs = r at *
  have e1 : (r == 0) = false := by rw [beq_eq_false_iff_ne]; exact hc
  have e2 : (r != 0) = true := by rw [bne_iff_ne]; exact hc
  go_enter Try.func29, Try.ntmps29
  go_wp2_with fail
  refine HC.out.mono ?_
  rintro _ _ ⟨rfl, rfl⟩
  go_wp2_with fail
  go_loop [8, 9] (fun ev iv => ev = .int .i64 r ∧ iv = .int .i64 0) (fun _ _ => 0)
  case atStart => exact ⟨rfl, rfl⟩
  case round =>
    obtain ⟨rfl, rfl⟩ := hrel
    go_wp2
    all_goals
      go_ret2
      exact ⟨rfl, rfl⟩
set_option maxRecDepth 100000 in
set_option maxHeartbeats 2000000 in
theorem rorder_err2 (x : Int) (a c : Option Addr) (cap dap : Nat) (zs os : List Int) (w : World) (hA : IntsAt w a zs) (hc : chk x zs = 0) (ho : os.length ≠ zs.length) :
    Calls Try.prog 29 #[.int .i64 x, .slice a zs.length cap, .slice c os.length dap] w (NilE 5 w) := by
  have hF := full_of_chk hc
  have h5 := hF.2.1
  have HC := Lib.hid (rchk_any x a cap zs w (by omega) hA)
  rw [hc] at HC
  clear hA hc hF
  have e1 : ((os.length : Int) != zs.length) = true := by rw [bne_iff_ne]; omega
  go_enter Try.func29, Try.ntmps29
  go_wp2_with fail
  refine HC.out.mono ?_
  rintro _ _ ⟨rfl, rfl⟩
  go_wp2_with fail
  go_loop [8, 9] (fun ev iv => ev = .int .i64 5 ∧ iv = .int .i64 0) (fun _ _ => 0)
  case atStart => exact ⟨rfl, rfl⟩
  case round =>
    obtain ⟨rfl, rfl⟩ := hrel
    go_wp2
    all_goals
      go_ret2
      exact ⟨rfl, rfl⟩
def OrdPost (n : Nat) (E : Int) (L : List Int) (w : World) (e : Ending) (w' : World) : Prop :=
  (E ≠ 0 ∧ e = .returned (.tuple #[.slice none 0 0, .int .i64 E]) ∧ Fut w w') ∨ (E = 0 ∧ SlN n w L e w')
set_option maxRecDepth 100000 in
set_option maxHeartbeats 4000000 in
theorem rorder_len (x : Int) (a c : Option Addr) (cap dap : Nat) (zs os : List Int) (ds : List (Fin 5)) (w : World) (hcap : os.length ≤ dap) (hA : IntsAt w a zs) (hG : IntsAt w c os) (hc : chk x zs = 0) (ho : os.length = zs.length)
    (hds : onceF zs.length os (fun _ => false) = 0 → valL ds = os ∧ ∀ d ∈ ds, d.val < zs.length) :
    Calls Try.prog 29 #[.int .i64 x, .slice a zs.length cap, .slice c os.length dap] w (OrdPost zs.length (onceF zs.length os (fun _ => false)) ((list5 (inF (K zs) ds (x * 120) (fun _ => 0))).take zs.length) w) := by
  have hF := full_of_chk hc
  have h1 := hF.1
  have h5 := hF.2.1
  have HC := Lib.hid (rchk_any x a cap zs w (by omega) hA)
  rw [hc] at HC
  have HS := Lib.hid (fun k hk => once_step zs.length h5 os k hk)
  have HI : Hid (onceF zs.length os (fun _ => false) = 0 → ∀ q, Calls Try.prog 72 #[.int .i64 x, .slice a zs.length cap, .slice c zs.length dap] (w.drewN q) (SlO zs.length (w.drewN q) ((list5 (inF (K zs) ds (x * 120) (fun _ => 0))).take zs.length))) := Lib.hid fun h q => by
    obtain ⟨h2, h3⟩ := hds h
    have h4 : ds.length = zs.length := by rw [← ho, ← h2, valL_length]
    have := rinOrder_any x zs a c cap dap ds (w.drewN q) hF (by omega) h3 (hA.fut (Fut.drewN _ _)) (by rw [h2]; exact hG.fut (Fut.drewN _ _))
    rw [h4] at this; exact this
  have HO := Lib.hid ho
  obtain ⟨b, off, rfl, hb, hcl⟩ := hG.addr (by omega)
  have HCL := Lib.hid hcl
  have HH : Hid (∀ k q, k < os.length → Calls Try.prog 71 #[.slice (some ⟨b, off, none⟩) k dap, .int .i64 (nth os k)] (w.drewN q) (HasPost (os.take k) (nth os k) (w.drewN q))) := Lib.hid fun k q hk => by
    have hl : (os.take k).length = k := by rw [List.length_take]; omega
    have := rhas_any (some ⟨b, off, none⟩) dap (os.take k) (nth os k) (w.drewN q) (by omega) (fun j hj => by
      rw [hl] at hj
      have h2 := hcl j (by omega)
      exact ⟨b, off, rfl, hb, by rw [show nth (os.take k) j = nth os j by rw [nth_eq, nth_eq, List.getElem?_take, if_pos hj]]; exact h2⟩)
    rw [hl] at this; exact this
  have e1 : ((os.length : Int) != zs.length) = false := by simp [ho]
  have hdap : zs.length ≤ dap := by omega
  have h5x : (zs.length : Int) ≤ 5 := by omega
  have h1x : 1 ≤ (zs.length : Int) := by omega
  have hE : onceF zs.length os (seenF os 0) = onceF zs.length os (fun _ => false) := congrArg _ (funext fun i => by simp [seenF])
  have HE := Lib.hid hE
  clear hA hc hF hG hcl hds hE hcap
  rw [ho] at e1
  rw [ho]
  clear ho
  generalize hEE : onceF zs.length os (fun _ => false) = E at *
  clear hEE
  go_enter Try.func29, Try.ntmps29
  go_wp2_with fail
  refine HC.out.mono ?_
  rintro _ _ ⟨rfl, rfl⟩
  go_wp2_with fail
  go_loopw [8, 9] (fun ev iv wr => ∃ (k q : Nat), k ≤ zs.length ∧ iv = .int .i64 k ∧ wr = w.drewN q ∧ ((ev = .int .i64 0 ∧ Hid (onceF zs.length (os.drop k) (seenF os k) = E)) ∨ (ev = .int .i64 E ∧ E ≠ 0))) (fun ev iv _ => zs.length + 1 - (intOf iv).toNat)
  case atStart => exact ⟨0, 0, Nat.zero_le _, rfl, rfl, .inl ⟨rfl, Lib.hid (by simpa using HE.out)⟩⟩
  case round =>
    obtain ⟨k, q, hk, rfl, rfl, ⟨rfl, HP⟩ | ⟨rfl, HP⟩⟩ := hrel
    · by_cases hlt : k < zs.length
      · have c1 : (w.drewN q).cell? ⟨b, off + k, none⟩ = some (.int .i64 (nth os k)) := HCL.out k (by rw [HO.out]; exact hlt)
        obtain ⟨s1, s2, s3⟩ := HS.out k (by rw [HO.out]; exact hlt)
        rw [HP.out] at s1 s2 s3
        have S1 := Lib.hid s1
        have S2 := Lib.hid s2
        have S3 := Lib.hid s3
        have HK : Hid (∀ q', Calls Try.prog 71 #[.slice (some ⟨b, off, none⟩) k dap, .int .i64 (nth os k)] ((w.drewN q).drewN q') (HasPost (os.take k) (nth os k) ((w.drewN q).drewN q'))) := Lib.hid fun q' => by
          rw [World.drewN_drewN]; exact HH.out k _ (by rw [HO.out]; exact hlt)
        have HN := Lib.hid (fun W => in_any (nth os k) 0 ((zs.length : Int) - 1) W)
        have hkx : (k : Int) < zs.length := by omega
        have hkd : k ≤ dap := by omega
        have hkd2 : (k : Int) ≤ dap := by omega
        clear s1 s2 s3 HP
        generalize nth os k = y at *
        by_cases hin : 0 ≤ y ∧ y ≤ (zs.length : Int) - 1
        · have hb1 : (decide (0 ≤ y) && decide (y ≤ (zs.length : Int) - 1)) = true := by simp [hin]
          rw [hb1] at HN
          generalize hw : w.drewN q = wq at c1 HK
          have HW := Lib.hid hw
          have HIN := Lib.hid hin
          clear hw hb1
          by_cases hm : y ∈ os.take k
          · have HKT : Hid (∀ q', Calls Try.prog 71 #[.slice (some ⟨b, off, none⟩) k dap, .int .i64 y] (wq.drewN q') fun e w' => e = .returned (.bool true) ∧ w' = wq.drewN q') := Lib.hid fun q' => (HK.out q').mono fun e w' h => by
              obtain ⟨r, rfl, hr, rfl⟩ := h
              rw [hr.2 hm]; exact ⟨rfl, rfl⟩
            have hE6 : E = 6 := S2.out hin hm
            clear HK hm hin
            go_wp2_with (go_at_call 66; refine (HN.out _).mono ?_; rintro e w' ⟨rfl, rfl⟩)
            go_quiet ((go_at_call 71; exact Calls.quiet_of_same (HKT.out _)))
            go_wp2
            go_roundw
            case rel => exact ⟨k + 1, q + nq, by omega, by go_num, by rw [← HW.out, World.drewN_drewN], .inr ⟨by rw [hE6], by omega⟩⟩
            case measure => simp [intOf]; omega
          · have HKT : Hid (∀ q', Calls Try.prog 71 #[.slice (some ⟨b, off, none⟩) k dap, .int .i64 y] (wq.drewN q') fun e w' => e = .returned (.bool false) ∧ w' = wq.drewN q') := Lib.hid fun q' => (HK.out q').mono fun e w' h => by
              obtain ⟨r, rfl, hr, rfl⟩ := h
              rw [show r = false by rw [← Bool.not_eq_true]; exact fun h => hm (hr.1 h)]; exact ⟨rfl, rfl⟩
            have HP2 := Lib.hid (S3.out hin hm).symm
            clear HK hm hin
            go_wp2_with (go_at_call 66; refine (HN.out _).mono ?_; rintro e w' ⟨rfl, rfl⟩)
            go_quiet ((go_at_call 71; exact Calls.quiet_of_same (HKT.out _)))
            go_wp2
            go_roundw
            case rel => exact ⟨k + 1, q + nq, by omega, by go_num, by rw [← HW.out, World.drewN_drewN], .inl ⟨rfl, HP2⟩⟩
            case measure => simp [intOf]; omega
        · have hb1 : (decide (0 ≤ y) && decide (y ≤ (zs.length : Int) - 1)) = false := by rw [← Bool.not_eq_true]; simpa using hin
          have hE2 : E = 2 := S1.out hin
          rw [hb1] at HN
          clear hin hb1
          go_wp2_with (go_at_call 66; refine (HN.out _).mono ?_; rintro e w' ⟨rfl, rfl⟩)
          go_roundw
          case rel => exact ⟨k + 1, q, by omega, by go_num, rfl, .inr ⟨by rw [hE2], by omega⟩⟩
          case measure => simp [intOf]; omega
      · obtain rfl : k = zs.length := by omega
        have hE0 : E = 0 := by
          have := HP.out; rw [List.drop_of_length_le (by rw [HO.out]; exact Nat.le_refl _)] at this; rw [← this]; rfl
        have HII := Lib.hid (HI.out hE0 q)
        clear HP
        go_wp2_with fail
        refine HII.out.mono ?_
        rintro _ w2 ⟨l2, cap2, rfl, hA2, F2⟩
        have HA2 := Lib.hid hA2
        clear hA2
        go_wp2_with fail
        go_ret2
        exact .inr ⟨hE0, _, _, rfl, HA2.out, (Fut.drewN _ _).trans F2⟩
    · have e2 : (E == 0) = false := by rw [beq_eq_false_iff_ne]; exact HP
      have e3 : (E != 0) = true := by rw [bne_iff_ne]; exact HP
      by_cases hlt : k < zs.length
      all_goals
        go_wp2
        go_ret2
        exact .inl ⟨HP, rfl, Fut.drewN _ _⟩
end
section
theorem raverage_err (x : Int) (a : Option Addr) (cap : Nat) (zs : List Int) (w : World) (hl : zs.length ≤ 9223372036854775807) (hA : IntsAt w a zs) (hc : chk x zs ≠ 0) :
    Calls Try.prog 31 #[.int .i64 x, .slice a zs.length cap] w (NilE (chk x zs) w) := by
  have HC := Lib.hid (rchk_any x a cap zs w hl hA)
  clear hA
  generalize chk x zs = r at *
  have e2 : (r != 0) = true := by rw [bne_iff_ne]; exact hc
  go_enter Try.func31, Try.ntmps31
  go_wp2_with fail
  refine HC.out.mono ?_
  rintro _ _ ⟨rfl, rfl⟩
  go_wp2_with fail
  go_ret2
  exact ⟨rfl, rfl⟩
/-- the reference's order, all ways at once. -/
theorem rorder_any (x : Int) (a c : Option Addr) (cap dap : Nat) (zs os : List Int) (ds : List (Fin 5)) (w : World) (hcap : os.length ≤ dap) (hA : IntsAt w a zs) (hG : IntsAt w c os) (hc : chk x zs = 0)
    (hds : onceE zs.length os = 0 → valL ds = os ∧ ∀ d ∈ ds, d.val < zs.length) :
    Calls Try.prog 29 #[.int .i64 x, .slice a zs.length cap, .slice c os.length dap] w (OrdPost zs.length (onceE zs.length os) ((list5 (inF (K zs) ds (x * 120) (fun _ => 0))).take zs.length) w) := by
  by_cases ho : os.length = zs.length
  · have e : onceE zs.length os = onceF zs.length os (fun _ => false) := by unfold onceE; rw [if_neg (by omega)]
    rw [e] at hds ⊢
    exact rorder_len x a c cap dap zs os ds w hcap hA hG hc ho hds
  · have e : onceE zs.length os = 5 := by unfold onceE; rw [if_pos ho]
    rw [e]
    refine (rorder_err2 x a c cap dap zs os w hA hc ho).mono fun e w' h => ?_
    obtain ⟨rfl, rfl⟩ := h
    exact .inl ⟨by decide, rfl, RowKit.Below.refl _ _⟩
end
section
/-- the elements of a list of orders: each in a block from B on that is not X. -/
def ElsAt (w : World) (B : Nat) (X : Option Nat) (vs : List Value) (L : List (List (Fin 5))) : Prop :=
  vs.length = L.length ∧ ∀ (k : Nat) (os : List (Fin 5)), L[k]? = some os → ∃ gb cap : Nat, vs[k]? = some (Value.slice (some ⟨gb, 0, none⟩) os.length cap) ∧ B ≤ gb ∧ gb < w.heap.size ∧ some gb ≠ X ∧ IntsAt w (some ⟨gb, 0, none⟩) (valL os)
section
variable {w w' : World} {B B' : Nat} {X X' : Option Nat} {vs us : List Value} {L M : List (List (Fin 5))}
theorem ElsAt.nil (w : World) (B : Nat) (X : Option Nat) : ElsAt w B X [] [] := ⟨rfl, fun k os h => by simp at h⟩
theorem ElsAt.app (h : ElsAt w B X vs L) (h' : ElsAt w B X us M) : ElsAt w B X (vs ++ us) (L ++ M) := by
  refine ⟨by rw [List.length_append, List.length_append, h.1, h'.1], fun k os hk => ?_⟩
  rw [List.getElem?_append] at hk
  split at hk
  · rename_i hlt
    obtain ⟨gb, cap, e, r⟩ := h.2 k os hk
    exact ⟨gb, cap, by rw [List.getElem?_append, if_pos (by rw [h.1]; exact hlt)]; exact e, r⟩
  · rename_i hlt
    obtain ⟨gb, cap, e, r⟩ := h'.2 _ os hk
    exact ⟨gb, cap, by rw [List.getElem?_append, if_neg (by rw [h.1]; exact hlt), h.1]; exact e, r⟩
theorem ints_keep {gb : Nat} {zs : List Int} (h : IntsAt w (some ⟨gb, 0, none⟩) zs) (hs : w.heap.size ≤ w'.heap.size) (hb : w'.heap[gb]? = w.heap[gb]?) : IntsAt w' (some ⟨gb, 0, none⟩) zs := fun j hj => by
  obtain ⟨b, off, e, h1, h2⟩ := h j hj
  injection e with e
  injection e with e1 e2
  subst e1 e2
  exact ⟨gb, 0, rfl, Nat.lt_of_lt_of_le h1 hs, (World.cell?_of_block (a := ⟨gb, 0 + j, none⟩) hb).trans h2⟩
theorem ElsAt.keep (h : ElsAt w B X vs L) (hs : w.heap.size ≤ w'.heap.size) (hk : ∀ b, b < w.heap.size → some b ≠ X → w'.heap[b]? = w.heap[b]?) : ElsAt w' B X vs L :=
  ⟨h.1, fun k os hk' => by
    obtain ⟨gb, cap, e, h1, h2, h3, h4⟩ := h.2 k os hk'
    exact ⟨gb, cap, e, h1, Nat.lt_of_lt_of_le h2 hs, h3, ints_keep h4 hs (hk gb h2 h3)⟩⟩
theorem ElsAt.fut (h : ElsAt w B X vs L) (F : Fut w w') : ElsAt w' B X vs L := h.keep (RowKit.Below.size F) fun b hb _ => RowKit.Below.block F b hb
theorem ElsAt.step (h : ElsAt w B X vs L) (hg : w.grownBy w' X) (hX : X' = X ∨ X' = some w.heap.size) : ElsAt w' B X' vs L :=
  ⟨h.1, fun k os hk' => by
    obtain ⟨gb, cap, e, h1, h2, h3, h4⟩ := h.2 k os hk'
    refine ⟨gb, cap, e, h1, Nat.lt_of_lt_of_le h2 hg.size, ?_, ints_keep h4 hg.size (hg.block gb h2 h3)⟩
    rcases hX with rfl | rfl
    · exact h3
    · intro e; injection e with e; omega⟩
theorem ElsAt.mono (h : ElsAt w B X vs L) (hB : B' ≤ B) : ElsAt w B' X vs L :=
  ⟨h.1, fun k os hk' => by
    obtain ⟨gb, cap, e, h1, r⟩ := h.2 k os hk'
    exact ⟨gb, cap, e, Nat.le_trans hB h1, r⟩⟩
theorem ElsAt.far (h : ElsAt w B X' vs L) (hx : ∀ g, X = some g → g < B) : ElsAt w B X vs L :=
  ⟨h.1, fun k os hk' => by
    obtain ⟨gb, cap, e, h1, h2, h3, h4⟩ := h.2 k os hk'
    exact ⟨gb, cap, e, h1, h2, fun e => by have := hx gb e.symm; omega, h4⟩⟩
theorem ElsAt.cell1 (h : ElsAt w B X vs L) : ∀ u ∈ vs, u.oneCell' = true := fun u hu => by
  obtain ⟨k, hk, e⟩ := List.mem_iff_getElem.1 hu
  obtain ⟨gb, cap, e', _⟩ := h.2 k (L[k]'(by rw [← h.1]; exact hk)) (List.getElem?_eq_getElem _)
  rw [List.getElem?_eq_getElem hk, e] at e'
  injection e' with e'
  rw [e']; rfl
end
/-- a slice of orders. -/
def LsAt (w : World) (B : Nat) (v : Value) (L : List (List (Fin 5))) : Prop :=
  ∃ (g cap : Nat) (vs : List Value), v = Value.slice (some ⟨g, 0, none⟩) L.length cap ∧ g < w.heap.size ∧ (∀ (j : Nat) (u : Value), vs[j]? = some u → w.cell? ⟨g, j, none⟩ = some u) ∧ ElsAt w B none vs L
theorem LsAt.fut {w w' : World} {B : Nat} {v : Value} {L : List (List (Fin 5))} (h : LsAt w B v L) (F : Fut w w') : LsAt w' B v L := by
  obtain ⟨g, cap, vs, e, h1, h2, h3⟩ := h
  exact ⟨g, cap, vs, e, Nat.lt_of_lt_of_le h1 (RowKit.Below.size F), fun j u hu => (RowKit.Below.cell F (p := ⟨g, j, none⟩) h1).trans (h2 j u hu), h3.fut F⟩
theorem LsAt.at {w : World} {B : Nat} {v : Value} {L : List (List (Fin 5))} (h : LsAt w B v L) : ∃ g cap : Nat, v = Value.slice (some ⟨g, 0, none⟩) L.length cap ∧ g < w.heap.size ∧
    ∀ (k : Nat) (os : List (Fin 5)), L[k]? = some os → ∃ gb c : Nat, w.cell? ⟨g, k, none⟩ = some (Value.slice (some ⟨gb, 0, none⟩) os.length c) ∧ IntsAt w (some ⟨gb, 0, none⟩) (valL os) := by
  obtain ⟨g, cap, vs, e, h1, h2, h3⟩ := h
  refine ⟨g, cap, e, h1, fun k os hk => ?_⟩
  obtain ⟨gb, c, e', _, _, _, h4⟩ := h3.2 k os hk
  exact ⟨gb, c, h2 k _ e', h4⟩
/-- an own row of slices is a slice of orders. -/
theorem LsAt.own {w : World} {B B' n : Nat} {v : Value} {vs : List Value} {L : List (List (Fin 5))} {X : Option Nat} {e : TypeId} (h : w.ownsRow B' e 1 v n vs) (hn : n = L.length) (h0 : 0 < L.length) (hE : ElsAt w B X vs L) : LsAt w B v L := by
  subst hn
  obtain ⟨g, cap, rfl, _, hlt⟩ := h.form h0
  refine ⟨g, cap, vs, rfl, hlt, fun j u hu => ?_, hE.1, fun k os hk => ?_⟩
  · have := h.cells (g := g) rfl j u hu
    have hadd : (⟨g, 0, none⟩ : Addr).add j = ⟨g, j, none⟩ := by unfold Addr.add; split <;> simp_all
    rw [hadd] at this; exact this
  · obtain ⟨gb, c, e', h1, h2, _, h4⟩ := hE.2 k os hk
    exact ⟨gb, c, e', h1, h2, (fun e => by cases e), h4⟩
theorem ext_pos (n : Nat) (hn : n ≤ 5) : ∀ (r : Nat) (os rest : List (Fin 5)), (os ++ rest).Perm (idxL n) → rest.length = r → 0 < (ext n r os).length
  | 0, _, _, _, _ => by simp [ext]
  | r + 1, os, rest, hp, hr => by
    match rest, hr with
    | d :: rest, hr =>
      have hd : d ∈ idxL n := hp.mem_iff.1 (List.mem_append.2 (.inr (List.mem_cons_self ..)))
      have hni : d ∉ os := by
        have h1 := hp.nodup_iff.2 (idxL_nodup n)
        intro h
        exact (List.nodup_append.1 h1).2.2 d h d (List.mem_cons_self ..) rfl
      have ih := ext_pos n hn r (os ++ [d]) rest (by rw [List.append_assoc]; exact hp) (by simpa using hr)
      unfold ext
      obtain ⟨l1, l2, e⟩ := List.append_of_mem hd
      rw [e, List.flatMap_append, List.flatMap_cons, if_neg hni, List.length_append, List.length_append]
      omega
end
section
theorem info22 : (Try.prog.info? 22).map (fun i => (i.zero, i.size, i.bytes)) = some (some (.slice none 0 0), 1, 24) := by kernel_rfl
def LsPost (B : Nat) (L : List (List (Fin 5))) (w : World) (e : Ending) (w' : World) : Prop := ∃ v, e = .returned v ∧ LsAt w' B v L ∧ Fut w w'
theorem leaf_post (B n : Nat) (os : List (Fin 5)) (bo : Nat) (co : Nat) (w : World) (hl : os.length = n) (hB : B ≤ bo) (hb : bo < w.heap.size) (hA : IntsAt w (some ⟨bo, 0, none⟩) (valL os)) :
    LsPost B [os] w (.returned (.slice (some ⟨w.heap.size, 0, none⟩) 1 1)) (w.alloc (.cells #[.slice (some ⟨bo, 0, none⟩) n co] 22)) := by
  refine ⟨_, rfl, ⟨w.heap.size, 1, [.slice (some ⟨bo, 0, none⟩) n co], rfl, by simp, fun j u hu => ?_, rfl, fun k os' hk => ?_⟩, Fut.alloc _ _⟩
  · rw [World.cell?_alloc_at _ _ _ _ rfl]
    match j, hu with
    | 0, hu => simpa using hu
  · match k, hk with
    | 0, hk =>
      simp at hk; subst hk
      exact ⟨bo, co, by simp [hl], hB, by simp; omega, (fun e => by cases e), hA.fut (Fut.alloc _ _)⟩
set_option maxRecDepth 100000 in
set_option maxHeartbeats 4000000 in
theorem rorders_leaf (B n : Nat) (hn : n ≤ 5) (os : List (Fin 5)) (bo : Nat) (co : Nat) (w : World) (hl : os.length = n) (hB : B ≤ bo) (hb : bo < w.heap.size) (hA : IntsAt w (some ⟨bo, 0, none⟩) (valL os)) :
    Calls Try.prog 75 #[.int .i64 n, .slice (some ⟨bo, 0, none⟩) os.length co] w (LsPost B [os] w) := by
  have HP := Lib.hid (leaf_post B n os bo co w hl hB hb hA)
  subst hl
  have hn' : (os.length : Int) ≤ 5 := by omega
  clear hA
  go_enter Try.func75, Try.ntmps75
  go_wp2_with fail
  go_ret
  exact HP.out
end
section
theorem add0 (g j : Nat) : (⟨g, 0, none⟩ : Addr).add j = ⟨g, j, none⟩ := by unfold Addr.add; split <;> simp_all
theorem news_ints {w : World} {gb : Nat} {zs : List Int} (h : IntsAt w (some ⟨gb, 0, none⟩) zs) : ∀ j u, (zs.map (Value.int .i64))[j]? = some u → w.cell? ((⟨gb, 0, none⟩ : Addr).add j) = some u := fun j u hu => by
  rw [List.getElem?_map] at hu
  by_cases hj : j < zs.length
  · obtain ⟨b', o', e, h1, h2⟩ := h j hj
    injection e with e
    injection e with e1 e2
    subst e1 e2
    rw [add0, ← Nat.zero_add j, h2, nth_eq]
    rw [List.getElem?_eq_getElem hj] at hu ⊢
    simpa using hu
  · rw [List.getElem?_eq_none (by omega)] at hu
    cases hu
theorem own_below {w w' : World} {B : Nat} {e : TypeId} {k : Nat} {v : Value} {n : Nat} {xs : List Value} (h : w.ownsRow B e k v n xs) (hb : Fut w w') : w'.ownsRow B e k v n xs := by
  obtain ⟨h1, h2⟩ := h
  refine ⟨h1, ?_⟩
  rcases h2 with h2 | ⟨g, cap, cur, e1, hbg, hg, r⟩
  · exact .inl h2
  · exact .inr ⟨g, cap, cur, e1, hbg, (RowKit.Below.block hb g (Array.getElem?_eq_some_iff.1 hg).1).trans hg, r⟩
/-- what the orders before the k-th number left. -/
def Out (w0 : World) (B : Nat) (L : List (List (Fin 5))) (v : Value) (w : World) : Prop :=
  ∃ vs, w.ownsRow w0.heap.size 22 1 v L.length vs ∧ ElsAt w B v.ownBlock vs L ∧ Fut w0 w
theorem Out.fut {w0 w w' : World} {B : Nat} {L : List (List (Fin 5))} {v : Value} (h : Out w0 B L v w) (F : Fut w w') : Out w0 B L v w' := by
  obtain ⟨vs, h1, h2, h3⟩ := h
  exact ⟨vs, own_below h1 F, h2.fut F, h3.trans F⟩
theorem Out.app {w0 w w' : World} {B B' : Nat} {L M : List (List (Fin 5))} {v v' : Value} {vs us : List Value} {X : Option Nat} (h1 : w.ownsRow w0.heap.size 22 1 v L.length vs) (h2 : ElsAt w B v.ownBlock vs L) (h3 : Fut w0 w)
    (hM : ElsAt w B' X us M) (hB : B ≤ B') (hv : ∀ g, v.ownBlock = some g → g < B') (hown : w'.ownsRow w0.heap.size 22 1 v' (L.length + M.length) (vs ++ us)) (hg : w.grownBy w' v.ownBlock) (hat : v'.ownBlock = v.ownBlock ∨ v'.ownBlock = some w.heap.size) :
    Out w0 B (L ++ M) v' w' := by
  refine ⟨vs ++ us, by rw [List.length_append]; exact hown, (h2.step hg hat).app (((hM.far hv).mono hB).step hg hat), ?_⟩
  exact RowKit.Below.grown h3 hg (RowKit.Below.size h3) (fun i hi => (h1.lt i hi).1)
set_option maxRecDepth 100000 in
set_option maxHeartbeats 8000000 in
theorem rorders_some (n : Nat) (hn : n ≤ 5) : ∀ (r : Nat) (os rest : List (Fin 5)) (gb co : Nat) (B : Nat) (w : World), (os ++ rest).Perm (idxL n) → rest.length = r → B ≤ w.heap.size →
    B ≤ gb → gb < w.heap.size → IntsAt w (some ⟨gb, 0, none⟩) (valL os) →
    Calls Try.prog 75 #[.int .i64 n, .slice (some ⟨gb, 0, none⟩) os.length co] w (LsPost B (ext n r os) w)
  | 0, os, rest, gb, co, B, w, hp, hr, hB, h1, h2, hA => by
    have h0 : rest = [] := List.eq_nil_of_length_eq_zero hr
    subst h0
    rw [List.append_nil] at hp
    have hl : os.length = n := by rw [hp.length_eq, idxL_length _ hn]
    exact rorders_leaf B n hn os gb co w hl h1 h2 hA
  | r + 1, os, rest, gb, co, B, w, hp, hr, hB, hgb, hgl, hA => by
    have ih := rorders_some n hn r
    have IH := Lib.hid ih
    clear ih
    obtain ⟨i0, hi, hz0, hz1, hz2⟩ := info_parts info3
    obtain ⟨i1, ki, kz0, kz1, kz2⟩ := info_parts info22
    have hol : os.length + (r + 1) = n := by rw [← hr, ← List.length_append, hp.length_eq, idxL_length _ hn]
    have hox : (os.length : Int) < n := by omega
    have hne : ((os.length : Int) == n) = false := by rw [beq_eq_false_iff_ne]; omega
    have hnx : (n : Int) ≤ 5 := by omega
    have HPOS : Hid (0 < (ext n (r + 1) os).length) := Lib.hid (ext_pos n hn (r + 1) os rest hp hr)
    have HE : Hid (extK n r os n = ext n (r + 1) os) := Lib.hid (extK_all _ _ _ hn)
    rw [← HE.out] at HPOS ⊢
    have HP := Lib.hid hp
    have HR := Lib.hid hr
    have HB := Lib.hid hB
    have HA := Lib.hid hA
    have hosl : os.length ≤ 5 := by omega
    clear hp hr hA HE hB hgb hgl
    go_enter Try.func75, Try.ntmps75
    go_wp2_with fail
    go_loopw [5, 6] (fun ov kv wr => ∃ k : Nat, k ≤ n ∧ kv = .int .i64 k ∧ Hid (Out w B (extK n r os k) ov wr)) (fun _ kv _ => n - (intOf kv).toNat)
    case atStart => exact ⟨0, Nat.zero_le _, rfl, Lib.hid ⟨[], World.ownsRow_nil _ _ _ _, ElsAt.nil _ _ _, Fut.rfl⟩⟩
    case round =>
      obtain ⟨k, hk, rfl, HO⟩ := hrel
      by_cases hkt : k < n
      · have hkx : (k : Int) < n := by omega
        have hex := Lib.hid (extK_succ n r os k hn hkt)
        have hFw := HO.out.choose_spec.2.2
        have HHAS := Lib.hid (rhas_any (some ⟨gb, 0, none⟩) co (valL os) k wr (by rw [valL_length]; omega) (HA.out.fut hFw))
        rw [valL_length] at HHAS
        by_cases hd : (⟨k, by omega⟩ : Fin 5) ∈ os
        · have HV := Lib.hid ((val_mem os ⟨k, by omega⟩).2 hd)
          have HEK : Hid (extK n r os (k + 1) = extK n r os k) := Lib.hid (by rw [hex.out, if_pos hd, List.append_nil])
          rw [← HEK.out] at HO
          clear hd hex hFw
          go_wp2_with fail
          refine HHAS.out.mono ?_
          rintro _ _ ⟨b, rfl, hb, rfl⟩
          obtain rfl : b = true := hb.2 HV.out
          clear hb
          go_wp2
          go_roundw
          case rel => exact ⟨k + 1, by omega, by go_num, HO⟩
          case measure => simp [intOf]; omega
        · have HV : Hid (¬ (k : Int) ∈ valL os) := Lib.hid fun h => hd ((val_mem os ⟨k, by omega⟩).1 h)
          have HEK : Hid (extK n r os (k + 1) = extK n r os k ++ ext n r (os ++ [⟨k, by omega⟩])) := Lib.hid (by rw [hex.out, if_neg hd])
          obtain ⟨hp2, hl2⟩ := rest_step HP.out ⟨k, by omega⟩ (idx_mem ⟨n, by omega⟩ ⟨k, by omega⟩ hkt) hd
          have HIH : Hid (∀ (g cp : Nat) (w1 : World), Fut wr w1 → wr.heap.size ≤ g → g < w1.heap.size → IntsAt w1 (some ⟨g, 0, none⟩) (valL (os ++ [⟨k, by omega⟩])) →
              Calls Try.prog 75 #[.int .i64 n, .slice (some ⟨g, 0, none⟩) (os.length + 1) cp] w1 (LsPost wr.heap.size (ext n r (os ++ [⟨k, by omega⟩])) w1)) := Lib.hid (fun g cp w1 F hg hgl hi => by
            have := IH.out (os ++ [⟨k, by omega⟩]) (rest.erase ⟨k, by omega⟩) g cp wr.heap.size w1 hp2 (by rw [HR.out] at hl2; omega) (RowKit.Below.size F) hg hgl hi
            rw [List.length_append] at this
            exact this)
          have HEL : Hid ((ext n r (os ++ [(⟨k, by omega⟩ : Fin 5)])).length ≤ 5 ^ 5) := Lib.hid (Nat.le_trans (ext_len n hn r _) (Nat.pow_le_pow_right (by omega) (by omega)))
          have HKL : Hid ((extK n r os k).length ≤ 5 ^ 5) := Lib.hid (Nat.le_trans (extK_len n hn r k os hk) (by
            refine Nat.le_trans (Nat.mul_le_mul (show k ≤ 5 by omega) (Nat.pow_le_pow_right (by omega) (show r ≤ 4 by omega))) (by decide)))
          have HVAL : Hid ((valL (os ++ [(⟨k, by omega⟩ : Fin 5)])).map (Value.int .i64) = ((valL os).map (Value.int .i64)) ++ [.int .i64 (k : Int)]) := Lib.hid (by simp [valL])
          have HBO2 := Lib.hid (hFw)
          clear hd hex hp2 hl2 hFw
          go_wp2_with fail
          refine HHAS.out.mono ?_
          rintro _ _ ⟨b, rfl, hb, rfl⟩
          obtain rfl : b = false := by rw [← Bool.not_eq_true]; exact fun h => HV.out (hb.1 h)
          clear hb HHAS
          have HOW := Lib.hid (World.ownsRow_lit (base := wr.heap.size) (e := 3) (size := 1) wr #[] 0 (Nat.le_refl _) (by decide) rfl)
          obtain ⟨EK, hEK⟩ : ∃ EK, extK n r os (k + 1) = EK := ⟨_, rfl⟩
          rw [hEK] at HEK
          have HEKD := Lib.hid hEK
          clear hEK
          generalize extK n r os k = L at *
          generalize ext n r (os ++ [⟨k, by omega⟩]) = M at *
          have hib : Hid (IntsAt (wr.alloc (.cells #[] 3)) (some ⟨gb, 0, none⟩) (valL os)) := Lib.hid ((HA.out.fut HBO2.out).fut (Fut.alloc _ _))
          go_wp2_with (at_builtin; refine wpList_append_own_at _ rfl _ _ 22 rfl wr.heap.size 3 i0 (.int .i64 0) 1 8 Try.underlying22 hi hz0 hz1 hz2 rfl (by decide) _ _ _ rfl HOW.out ⟨gb, 0, none⟩ os.length co ((valL os).map (Value.int .i64)) rfl ?c1 ?c2 ?c3 ?c4 ?c5 ?c6 ?_)
          case c1 => simp [valL]
          case c2 => exact news_ints hib.out
          case c3 => intro u hu; obtain ⟨z, _, rfl⟩ := List.mem_map.1 hu; rfl
          case c4 => unfold maxLen; omega
          case c5 => omega
          case c6 => simp
          intro v1 w1 hown1 hgrow1 _ _
          have HOWN1 : Hid (w1.ownsRow wr.heap.size 3 1 v1 os.length ((valL os).map (Value.int .i64))) := Lib.hid (by simpa using hown1)
          have HF1 : Hid (Fut wr w1) := Lib.hid (RowKit.Below.grown (Fut.alloc wr (.cells #[] 3)) hgrow1 (by simp) (fun i hi => by have := (HOW.out.lt i hi).1; omega))
          have hs1 := RowKit.Below.size HF1.out
          clear hown1 hgrow1 hib
          go_wp2_with (at_builtin; refine wpList_append_own_at _ rfl _ _ 22 rfl wr.heap.size 3 i0 (.int .i64 0) 1 8 Try.underlying22 hi hz0 hz1 hz2 rfl (by decide) _ _ _ rfl (HOWN1.out.alloc _) ⟨w1.heap.size, 0, none⟩ 1 1 [.int .i64 (k : Int)] rfl rfl ?d1 ?d2 ?d3 ?d4 ?d5 ?_)
          case d1 => exact World.news_of_block (cs := #[.int .i64 (k : Int)]) (t := 3) (fr := (0, 0)) (heap_alloc_new _ _)
          case d2 => intro u hu; simp at hu; subst hu; rfl
          case d3 => unfold maxLen; omega
          case d4 => omega
          case d5 => simp; omega
          · intro v2 w2 hown2 hgrow2 _ _
            obtain ⟨g2, c2, rfl, hgb, hgc, hgi⟩ := own_head (zs := valL (os ++ [⟨k, by omega⟩])) (n := os.length) (by rw [HVAL.out]; exact hown2)
            have hlt2 : g2 < w2.heap.size := (hown2.lt g2 rfl).2
            have hF2 : Fut wr w2 := RowKit.Below.grown (RowKit.Below.alloc HF1.out hs1 (.cells #[.int .i64 (k : Int)] 3)) hgrow2 (by simp; omega) (fun i hi => by have := (HOWN1.out.lt i hi).1; omega)
            have HC := Lib.hid (HIH.out g2 c2 w2 hF2 hgb hlt2 hgi)
            have HF2 := Lib.hid hF2
            clear hown2 hgrow2 hgi hF2 hgb hgc hlt2 HIH HOW HOWN1 HF1 hs1
            go_wp2_with fail
            refine HC.out.mono ?_
            rintro _ w3 ⟨v3, rfl, hL3, F3⟩
            obtain ⟨g3, c3, us, rfl, hg3, hu3, hE3⟩ := hL3
            obtain ⟨vs, o1, o2, o3⟩ := HO.out
            have hlo := fun g hg => (o1.lt g hg).2
            have hFF := HF2.out.trans F3
            replace o1 := own_below o1 hFF
            replace o2 := o2.fut hFF
            replace o3 := o3.trans hFF
            have HO1 := Lib.hid o1
            have HO2 := Lib.hid o2
            have HO3 := Lib.hid o3
            have HU3 := Lib.hid hu3
            have HE3 := Lib.hid hE3
            have HLO := Lib.hid hlo
            clear o1 o2 o3 hu3 hE3 hlo hFF F3 HC HO
            go_wp2_with (at_builtin; refine wpList_append_own_at _ rfl _ _ 88 rfl w.heap.size 22 i1 (.slice none 0 0) 1 24 Try.underlying88 ki kz0 kz1 kz2 rfl (by decide) _ _ _ rfl HO1.out ⟨g3, 0, none⟩ M.length c3 us rfl ?e1 ?e2 ?e3 ?e4 ?e5 ?e6 ?_)
            case e1 => rw [HE3.out.1]; omega
            case e2 => intro j u hu; rw [add0]; exact HU3.out j u hu
            case e3 => exact HE3.out.cell1
            case e4 => have := HEL.out; have := HKL.out; unfold maxLen; omega
            case e5 => have := HEL.out; have := HKL.out; omega
            case e6 => have := RowKit.Below.size HO3.out; omega
            · intro v4 w4 hown4 hgrow4 _ hat
              have HO4 : Hid (Out w B EK v4 w4) := Lib.hid (by rw [HEK.out]; exact Out.app HO1.out HO2.out HO3.out HE3.out (Nat.le_trans HB.out (RowKit.Below.size HBO2.out)) HLO.out hown4 hgrow4 hat)
              clear hown4 hgrow4 hat HO1 HO2 HO3 HU3 HE3 HLO
              go_wp2
              go_roundw
              case rel => exact ⟨k + 1, by omega, by go_num, by rw [HEKD.out]; exact HO4⟩
              case measure => simp [intOf]; omega
      · obtain rfl : k = n := by omega
        obtain ⟨vs, o1, o2, o3⟩ := HO.out
        have HL := Lib.hid (LsAt.own o1 rfl HPOS.out o2)
        have HF := Lib.hid o3
        clear o1 o2 o3 HO
        go_wp2_with fail
        go_ret
        exact ⟨_, rfl, HL.out, HF.out⟩
set_option maxRecDepth 100000 in
set_option maxHeartbeats 8000000 in
theorem rorders_top (n : Nat) (hn : n ≤ 5) (r : Nat) (hnr : n = r + 1) (B : Nat) (w : World) (hB : B ≤ w.heap.size) :
    Calls Try.prog 75 #[.int .i64 n, .slice none 0 0] w (LsPost B (ext n n []) w) := by
    have IH := Lib.hid (rorders_some n hn r)
    have hp : (([] : List (Fin 5)) ++ idxL n).Perm (idxL n) := List.Perm.refl _
    have hr : (idxL n).length = r + 1 := by rw [idxL_length _ hn, hnr]
    have hH : Hid (ext n n [] = ext n (r + 1) []) := Lib.hid (by rw [← hnr])
    rw [hH.out]
    have HNR := Lib.hid hnr
    have hn0 : 0 < n := by omega
    have hn1 : (0 : Int) < n := by omega
    have hr5 : r < 5 := by omega
    clear hnr hH
    obtain ⟨i0, hi, hz0, hz1, hz2⟩ := info_parts info3
    obtain ⟨i1, ki, kz0, kz1, kz2⟩ := info_parts info22
    have hne : ((0 : Int) == n) = false := by rw [beq_eq_false_iff_ne]; omega
    have hnx : (n : Int) ≤ 5 := by omega
    have HPOS : Hid (0 < (ext n (r + 1) []).length) := Lib.hid (ext_pos n hn (r + 1) [] (idxL n) hp hr)
    have HE : Hid (extK n r [] n = ext n (r + 1) []) := Lib.hid (extK_all _ _ _ hn)
    rw [← HE.out] at HPOS ⊢
    have HP := Lib.hid hp
    have HR := Lib.hid hr
    have HB := Lib.hid hB
    clear hp hr HE hB
    go_enter Try.func75, Try.ntmps75
    go_wp2_with fail
    go_loopw [5, 6] (fun ov kv wr => ∃ k : Nat, k ≤ n ∧ kv = .int .i64 k ∧ Hid (Out w B (extK n r [] k) ov wr)) (fun _ kv _ => n - (intOf kv).toNat)
    case atStart => exact ⟨0, Nat.zero_le _, rfl, Lib.hid ⟨[], World.ownsRow_nil _ _ _ _, ElsAt.nil _ _ _, Fut.rfl⟩⟩
    case round =>
      obtain ⟨k, hk, rfl, HO⟩ := hrel
      by_cases hkt : k < n
      · have hkx : (k : Int) < n := by omega
        have hex := Lib.hid (extK_succ n r [] k hn hkt)
        have hFw := HO.out.choose_spec.2.2
        have HHAS := Lib.hid (rhas_any none 0 [] k wr (by simp) (nil_ints _ _))
        have hd : ¬ (⟨k, by omega⟩ : Fin 5) ∈ [] := by simp
        have HV : Hid (¬ (k : Int) ∈ valL []) := Lib.hid fun h => hd ((val_mem [] ⟨k, by omega⟩).1 h)
        have HEK : Hid (extK n r [] (k + 1) = extK n r [] k ++ ext n r ([] ++ [⟨k, by omega⟩])) := Lib.hid (by rw [hex.out, if_neg hd])
        obtain ⟨hp2, hl2⟩ := rest_step HP.out ⟨k, by omega⟩ (idx_mem ⟨n, by omega⟩ ⟨k, by omega⟩ hkt) hd
        have HIH : Hid (∀ (g cp : Nat) (w1 : World), Fut wr w1 → wr.heap.size ≤ g → g < w1.heap.size → IntsAt w1 (some ⟨g, 0, none⟩) (valL ([] ++ [⟨k, by omega⟩])) →
            Calls Try.prog 75 #[.int .i64 n, .slice (some ⟨g, 0, none⟩) 1 cp] w1 (LsPost wr.heap.size (ext n r ([] ++ [⟨k, by omega⟩])) w1)) := Lib.hid (fun g cp w1 F hg hgl hi => by
          have := IH.out ([] ++ [⟨k, by omega⟩]) ((idxL n).erase ⟨k, by omega⟩) g cp wr.heap.size w1 hp2 (by rw [HR.out] at hl2; omega) (RowKit.Below.size F) hg hgl hi
          rw [List.length_append] at this
          exact this)
        have HEL : Hid ((ext n r ([] ++ [(⟨k, by omega⟩ : Fin 5)])).length ≤ 5 ^ 5) := Lib.hid (Nat.le_trans (ext_len n hn r _) (Nat.pow_le_pow_right (by omega) (by omega)))
        have HKL : Hid ((extK n r [] k).length ≤ 5 ^ 5) := Lib.hid (Nat.le_trans (extK_len n hn r k [] hk) (by
          refine Nat.le_trans (Nat.mul_le_mul (show k ≤ 5 by omega) (Nat.pow_le_pow_right (by omega) (show r ≤ 4 by omega))) (by decide)))
        have HVAL : Hid ((valL ([] ++ [(⟨k, by omega⟩ : Fin 5)])).map (Value.int .i64) = ((valL []).map (Value.int .i64)) ++ [.int .i64 (k : Int)]) := Lib.hid (by simp [valL])
        have HBO2 := Lib.hid (hFw)
        clear hd hex hp2 hl2 hFw
        go_wp2_with fail
        refine HHAS.out.mono ?_
        rintro _ _ ⟨b, rfl, hb, rfl⟩
        obtain rfl : b = false := by rw [← Bool.not_eq_true]; exact fun h => HV.out (hb.1 h)
        clear hb HHAS
        have HOW := Lib.hid (World.ownsRow_lit (base := wr.heap.size) (e := 3) (size := 1) wr #[] 0 (Nat.le_refl _) (by decide) rfl)
        obtain ⟨EK, hEK⟩ : ∃ EK, extK n r [] (k + 1) = EK := ⟨_, rfl⟩
        rw [hEK] at HEK
        have HEKD := Lib.hid hEK
        clear hEK
        generalize extK n r [] k = L at *
        generalize ext n r ([] ++ [⟨k, by omega⟩]) = M at *
        go_wp2_with (first
          | (at_builtin; refine wpList_append_own_none rfl _ _ 22 rfl wr.heap.size 3 i0 1 Try.underlying22 hi _ _ _ rfl HOW.out rfl ?_)
          | (at_builtin; refine wpList_append_own_at _ rfl _ _ 22 rfl wr.heap.size 3 i0 (.int .i64 0) 1 8 Try.underlying22 hi hz0 hz1 hz2 rfl (by decide) _ _ _ rfl (HOW.out.alloc _) ⟨wr.heap.size + 1, 0, none⟩ 1 1 [.int .i64 (k : Int)] rfl rfl ?d1 ?d2 ?d3 ?d4 ?d5 ?_))
        case d1 =>
          intro i u hj
          match i, hj with
          | 0, hj => simp at hj; subst hj; simp [Addr.add]
        case d2 => intro u hu; simp at hu; subst hu; rfl
        case d3 => unfold maxLen; omega
        case d4 => omega
        case d5 => simp; omega
        · intro v2 w2 hown2 hgrow2 _ _
          obtain ⟨g2, c2, rfl, hgb, hgc, hgi⟩ := own_head (zs := valL ([] ++ [⟨k, by omega⟩])) (n := 0) (by rw [HVAL.out]; exact hown2)
          have hlt2 : g2 < w2.heap.size := (hown2.lt g2 rfl).2
          have hF2 : Fut wr w2 := RowKit.Below.grown (RowKit.Below.alloc (Fut.alloc wr (.cells #[] 3)) (by simp) (.cells #[.int .i64 (k : Int)] 3)) hgrow2 (by simp; omega) (fun i hi => by have := (HOW.out.lt i hi).1; omega)
          have HC := Lib.hid (HIH.out g2 c2 w2 hF2 hgb hlt2 hgi)
          have HF2 := Lib.hid hF2
          clear hown2 hgrow2 hgi hF2 hgb hgc hlt2 HIH HOW
          go_wp2_with fail
          refine HC.out.mono ?_
          rintro _ w3 ⟨v3, rfl, hL3, F3⟩
          obtain ⟨g3, c3, us, rfl, hg3, hu3, hE3⟩ := hL3
          obtain ⟨vs, o1, o2, o3⟩ := HO.out
          have hlo := fun g hg => (o1.lt g hg).2
          have hFF := HF2.out.trans F3
          replace o1 := own_below o1 hFF
          replace o2 := o2.fut hFF
          replace o3 := o3.trans hFF
          have HO1 := Lib.hid o1
          have HO2 := Lib.hid o2
          have HO3 := Lib.hid o3
          have HU3 := Lib.hid hu3
          have HE3 := Lib.hid hE3
          have HLO := Lib.hid hlo
          clear o1 o2 o3 hu3 hE3 hlo hFF F3 HC HO
          go_wp2_with (at_builtin; refine wpList_append_own_at _ rfl _ _ 88 rfl w.heap.size 22 i1 (.slice none 0 0) 1 24 Try.underlying88 ki kz0 kz1 kz2 rfl (by decide) _ _ _ rfl HO1.out ⟨g3, 0, none⟩ M.length c3 us rfl ?e1 ?e2 ?e3 ?e4 ?e5 ?e6 ?_)
          case e1 => rw [HE3.out.1]; omega
          case e2 => intro j u hu; rw [add0]; exact HU3.out j u hu
          case e3 => exact HE3.out.cell1
          case e4 => have := HEL.out; have := HKL.out; unfold maxLen; omega
          case e5 => have := HEL.out; have := HKL.out; omega
          case e6 => have := RowKit.Below.size HO3.out; omega
          · intro v4 w4 hown4 hgrow4 _ hat
            have HO4 : Hid (Out w B EK v4 w4) := Lib.hid (by rw [HEK.out]; exact Out.app HO1.out HO2.out HO3.out HE3.out (Nat.le_trans HB.out (RowKit.Below.size HBO2.out)) HLO.out hown4 hgrow4 hat)
            clear hown4 hgrow4 hat HO1 HO2 HO3 HU3 HE3 HLO
            go_wp2
            go_roundw
            case rel => exact ⟨k + 1, by omega, by go_num, by rw [HEKD.out]; exact HO4⟩
            case measure => simp [intOf]; omega
      · obtain rfl : k = n := by omega
        obtain ⟨vs, o1, o2, o3⟩ := HO.out
        have HL := Lib.hid (LsAt.own o1 rfl HPOS.out o2)
        have HF := Lib.hid o3
        clear o1 o2 o3 HO
        go_wp2_with fail
        go_ret
        exact ⟨_, rfl, HL.out, HF.out⟩
end
section
def mixF (k : Nat) (f g : Fin 5 → Int) : Fin 5 → Int := fun j => if j.val < k then f j else g j
theorem mix0 (f g : Fin 5 → Int) : mixF 0 f g = g := funext fun j => by simp [mixF]
theorem mix_at (f g : Fin 5 → Int) (k : Fin 5) : mixF k.val f g k = g k := by simp [mixF]
theorem mix_succ (f g : Fin 5 → Int) (k : Fin 5) : upd (mixF k.val f g) k (f k) = mixF (k.val + 1) f g := funext fun j => by
  unfold upd mixF
  by_cases e : j = k
  · subst e; simp
  · have : j.val ≠ k.val := fun h => e (Fin.ext h)
    simp only [if_neg e]
    by_cases h : j.val < k.val
    · rw [if_pos h, if_pos (by omega)]
    · rw [if_neg h, if_neg (by omega)]
theorem mix_all (f g : Fin 5 → Int) (n : Nat) (hn : n ≤ 5) : (list5 (mixF n f g)).take n = (list5 f).take n := by
  refine nth_ext _ _ (by rw [list5_len _ _ hn, list5_len _ _ hn]) fun i hi => ?_
  rw [list5_len _ _ hn] at hi
  rw [list5_nth _ _ hn i hi, list5_nth _ _ hn i hi]
  simp [mixF, hi]
theorem ext_mem (n : Nat) : ∀ (r : Nat) (os : List (Fin 5)), (∀ d ∈ os, d.val < n) → n ≤ 5 → ∀ o ∈ ext n r os, (∀ d ∈ o, d.val < n) ∧ o.length = os.length + r
  | 0, os, h, _, o, ho => by
    simp [ext] at ho; subst ho; exact ⟨h, rfl⟩
  | r + 1, os, h, hn, o, ho => by
    unfold ext at ho
    obtain ⟨d, hd, hm⟩ := List.mem_flatMap.1 ho
    split at hm
    · simp at hm
    · have := ext_mem n r (os ++ [d]) (fun c hc => by
        rcases List.mem_append.1 hc with hc | hc
        · exact h c hc
        · simp at hc; subst hc; exact idx_lt ⟨n, by omega⟩ c hd) hn o hm
      refine ⟨this.1, ?_⟩
      have h2 := this.2
      rw [List.length_append] at h2
      simp at h2; omega
theorem addAll_take (m : Fin 5 → Int) (x : Int) (L : List (List (Fin 5))) (i : Nat) (hi : i < L.length) (g : Fin 5 → Int) : addAll m x (L.take (i + 1)) g = fun j => addAll m x (L.take i) g j + inF m L[i] x (fun _ => 0) j := by
  have e : L.take (i + 1) = L.take i ++ [L[i]] := by rw [List.take_add_one, List.getElem?_eq_getElem hi]; rfl
  rw [e, addAll_append, addAll_one]
set_option maxRecDepth 100000 in
set_option maxHeartbeats 8000000 in
theorem raverage_ok (x : Int) (a : Option Addr) (cap : Nat) (zs : List Int) (w : World) (h : Full5 x zs) (hA : IntsAt w a zs) :
    Calls Try.prog 31 #[.int .i64 x, .slice a zs.length cap] w (SlN zs.length w (gA x zs)) := by
  have h1 := h.1
  have h5 := h.2.1
  have hx0 := h.2.2.2.1
  have HC := Lib.hid (rchk_any x a cap zs w (by omega) hA)
  rw [full_chk h] at HC
  have HO := Lib.hid (rorders_top zs.length h5 (zs.length - 1) (by omega) w.heap.size w (Nat.le_refl _))
  have HA := Lib.hid hA
  have HF := Lib.hid h
  have hmk := mk5 zs.length h5
  have HM := Lib.hid (fun o ho => ext_mem zs.length zs.length [] (by simp) h5 o ho)
  have HLL := Lib.hid (fun j => ext_all (K zs) zs.length h5 (x * 120) j)
  have HLe : Hid ((ext zs.length zs.length []).length ≤ 3125) := Lib.hid (Nat.le_trans (ext_len zs.length h5 zs.length []) (Nat.le_trans (Nat.pow_le_pow_right (by omega) h5) (by decide)))
  have HLp : Hid (0 < (ext zs.length zs.length []).length) := Lib.hid (ext_pos zs.length h5 zs.length [] (idxL zs.length) (by simp) (idxL_length _ h5))
  have hzx : (zs.length : Int) ≤ 5 := by omega
  have hz1 : 1 ≤ (zs.length : Int) := by omega
  clear h hA
  generalize ext zs.length zs.length [] = L at *
  go_enter Try.func31, Try.ntmps31
  go_wp2_with fail
  refine HC.out.mono ?_
  rintro _ _ ⟨rfl, rfl⟩
  go_wp2_with fail
  refine HO.out.mono ?_
  rintro _ w1 ⟨v, rfl, hL, F1⟩
  obtain ⟨g, cl, rfl, hgl, hLs⟩ := hL.at
  have HLs := Lib.hid hLs
  have HF1 := Lib.hid F1
  have HA1 := Lib.hid (HA.out.fut F1)
  clear hL F1 hLs HC HO
  go_wp2_with fail
  have hrow := repl_row w1 zs.length h5
  have hS := World.size_alloc w1 (.cells (Array.replicate zs.length (Value.int .i64 0)) 3)
  have hB : Fut w1 (w1.alloc (.cells (Array.replicate zs.length (Value.int .i64 0)) 3)) := Fut.alloc _ _
  generalize w1.alloc (.cells (Array.replicate zs.length (Value.int .i64 0)) 3) = W1 at *
  clear hmk
  have hLx : (L.length : Int) ≤ 3125 := by have := HLe.out; omega
  have hLy : 1 ≤ (L.length : Int) := by have := HLp.out; omega
  generalize hgw : w1.heap.size = gw at *
  have HGW := Lib.hid hgw
  clear hgw
  go_loopw [9] (fun iv wr => ∃ (i : Nat), i ≤ L.length ∧ iv = .int .i64 i ∧ Hid (RowN wr gw ((list5 (addAll (K zs) (x * 120) (L.take i) (fun _ => 0))).take zs.length)) ∧ Hid (Fut w1 wr) ∧ gw < wr.heap.size) (fun iv _ => L.length - (intOf iv).toNat)
  case atStart => exact ⟨0, Nat.zero_le _, rfl, Lib.hid hrow, Lib.hid hB, by omega⟩
  case round =>
    obtain ⟨i, hi, rfl, hg, hBr, hsz⟩ := hrel
    clear hrow hB hS
    by_cases hlt : i < L.length
    · obtain ⟨gb, cb, hcb, hib⟩ := HLs.out i _ (List.getElem?_eq_getElem hlt)
      have hce : wr.cell? ⟨g, i, none⟩ = some (.slice (some ⟨gb, 0, none⟩) (L[i]).length cb) := (RowKit.Below.cell hBr.out (p := ⟨g, i, none⟩) (by rw [HGW.out]; exact hgl)).trans hcb
      obtain ⟨hm1, hm2⟩ := HM.out _ (List.getElem_mem hlt)
      have HT : Hid (addAll (K zs) (x * 120) (L.take (i + 1)) (fun _ => 0) = fun j => addAll (K zs) (x * 120) (L.take i) (fun _ => 0) j + inF (K zs) L[i] (x * 120) (fun _ => 0) j) := Lib.hid (addAll_take _ _ L i hlt _)
      have HIN := Lib.hid (rinOrder_row x zs a (some ⟨gb, 0, none⟩) cap cb L[i] wr HF.out (by rw [hm2]; simpa using h5) hm1 (HA1.out.fut hBr.out) (hib.fut hBr.out))
      have HTB := Lib.hid (addAll_bd (K zs) (fun i => K_ptf HF.out i) (x * 120) (by omega) (L.take i) (fun _ => 0) 0 (fun i => ⟨Int.le_refl _, Int.le_refl _⟩))
      have HDB := Lib.hid (fun j => inF_pt (K zs) (fun i => K_ptf HF.out i) L[i] (x * 120) (fun _ => 0) (by omega) (fun _ => ⟨by decide, by decide⟩) j)
      have hti : (L.take i).length = i := by rw [List.length_take]; omega
      have HTI := Lib.hid hti
      clear hcb hib hm1 hm2 hti
      generalize L[i] = o at *
      obtain ⟨tn, htn⟩ : ∃ tn, addAll (K zs) (x * 120) (L.take (i + 1)) (fun _ => 0) = tn := ⟨_, rfl⟩
      rw [htn] at HT
      have HTN := Lib.hid htn
      clear htn
      generalize htf : addAll (K zs) (x * 120) (L.take i) (fun _ => 0) = tf at *
      generalize hdj : inF (K zs) o (x * 120) (fun _ => 0) = dj at *
      clear htf hdj
      have hix : (i : Int) < L.length := by omega
      go_wp2_with fail
      refine HIN.out.mono ?_
      rintro _ w2 ⟨cd, rfl, hd, F⟩
      have hR2 : RowN w2 gw ((list5 (mixF 0 (fun j => tf j + dj j) tf)).take zs.length) := by rw [mix0]; exact hg.out.below F hsz
      have HR2 := Lib.hid hR2
      have HD2 := Lib.hid hd
      have HB2 : Hid (Fut w1 w2) := Lib.hid (hBr.out.trans F)
      have hs2 : gw < w2.heap.size := Nat.lt_of_lt_of_le hsz (RowKit.Below.size F)
      have hne : wr.heap.size ≠ gw := by omega
      generalize wr.heap.size = gd at *
      clear hR2 hd F HIN hce hg hBr hsz
      go_wp2_with fail
      go_loopw [11] (fun kv wq => ∃ (k : Nat), k ≤ zs.length ∧ kv = .int .i64 k ∧ Hid (RowN wq gw ((list5 (mixF k (fun j => tf j + dj j) tf)).take zs.length)) ∧ Hid (IntsAt wq (some ⟨gd, 0, none⟩) ((list5 dj).take zs.length)) ∧ Hid (Fut w1 wq) ∧ gw < wq.heap.size) (fun kv _ => zs.length - (intOf kv).toNat)
      case atStart => exact ⟨0, Nat.zero_le _, rfl, HR2, HD2, HB2, hs2⟩
      case round =>
        obtain ⟨k, hk, rfl, hR, hD, hB, hs⟩ := hrel
        clear HR2 HD2 HB2 hs2
        by_cases hkt : k < zs.length
        · have hkx : (k : Int) < zs.length := by omega
          have c1 := hR.out.cell k (by rw [list5_len _ _ h5]; exact hkt)
          rw [list5_nth _ _ h5 k hkt, mix_at _ _ (⟨k, by omega⟩ : Fin 5)] at c1
          have c2 := hR.out.2 k
          obtain ⟨b', o', e', hbl, c3⟩ := hD.out k (by rw [list5_len _ _ h5]; exact hkt)
          injection e' with e'
          injection e' with e1 e2
          subst e1 e2
          rw [list5_nth _ _ h5 k hkt, Nat.zero_add] at c3
          have t1 := HTB.out ⟨k, by omega⟩
          have t2 := HDB.out ⟨k, by omega⟩
          have t3 := HTI.out
          rw [t3] at t1
          have HSET : Hid (RowN (wr.setCell ⟨gw, k, none⟩ (.int .i64 (tf ⟨k, by omega⟩ + dj ⟨k, by omega⟩))) gw ((list5 (mixF (k + 1) (fun j => tf j + dj j) tf)).take zs.length)) := Lib.hid (by
            have := hR.out.set k (tf ⟨k, by omega⟩ + dj ⟨k, by omega⟩) (by rw [list5_len _ _ h5]; exact hkt)
            rw [list5_set _ _ h5 (⟨k, by omega⟩ : Fin 5) hkt, mix_succ (fun j => tf j + dj j) tf (⟨k, by omega⟩ : Fin 5)] at this
            exact this)
          generalize tf ⟨k, by omega⟩ = tk at *
          generalize dj ⟨k, by omega⟩ = dk at *
          have t4 : 0 ≤ tk := t1.1
          have t5 : tk ≤ 3125000000 := by omega
          have t6 : 0 ≤ dk := t2.1
          have t7 : dk ≤ 1000000 := t2.2
          have hw1 : IntKind.i64.wrap (tk + dk) = tk + dk := IntWalk.i64_in _ ⟨by omega, by omega⟩
          clear t1 t2 t3
          go_wp2_with fail
          go_region
          all_goals
            go_wp2
            go_roundw
            case rel => exact ⟨k + 1, by omega, by go_num, Lib.hid HSET.out.drew, Lib.hid ((IntsAt.far (g := gw) (k := k) (v := .int .i64 (tk + dk)) hD.out hne).fut (Fut.drewN _ 1)), Lib.hid (Fut.trans (show Fut w1 _ from RowKit.Below.setCell (p := ⟨gw, k, none⟩) hB.out (by rw [← HGW.out]; exact Nat.le_refl _) _) (Fut.drewN _ 1)), by simpa [World.setCell] using hs⟩
            case measure => simp [intOf]; omega
        · obtain rfl : k = zs.length := by omega
          rw [mix_all _ _ _ h5, ← HT.out] at hR
          clear hD
          go_wp2_with fail
          go_roundw
          case rel => exact ⟨i + 1, by omega, by go_num, by rw [HTN.out]; exact hR, hB, hs⟩
          case measure => simp [intOf]; omega
    · obtain rfl : i = L.length := by omega
      rw [List.take_length] at hg
      have HTB := Lib.hid (addAll_bd (K zs) (fun i => K_ptf HF.out i) (x * 120) (by omega) L (fun _ => 0) 0 (fun i => ⟨Int.le_refl _, Int.le_refl _⟩))
      have HEND : Hid ((list5 (fun j => addAll (K zs) (x * 120) L (fun _ => 0) j / (L.length : Int))).take zs.length = gA x zs) := Lib.hid (by
        unfold gA avgP
        congr 1
        congr 1
        funext j
        rw [(HLL.out j).1, (HLL.out j).2])
      generalize addAll (K zs) (x * 120) L (fun _ => 0) = tf at *
      clear HLL
      go_wp2_with fail
      go_loopw [12] (fun kv wq => ∃ (k : Nat), k ≤ zs.length ∧ kv = .int .i64 k ∧ Hid (RowN wq gw ((list5 (mixF k (fun j => tf j / (L.length : Int)) tf)).take zs.length)) ∧ Hid (Fut w1 wq)) (fun kv _ => zs.length - (intOf kv).toNat)
      case atStart => exact ⟨0, Nat.zero_le _, rfl, Lib.hid (by rw [mix0]; exact hg.out), hBr⟩
      case round =>
        obtain ⟨k, hk, rfl, hR, hB⟩ := hrel
        clear hg hBr hsz
        by_cases hkt : k < zs.length
        · have hkx : (k : Int) < zs.length := by omega
          have c1 := hR.out.cell k (by rw [list5_len _ _ h5]; exact hkt)
          rw [list5_nth _ _ h5 k hkt, mix_at _ _ (⟨k, by omega⟩ : Fin 5)] at c1
          have c2 := hR.out.2 k
          have t1 := HTB.out ⟨k, by omega⟩
          have HSET : Hid (RowN (wr.setCell ⟨gw, k, none⟩ (.int .i64 (tf ⟨k, by omega⟩ / (L.length : Int)))) gw ((list5 (mixF (k + 1) (fun j => tf j / (L.length : Int)) tf)).take zs.length)) := Lib.hid (by
            have := hR.out.set k (tf ⟨k, by omega⟩ / (L.length : Int)) (by rw [list5_len _ _ h5]; exact hkt)
            rw [list5_set _ _ h5 (⟨k, by omega⟩ : Fin 5) hkt, mix_succ (fun j => tf j / (L.length : Int)) tf (⟨k, by omega⟩ : Fin 5)] at this
            exact this)
          generalize tf ⟨k, by omega⟩ = tk at *
          have t4 : 0 ≤ tk := t1.1
          have t5 : tk ≤ 3125000000 := by omega
          clear t1
          go_wp2_with fail
          go_roundw
          case rel => exact ⟨k + 1, by omega, by go_num, HSET, Lib.hid (RowKit.Below.setCell (p := ⟨gw, k, none⟩) hB.out (by rw [← HGW.out]; exact Nat.le_refl _) _)⟩
          case measure => simp [intOf]; omega
        · obtain rfl : k = zs.length := by omega
          rw [mix_all _ _ _ h5, HEND.out] at hR
          have HI := Lib.hid hR.out.ints
          have HFF := Lib.hid (HF1.out.trans hB.out)
          clear hR hB
          go_wp2_with fail
          go_ret2
          exact ⟨_, _, rfl, HI.out, HFF.out⟩
end
section
theorem same_self (L : List Int) : sameB L L = true := by simp [sameB]
/-- a function hands back this list and this error, in every later memory. -/
def GivesL (F : Nat) (args : Array Value) (w : World) (r : Int) (L : List Int) : Prop :=
  ∀ W, Fut w W → Calls Try.prog F args W fun e w' => ∃ l c, e = .returned (.tuple #[.slice l L.length c, .int .i64 r]) ∧ IntsAt w' l L ∧ Fut W w'
theorem gives_nil {F : Nat} {args : Array Value} {w : World} {r : Int} (h : ∀ W, Fut w W → Calls Try.prog F args W fun e w' => e = .returned (.tuple #[.slice none 0 0, .int .i64 r]) ∧ Fut W w') : GivesL F args w r [] :=
  fun W hW => (h W hW).mono fun _ _ ⟨e, hB⟩ => ⟨none, 0, e, nil_ints _ _, hB⟩
theorem gives_sl {F : Nat} {args : Array Value} {w : World} {n : Nat} {L : List Int} (hl : L.length = n) (h : ∀ W, Fut w W → Calls Try.prog F args W (SlN n W L)) : GivesL F args w 0 L := fun W hW => by
  rw [hl]; exact h W hW
theorem orders_both (x : Int) (a c : Option Addr) (cap dap : Nat) (zs os : List Int) (w : World) (hl : zs.length ≤ 9223372036854775807) (hlo : os.length ≤ 9223372036854775807) (hcap : os.length ≤ dap) (hA : IntsAt w a zs) (hG : IntsAt w c os) :
    ∃ r L, L.length ≤ 5 ∧ GivesL 28 #[.int .i64 x, .slice a zs.length cap, .slice c os.length dap] w r L ∧ GivesL 29 #[.int .i64 x, .slice a zs.length cap, .slice c os.length dap] w r L := by
  by_cases hc : chk x zs = 0
  · have hF := full_of_chk hc
    by_cases ho : onceE zs.length os = 0
    · have hlen : os.length = zs.length := by
        unfold onceE at ho
        split at ho
        · omega
        · rename_i h; simpa using h
      have ho' : onceF zs.length os (fun _ => false) = 0 := by unfold onceE at ho; rw [if_neg (by omega)] at ho; exact ho
      obtain ⟨ds, rfl, hd⟩ := onceF_val zs.length os _ ho'
      refine ⟨0, (list5 (inF (K zs) ds (x * 120) (fun _ => 0))).take zs.length, by rw [list5_len _ _ hF.2.1]; exact hF.2.1, gives_sl (list5_len _ _ hF.2.1) fun W hW => ?_, gives_sl (list5_len _ _ hF.2.1) fun W hW => ?_⟩
      · rw [valL_length]
        exact own_slN rfl (list5_len _ _ hF.2.1) (order_ok x a c cap dap zs ds W (hA.fut hW) (hG.fut hW) hc ho)
      · refine (rorder_any x a c cap dap zs (valL ds) ds W hcap (hA.fut hW) (hG.fut hW) hc (fun _ => ⟨rfl, hd⟩)).mono fun e w' h => ?_
        rcases h with ⟨h, _⟩ | ⟨_, h⟩
        · exact absurd ho h
        · exact h
    · refine ⟨onceE zs.length os, [], by simp, gives_nil fun W hW => order_err2 x a c cap dap zs os W hlo (hA.fut hW) (hG.fut hW) hc ho, gives_nil fun W hW => ?_⟩
      refine (rorder_any x a c cap dap zs os [] W hcap (hA.fut hW) (hG.fut hW) hc (fun h => absurd h ho)).mono fun e w' h => ?_
      rcases h with ⟨_, h⟩ | ⟨h, _⟩
      · exact h
      · exact absurd h ho
  · exact ⟨chk x zs, [], by simp, gives_nil fun W hW => order_err1 x a c cap dap zs os W hl (hA.fut hW) hc,
      gives_nil fun W hW => (rorder_err1 x a c cap dap zs os W hl (hA.fut hW) hc).mono fun e w' h => ⟨h.1, by rw [h.2]; exact Fut.rfl⟩⟩
theorem twos_both (x a b : Int) : ∃ p q r, ∀ W, Calls Try.prog 26 #[.int .i64 x, .int .i64 a, .int .i64 b] W (Two3 p q r W) ∧ Calls Try.prog 27 #[.int .i64 x, .int .i64 a, .int .i64 b] W (Two3 p q r W) := by
  by_cases h : twoB x a b = true
  · exact ⟨_, _, _, fun W => ⟨(two_ok x a b W h).mono fun _ _ h => ⟨h.1, by rw [h.2]; exact Fut.rfl⟩, rtwo_ok x a b W h⟩⟩
  · have h : twoB x a b = false := by simpa using h
    exact ⟨_, _, _, fun W => ⟨(two_err x a b W h).mono fun _ _ h => ⟨h.1, by rw [h.2]; exact Fut.rfl⟩, rtwo_err x a b W h⟩⟩
theorem avg_both (x : Int) (a : Option Addr) (cap : Nat) (zs : List Int) (w : World) (hl : zs.length ≤ 9223372036854775807) (hA : IntsAt w a zs) :
    ∃ r L, Both 30 31 x a zs.length cap w r L := by
  by_cases hc : chk x zs = 0
  · have hF := full_of_chk hc
    exact ⟨0, gA x zs, both_of hA hF (list5_len _ _ hF.2.1) (fun W h => du_avg x zs a cap W hF h) (fun W h => raverage_ok x a cap zs W hF h)⟩
  · exact ⟨chk x zs, [], both_err hA (fun W h => average_err x a cap zs W hl h hc) (fun W h => raverage_err x a cap zs W hl h hc)⟩
set_option maxRecDepth 100000 in
set_option maxHeartbeats 4000000 in
theorem orders_any (x i j : Int) (a c : Option Addr) (cap dap : Nat) (zs os : List Int) (w : World) (hl : zs.length ≤ 9223372036854775807) (hlo : os.length ≤ 9223372036854775807) (hcap : os.length ≤ dap) (hA : IntsAt w a zs) (hG : IntsAt w c os) :
    Calls Try.prog 4 #[.int .i64 x, .slice a zs.length cap, .slice c os.length dap, .int .i64 i, .int .i64 j] w fun e w' => e = .returned (.bool true) ∧ Fut w w' := by
  by_cases h1 : 60 < zs.length
  · have h1' : (60 : Int) < zs.length := by omega
    clear hA hG
    go_enter Try.func4, Try.ntmps4
    go_wp2_with fail
    refine (works_any _).mono ?_
    rintro _ v4 ⟨rfl, F⟩
    go_wp2_with fail
    go_ret
    exact ⟨rfl, F⟩
  by_cases h2 : 60 < os.length
  · have h1' : ¬ (60 : Int) < zs.length := by omega
    have h2' : (60 : Int) < os.length := by omega
    clear hA hG
    go_enter Try.func4, Try.ntmps4
    go_wp2_with fail
    refine (works_any _).mono ?_
    rintro _ v4 ⟨rfl, F⟩
    go_wp2_with fail
    go_ret
    exact ⟨rfl, F⟩
  have h1' : ¬ (60 : Int) < zs.length := by omega
  have h2' : ¬ (60 : Int) < os.length := by omega
  obtain ⟨p, q, r, hT⟩ := twos_both x i j
  obtain ⟨ro, Lo, hLo5, hO1, hO2⟩ := orders_both x a c cap dap zs os w hl hlo hcap hA hG
  obtain ⟨ra, La, b1⟩ := avg_both x a cap zs w hl hA
  have HT := Lib.hid hT
  have HO1 := Lib.hid hO1
  have HO2 := Lib.hid hO2
  have HL5 := Lib.hid hLo5
  have B1 := Lib.hid b1
  clear hT hO1 hO2 b1 hA hG hLo5
  go_enter Try.func4, Try.ntmps4
  have F1 : Fut w w := Fut.rfl
  go_wp2_with fail
  refine (HT.out _).1.mono ?_
  rintro _ u1 ⟨rfl, F⟩
  replace F1 := F1.trans F
  clear F
  go_wp2_with fail
  refine (HT.out _).2.mono ?_
  rintro _ u2 ⟨rfl, F⟩
  replace F1 := F1.trans F
  clear F
  go_wp2_with fail
  refine (HO1.out _ F1).mono ?_
  rintro _ u3 ⟨l3, c3, rfl, h3, F⟩
  replace F1 := F1.trans F
  clear F
  go_wp2_with fail
  refine (HO2.out _ F1).mono ?_
  rintro _ u4 ⟨l4, c4, rfl, h4, F⟩
  replace h3 := h3.fut F
  replace F1 := F1.trans F
  clear F
  go_wp2_with fail
  refine (B1.out.2.1 _ F1).mono ?_
  rintro _ u5 ⟨l5, c5, rfl, h5, F⟩
  replace h3 := h3.fut F
  replace h4 := h4.fut F
  replace F1 := F1.trans F
  clear F
  go_wp2_with fail
  refine (B1.out.2.2 _ F1).mono ?_
  rintro _ u6 ⟨l6, c6, rfl, h6, F⟩
  replace h3 := h3.fut F
  replace h4 := h4.fut F
  replace h5 := h5.fut F
  replace F1 := F1.trans F
  clear F
  go_wp2_with fail
  refine (same_len l3 l4 c3 c4 Lo.length Lo Lo _ HL5.out rfl rfl h3 h4).mono ?_
  rw [same_self]
  rintro _ u7 ⟨rfl, F⟩
  replace h5 := h5.fut F
  replace h6 := h6.fut F
  replace F1 := F1.trans F
  clear F
  go_wp2_with fail
  refine (same_len l5 l6 c5 c6 La.length La La _ B1.out.1 rfl rfl h5 h6).mono ?_
  rw [same_self]
  rintro _ u8 ⟨rfl, F⟩
  replace F1 := F1.trans F
  clear F
  go_wp2_with fail
  refine (works_any _).mono ?_
  rintro _ v4 ⟨rfl, F⟩
  go_wp2_with fail
  go_ret
  exact ⟨rfl, F1.trans F⟩
end
section
open Go.Joins Go.ChangeShapes Go.WideShapes Go.ChangeAt
theorem cT3 : Try.prog.cellsOf 3 = 1 := by kernel_rfl
/-- a slice of numbers that came in. -/
theorem open_sl {H : Type} {enc : TypeId × Value → H} {w : World} {b0 : Nat} {r : Reach} {v : Value} {d : DataW H} {p : List MemPlace}
    (hv : Value.okWide Try.prog w r b0 22 v) (h : DataW.Trod enc Try.prog w 0 (fun _ => true) true 22 v d p) :
    ∃ a cap zs, v = .slice a (List.length zs) cap ∧ zs.length ≤ 9223372036854775807 ∧ IntsAt w a zs := by
  obtain ⟨a0, len, cap, rfl⟩ := okWide_slice Try.underlying22 hv
  obtain ⟨fuel, hf⟩ := h
  rcases open_ints Try.underlying22 Try.underlying3 cT3 hf with ⟨hcs, _⟩ | ⟨a, len', cap', zs, hcs, _, hl, hm, hz, _, hcell, _⟩
  · simp [Value.cells] at hcs
    obtain ⟨rfl, rfl, rfl⟩ := hcs
    exact ⟨none, 0, [], rfl, by simp, fun j hj => absurd hj (by simp)⟩
  · simp [Value.cells] at hcs
    obtain ⟨rfl, rfl, rfl⟩ := hcs
    simp only [if_true] at hz
    unfold maxLen at hm
    have hlt : (zs.take len).length = len := by rw [List.length_take]; omega
    refine ⟨some a, cap, zs.take len, by rw [hlt], by omega, fun j hj => ?_⟩
    rw [hlt] at hj
    have hc0 := hcell 0 (by omega)
    have hc := hcell j (by omega)
    obtain ⟨b, off, spot⟩ := a
    have hspot : spot = none := by simpa [Addr.add] using World.cell?_spot hc0
    subst hspot
    have hadd : (⟨b, off, none⟩ : Addr).add j = ⟨b, off + j, none⟩ := by unfold Addr.add; split <;> simp_all
    rw [hadd] at hc
    refine ⟨b, off, rfl, World.block_lt_of_cell? _ _ hc, ?_⟩
    have e : nth (zs.take len) j = zs.getD j 0 := by rw [nth_eq, List.getElem?_take, if_pos hj, List.getD_eq_getElem?_getD]
    rw [e]
    exact hc
end
section
open Go.Joins Go.ChangeShapes Go.WideShapes Go.ChangeAt
/-- a slice of numbers that came in. -/
theorem open_slC {H : Type} {enc : TypeId × Value → H} {w : World} {b0 : Nat} {r : Reach} {v : Value} {d : DataW H} {p : List MemPlace}
    (hv : Value.okWide Try.prog w r b0 22 v) (h : DataW.Trod enc Try.prog w 0 (fun _ => true) true 22 v d p) :
    ∃ a cap zs, v = .slice a (List.length zs) cap ∧ zs.length ≤ 9223372036854775807 ∧ zs.length ≤ cap ∧ IntsAt w a zs := by
  obtain ⟨a0, len, cap, rfl⟩ := okWide_slice Try.underlying22 hv
  obtain ⟨fuel, hf⟩ := h
  rcases open_ints Try.underlying22 Try.underlying3 cT3 hf with ⟨hcs, _⟩ | ⟨a, len', cap', zs, hcs, _, hl, hm, hz, _, hcell, _⟩
  · simp [Value.cells] at hcs
    obtain ⟨rfl, rfl, rfl⟩ := hcs
    exact ⟨none, 0, [], rfl, by simp, by simp, fun j hj => absurd hj (by simp)⟩
  · simp [Value.cells] at hcs
    obtain ⟨rfl, rfl, rfl⟩ := hcs
    simp only [if_true] at hz
    unfold maxLen at hm
    have hlt : (zs.take len).length = len := by rw [List.length_take]; omega
    refine ⟨some a, cap, zs.take len, by rw [hlt], by omega, by omega, fun j hj => ?_⟩
    rw [hlt] at hj
    have hc0 := hcell 0 (by omega)
    have hc := hcell j (by omega)
    obtain ⟨b, off, spot⟩ := a
    have hspot : spot = none := by simpa [Addr.add] using World.cell?_spot hc0
    subst hspot
    have hadd : (⟨b, off, none⟩ : Addr).add j = ⟨b, off + j, none⟩ := by unfold Addr.add; split <;> simp_all
    rw [hadd] at hc
    refine ⟨b, off, rfl, World.block_lt_of_cell? _ _ hc, ?_⟩
    have e : nth (zs.take len) j = zs.getD j 0 := by rw [nth_eq, List.getElem?_take, if_pos hj, List.getD_eq_getElem?_getD]
    rw [e]
    exact hc
end
end Go.Proofs.Ytdnbdaegahcoeaa
