/- made 82 -/
import Derived.Test.YtjapconhehdcjaaUD
import Derived.Deep.DeepCutAuto
import Derived.Deep.AppendLies
import Derived.Test.YtjapconhehdcjaaSN
import Derived.Test.YtjapconhehdcjaaSE
namespace Go.Proofs.Ytjapconhehdcjaa
open Go.RowKit Go.Sort
theorem grown3 (w : World) (B : Nat) (a b c : Value) : w.grownBy (((w.setCell ⟨B, 0, none⟩ a).setCell ⟨B, 1, none⟩ b).setCell ⟨B, 2, none⟩ c) (some B) := grown_set (grown_set (set_grown w B 0 a))
theorem cell_set3 {w : World} {H g : Nat} (hne : H ≠ g) (k : Nat) (a b c : Value) : (((w.setCell ⟨H, 0, none⟩ a).setCell ⟨H, 1, none⟩ b).setCell ⟨H, 2, none⟩ c).cell? ⟨g, k, none⟩ = w.cell? ⟨g, k, none⟩ :=
  (World.cell?_setCell_far _ _ _ _ hne).trans ((World.cell?_setCell_far _ _ _ _ hne).trans (World.cell?_setCell_far _ _ _ _ hne))
theorem own_ne116 {w : World} {B H : Nat} {v : Value} {L : List Int} {cs : Array Value} (h : Owns w B v L) (hX : w.heap[H]? = some (.cells cs 116)) : v.ownBlock = none ∨ v.ownBlock ≠ some H := by
  rcases h.2 with ⟨rfl, _⟩ | ⟨g, cap, cur, rfl, _, hg, _⟩
  · exact .inl rfl
  · refine .inr fun e => ?_
    simp [Value.ownBlock] at e
    rw [e, hX] at hg
    simp at hg
theorem Pts.set3 {w : World} {B H : Nat} {v : Value} {S : List Sv.Prt} {cs : Array Value} (h : Pts w B v S) (hX : w.heap[H]? = some (.cells cs 116)) (hv : v.ownBlock ≠ some H) (a b c : Value) : Pts (((w.setCell ⟨H, 0, none⟩ a).setCell ⟨H, 1, none⟩ b).setCell ⟨H, 2, none⟩ c) B v S := by
  obtain ⟨rs, h1, h2⟩ := h
  exact ⟨rs, World.ownsRow.kept h1 (grown3 w H a b c) (.inr hv), h2.kept (grown3 w H a b c) (fun v L hv => own_ne116 hv hX)⟩
def madeS : List Sv.Prt → Option (List Int)
  | [p] => if p.depth = 0 then some p.tree else none
  | _ => none
set_option maxRecDepth 100000 in
set_option maxHeartbeats 8000000 in
theorem made_any (a : Option Addr) (cap : Nat) (ds : List Int) (w : World) (hA : IntsAt w a ds) (h1 : 1 ≤ ds.length) (h8 : ds.length ≤ 8) (hb : ∀ d ∈ ds, 0 ≤ d ∧ d ≤ 1000) :
    Calls Try.prog 82 #[.slice a ds.length cap] w fun e w' => ∃ v, e = .returned (.tuple #[v, .bool (Sv.madeO ds).isSome]) ∧ Owns w' w.heap.size v ((Sv.madeO ds).getD []) ∧ Fut w w' := by
  obtain ⟨i0, hi0, hz0, hz1, hz2⟩ := info_parts info116
  have HA := Lib.hid (fun W (k : Fut w W) => hA.fut k)
  have HD := Lib.hid (fun i (hi : i < ds.length) => hb (nth ds i) (nth_mem hi))
  obtain ⟨n, hn⟩ : ∃ n, ds.length = n := ⟨_, rfl⟩
  have HN := Lib.hid hn
  have hnx : (n : Int) ≤ 8 := by omega
  obtain ⟨B, hB⟩ : ∃ B, B = w.heap.size := ⟨_, rfl⟩
  have HB := Lib.hid hB
  rw [hn] at h1 h8 HD ⊢
  clear hA hb hn hB
  go_enter Try.func82, Try.ntmps82
  go_wp2_with fail
  go_loopw [4, 10] (fun pv iv wr => ∃ (i : Nat) (S : List Sv.Prt) (oa : Option Addr) (k oc : Nat), i ≤ n ∧ iv = .int .i64 (i : Nat) ∧ pv = .slice oa k oc ∧ Hid (k = S.length ∧ Pts wr B (.slice oa k oc) S) ∧ Hid (BdS S i) ∧ Hid (Sv.runM S i (ds.drop i) = Sv.runM [] 0 ds) ∧ Hid (Fut w wr)) (fun _ iv _ => n - (intOf iv).toNat)
  case atStart => exact ⟨0, [], none, 0, 0, by omega, rfl, rfl, Lib.hid ⟨rfl, [], World.ownsRow_nil _ _ _ _, trivial⟩, Lib.hid ⟨by simp, rfl⟩, Lib.hid rfl, Lib.hid Fut.rfl⟩
  case round =>
    obtain ⟨i, S, oa, k, oc, hi, rfl, rfl, HP, HS, HR, HF⟩ := hrel
    by_cases hin : i < n
    · have hix : (i : Int) < n := by omega
      obtain ⟨b, o, rfl, hbb, c0⟩ := HA.out wr HF.out i (by rw [HN.out]; exact hin)
      have hd := HD.out i hin
      have HRR : Hid (Sv.runM (Sv.push S ⟨(i : Int), nth ds i, []⟩) (i + 1) (ds.drop (i + 1)) = Sv.runM [] 0 ds) := Lib.hid (by rw [← HR.out, nth_drop ds i (by rw [HN.out]; exact hin), Sv.runM])
      generalize nth ds i = d at *
      clear HR
      go_upto_region 6 with fail
      obtain ⟨H, hH⟩ : ∃ H, H = wr.heap.size := ⟨_, rfl⟩
      obtain ⟨w0, hw0⟩ : ∃ w0, w0 = wr.alloc (.cells #[.int .i64 (i : Nat), .int .i64 d, .slice none 0 0] 116) := ⟨_, rfl⟩
      have HF0 : Hid (Fut w w0) := Lib.hid (by rw [hw0]; exact HF.out.trans (Fut.alloc _ _))
      have HBX : Hid (w0.heap[H]? = some (.cells #[.int .i64 (i : Nat), .int .i64 d, .slice none 0 0] 116)) := Lib.hid (by rw [hH, hw0]; exact World.alloc_heap_new wr _)
      have HP0 : Hid (k = S.length ∧ Pts w0 B (.slice oa k oc) S) := Lib.hid ⟨HP.out.1, by rw [hw0]; exact HP.out.2.fut (Fut.alloc _ _)⟩
      have HG0 : Hid (∀ g, oa = some ⟨g, 0, none⟩ → g < H) := Lib.hid (fun g hg => by
        obtain ⟨e1, rs, e2, _⟩ := HP.out
        rw [hH]
        exact (World.ownsRow.lt e2 g (by rw [hg]; rfl)).2)
      have HBH : Hid (B ≤ H) := Lib.hid (by rw [hH, HB.out]; exact RowKit.Below.size HF.out)
      have HS0 : Hid (BdS (⟨(i : Int), d, []⟩ :: S) (i + 1)) := Lib.hid ⟨fun p hp => by
        rcases List.mem_cons.1 hp with rfl | hp
        · simp; omega
        · exact HS.out.1 p hp, by rw [List.map_cons, List.sum_cons, HS.out.2]; simp; omega⟩
      obtain ⟨Q, hQ⟩ : ∃ Q, Q = Sv.push S ⟨(i : Int), d, []⟩ := ⟨_, rfl⟩
      rw [← hQ] at HRR
      have HQ0 := Lib.hid hQ.symm
      rw [← hw0, ← hH]
      clear hH hw0 hQ HF HP HS c0
      go_loopw [4] (fun pv wz => ∃ (S : List Sv.Prt) (p : Sv.Prt) (u : Value) (oa : Option Addr) (k oc : Nat), pv = .slice oa k oc ∧ Hid (k = S.length ∧ Pts wz B (.slice oa k oc) S) ∧ Hid (wz.heap[H]? = some (.cells #[.int .i64 p.last, .int .i64 p.depth, u] 116)) ∧ Hid (Owns wz B u p.tree) ∧ Hid (∀ g, oa = some ⟨g, 0, none⟩ → g < H) ∧ Hid (BdS (p :: S) (i + 1)) ∧ Hid (Sv.push S p = Q) ∧ Hid (Fut w wz)) (fun pv _ => lenS pv)
      case atStart => exact ⟨S, ⟨(i : Int), d, []⟩, .slice none 0 0, oa, k, oc, rfl, HP0, HBX, Lib.hid (World.ownsRow_nil _ _ _ _), HG0, HS0, HQ0, HF0⟩
      case round =>
        obtain ⟨S, p, u, oa, k, oc, rfl, HP, HX, HU, HG, HS, HQ, HF⟩ := hrel
        obtain ⟨t0, t1, t2, _⟩ := three_cell HX.out
        have y0 := cell_after t0
        have y1 := cell_after t1
        cases S with
        | nil =>
          have hk0 : k = 0 := HP.out.1
          have hkn : ¬ 0 < k := by omega
          have hkn2 : ¬ (0 : Int) < k := by omega
          clear hk0
          go_upto_region 6 with fail
          refine region_fut (by kernel_rfl) (by kernel_rfl) ?_
          repeat (go_big_quiet_step (first | with_reducible rfl))
          refine wpQuiet_nil ?_
          intro w4 hw'
          have HF4 := Lib.hid (after_fut hw')
          clear hw' y0 y1 t0 t1 t2
          obtain ⟨lu, cu, rfl, _⟩ := HU.out.ints
          obtain ⟨wa, hwa⟩ : ∃ wa, wa = w4.alloc (.cells #[.int .i64 p.last, .int .i64 p.depth, .slice lu p.tree.length cu] 116) := ⟨_, rfl⟩
          have FA : Fut w4 wa := by rw [hwa]; exact Fut.alloc _ _
          have hnew : wa.heap[w4.heap.size]? = some (.cells #[.int .i64 p.last, .int .i64 p.depth, .slice lu p.tree.length cu] 116) := by rw [hwa]; exact World.alloc_heap_new w4 _
          have HC := Lib.hid (three_cell hnew)
          have HF5 := Lib.hid (HF4.out.trans FA)
          obtain ⟨hk, rs, hrow, hmt⟩ := HP.out
          have hkb : k ≤ 9 := by
            have := HS.out.len
            rw [List.length_cons, ← hk] at this
            omega
          have HOW : Hid (wa.ownsRow B 116 3 (.slice oa k oc) k (flatT rs)) := Lib.hid (by have h := row_futs hrow HF5.out; rw [← hk] at h; exact h)
          have HMT := Lib.hid (hmt.fut HF5.out)
          have HUA := Lib.hid (HU.out.fut HF5.out)
          have HZA : Hid (B ≤ wa.heap.size) := Lib.hid (by rw [HB.out]; exact RowKit.Below.size (HF.out.trans HF5.out))
          have HKL := Lib.hid hk
          have HWA := Lib.hid hwa
          have HFA := Lib.hid (HF.out.trans HF5.out)
          obtain ⟨z0, z1, z2, _⟩ := three_cell (heap_fut HX.out HF4.out)
          clear hk hrow hmt hwa hnew FA HP HU HX HG HF
          go_wp2_with (at_builtin; rw [← HWA.out]; refine wpList_append_lies _ rfl _ _ 114 rfl B 116 i0 (.agg #[.int .i64 0, .int .i64 0, .slice none 0 0]) 3 40 Try.underlying114 hi0 hz0 hz1 hz2 rfl (by decide) (.slice oa k oc) k (flatT rs) rfl HOW.out ⟨w4.heap.size, 0, none⟩ 1 1 [.int .i64 p.last, .int .i64 p.depth, .slice lu p.tree.length cu] rfl rfl (cells_three HC.out.1 HC.out.2.1 HC.out.2.2.1) (by simp [Value.oneCell']) (by omega) (by unfold maxLen; omega) (by omega) HZA.out _ rfl ?_)
          intro g8 c8 w8 hown8 hgrow8 hat8 _
          have HP8 : Hid (k + 1 = (p :: []).length ∧ Pts w8 B (.slice (some ⟨g8, 0, none⟩) (k + 1) c8) (p :: [])) := Lib.hid ⟨by rw [List.length_cons, ← HKL.out], (p.last, p.depth, .slice lu p.tree.length cu) :: rs, by rw [List.length_cons, ← HKL.out]; exact hown8, rfl, rfl, HUA.out.kept hgrow8 (row_apart2 (by decide) HUA.out HOW.out), HMT.out.kept hgrow8 (fun v L hv => row_apart2 (by decide) hv HOW.out)⟩
          have HF8 : Hid (Fut w w8) := Lib.hid (fut_own HFA.out hgrow8 (fun q hq => by rw [← HB.out]; exact (World.ownsRow.lt HOW.out q hq).1))
          have HR8 : Hid (Sv.runM (p :: []) (i + 1) (ds.drop (i + 1)) = Sv.runM [] 0 ds) := Lib.hid (by rw [← HRR.out, ← HQ.out, Sv.push])
          have hwi : IntKind.i64.wrap ((i : Int) + 1) = ((i + 1 : Nat) : Int) := by rw [IntWalk.i64_in _ ⟨by omega, by omega⟩]; omega
          clear hown8 hgrow8 hat8 HOW HFA HZA HC HWA z0 z1 z2
          go_wp2_with fail
          go_roundw
          case rel => first
            | exact ⟨i + 1, p :: [], _, k + 1, c8, by omega, rfl, rfl, HP8, HS, HR8, HF8⟩
            | ((repeat apply Exists.intro); exact ⟨⟨i + 1, p :: [], _, k + 1, c8, by omega, rfl, rfl, HP8, HS, HR8, HF8⟩, rfl⟩)
          case measure => simp [intOf]; omega
        | cons q S =>
          obtain ⟨g, c, uq, e, hg1, hg2, hc, b0, b1, b2, hOq, hPp⟩ := HP.out.2.top
          obtain ⟨rfl, hk, rfl⟩ : oa = some ⟨g, 0, none⟩ ∧ k = S.length + 1 ∧ oc = c := by simpa using e
          have HPp := Lib.hid hPp
          have HOq := Lib.hid hOq
          obtain ⟨j, hj⟩ : ∃ j, S.length = j := ⟨_, rfl⟩
          rw [hj, Nat.zero_add] at b0 b1 b2
          rw [hj] at hk
          have HJ := Lib.hid hj
          have HK := Lib.hid hk
          have hkb : k ≤ 9 := by
            have := HS.out.len
            rw [List.length_cons, List.length_cons, hj] at this
            omega
          have hkx : (0 : Int) < k := by omega
          have hk0 : 0 < k := by omega
          have hwj : IntKind.i64.wrap ((k : Int) - 1) = ((j : Nat) : Int) := by rw [IntWalk.i64_in _ ⟨by omega, by omega⟩]; omega
          have hjk : (j : Int) < k := by omega
          have hjk2 : j < k := by omega
          have y2 := cell_after b1
          have HT := Lib.hid (And.intro b0 (And.intro b1 b2))
          have HGG := Lib.hid (And.intro hg1 (And.intro hg2 hc))
          clear b0 b1 b2 hk hj hPp hOq e hg1 hg2 hc
          by_cases hd : q.depth = p.depth
          · have hqd : (q.depth == p.depth) = true := by simpa using hd
            have HDD := Lib.hid hd
            clear hd
            go_upto_region 6 with fail
            refine region_fut (by kernel_rfl) (by kernel_rfl) ?_
            repeat (go_big_quiet_step (first | with_reducible rfl))
            refine wpQuiet_nil ?_
            intro w4 hw'
            have HF4 := Lib.hid (after_fut hw')
            clear hw' y0 y1 t0 t1 t2
            obtain ⟨lu, cu, rfl, hIu⟩ := HU.out.ints
            obtain ⟨lq, cq, rfl, hIq⟩ := HOq.out.ints
            have hqb := HS.out.1 q (by simp)
            have hqt := HS.out.tree (p := q) (by simp)
            have hpt := HS.out.tree (p := p) (by simp)
            obtain ⟨r, hr⟩ : ∃ r, r = q.join p := ⟨_, rfl⟩
            obtain ⟨N, hN⟩ : ∃ N, r.tree.length = N := ⟨_, rfl⟩
            have HJN : Hid (∀ W, Fut wr W → Calls Try.prog 100 #[prV q.last q.depth (.slice lq q.tree.length cq), prV p.last p.depth (.slice lu p.tree.length cu)] W fun en w' => ∃ l c, en = .returned (prV r.last r.depth (.slice l N c)) ∧ Owns w' W.heap.size (.slice l N c) r.tree ∧ Fut W w') := Lib.hid (fun W k => by
              have h := join_any q.last q.depth p.last p.depth lq lu cq cu q.tree p.tree W (by omega) (hIq.fut k) (hIu.fut k) (by omega)
              rw [← hN, hr]
              exact h)
            have HRJ := Lib.hid hr
            have HNN := Lib.hid hN
            have FD : Fut wr w4.drew := HF4.out.trans (below_drewN Fut.rfl 1)
            have keep : ∀ W, Fut w4.drew W → (fun w' => w'.cell? ⟨g, j * 3, none⟩ = some (.int .i64 q.last) ∧ w'.cell? ⟨g, j * 3 + 1, none⟩ = some (.int .i64 q.depth) ∧ w'.cell? ⟨g, j * 3 + 2, none⟩ = some (.slice lq q.tree.length cq)) W := fun W k => by
              have hgl := HGG.out.2.1
              exact ⟨(RowKit.Below.cell (FD.trans k) (p := ⟨g, j * 3, none⟩) hgl).trans HT.out.1, (RowKit.Below.cell (FD.trans k) (p := ⟨g, j * 3 + 1, none⟩) hgl).trans HT.out.2.1, (RowKit.Below.cell (FD.trans k) (p := ⟨g, j * 3 + 2, none⟩) hgl).trans HT.out.2.2⟩
            have HHG : Hid (H ≠ g) := Lib.hid (by have := HG.out g rfl; omega)
            have HFD := Lib.hid FD
            clear hIu hIq hr hN FD hqb hqt hpt y2
            go_upto_region 7 with fail
            refine wp_region_held_drew (S := (fun w' => w'.cell? ⟨g, j * 3, none⟩ = some (.int .i64 q.last) ∧ w'.cell? ⟨g, j * 3 + 1, none⟩ = some (.int .i64 q.depth) ∧ w'.cell? ⟨g, j * 3 + 2, none⟩ = some (.slice lq q.tree.length cq))) (by kernel_rfl) ?_ (fun hHeld => ?_)
            · exact keep _ Fut.rfl
            generalize w4.drew = u0 at *
            refine wpAnyH_take (i := 0) (oi := { dst := some 33, op := Op.move (Operand.tmp 4), type := 114, pos := "tree.go:139", after := #[], guard := none }) (v := ?_) rfl (by kernel_rfl) (by kernel_rfl) (by kernel_rfl) (fun _ _ _ h => h) (Or.inl ⟨by rfl, ?_⟩) (by assumption) ?_
            rotate_left
            · (intro w hSw; obtain ⟨s0, s1, s2⟩ := hSw; go_simp <;> with_reducible rfl)
            try simp only [Act.put, List.setIfInBounds_toArray, List.set_cons_zero, List.set_cons_succ]
            refine wpAnyH_take (i := 1) (oi := { dst := some 34, op := Op.move (Operand.tmp 4), type := 114, pos := "tree.go:139", after := #[], guard := none }) (v := ?_) rfl (by kernel_rfl) (by kernel_rfl) (by kernel_rfl) (fun _ _ _ h => h) (Or.inl ⟨by rfl, ?_⟩) (by assumption) ?_
            rotate_left
            · (intro w hSw; obtain ⟨s0, s1, s2⟩ := hSw; go_simp <;> with_reducible rfl)
            try simp only [Act.put, List.setIfInBounds_toArray, List.set_cons_zero, List.set_cons_succ]
            refine wpAnyH_take (i := 2) (oi := { dst := some 35, op := Op.call { callee := Callee.builtin Builtin.len, args := #[Operand.tmp 34], argTypes := #[114] }, type := 3, pos := "tree.go:139", after := #[{ on := 1, ground := Ground.data }], guard := none }) (v := ?_) rfl (by kernel_rfl) (by kernel_rfl) (by kernel_rfl) (fun _ _ _ h => h) (Or.inl ⟨by rfl, ?_⟩) (by assumption) ?_
            rotate_left
            · (intro w hSw; obtain ⟨s0, s1, s2⟩ := hSw; go_simp <;> with_reducible rfl)
            try simp only [Act.put, List.setIfInBounds_toArray, List.set_cons_zero, List.set_cons_succ]
            refine wpAnyH_take (i := 3) (oi := { dst := some 36, op := Op.binOp BinOp.sub 3 (Operand.tmp 35) (Operand.const (Value.int IntKind.i64 1)) 3, type := 3, pos := "tree.go:139", after := #[{ on := 2, ground := Ground.data }], guard := none }) (v := ?_) rfl (by kernel_rfl) (by kernel_rfl) (by kernel_rfl) (fun _ _ _ h => h) (Or.inl ⟨by rfl, ?_⟩) (by assumption) ?_
            rotate_left
            · (intro w hSw; obtain ⟨s0, s1, s2⟩ := hSw; go_simp <;> with_reducible rfl)
            try simp only [Act.put, List.setIfInBounds_toArray, List.set_cons_zero, List.set_cons_succ]
            refine wpAnyH_take (i := 4) (oi := { dst := some 37, op := Op.indexAddr 114 (Operand.tmp 33) (Operand.tmp 36), type := 0, pos := "tree.go:139", after := #[{ on := 0, ground := Ground.data }, { on := 3, ground := Ground.data }], guard := none }) (v := ?_) rfl (by kernel_rfl) (by kernel_rfl) (by kernel_rfl) (fun _ _ _ h => h) (Or.inl ⟨by rfl, ?_⟩) (by assumption) ?_
            rotate_left
            · (intro w hSw; obtain ⟨s0, s1, s2⟩ := hSw; go_simp <;> with_reducible rfl)
            try simp only [Act.put, List.setIfInBounds_toArray, List.set_cons_zero, List.set_cons_succ]
            refine wpAnyH_take (i := 5) (oi := { dst := some 38, op := Op.load 116 (Operand.tmp 37), type := 116, pos := "tree.go:139", after := #[{ on := 4, ground := Ground.data }], guard := none }) (v := ?_) rfl (by kernel_rfl) (by kernel_rfl) (by kernel_rfl) (fun _ _ _ h => h) (Or.inl ⟨by rfl, ?_⟩) (by assumption) ?_
            rotate_left
            · (intro w hSw; obtain ⟨s0, s1, s2⟩ := hSw; go_simp <;> with_reducible rfl)
            try simp only [Act.put, List.setIfInBounds_toArray, List.set_cons_zero, List.set_cons_succ]
            refine wpAnyH_ready (rs := [6]) (by kernel_rfl) (by simp) ?_
            refine AllReadyH.cons (o := { dst := some 39, op := Op.load 116 (Operand.tmp 7), type := 116, pos := "tree.go:139", after := #[], guard := none }) rfl (fun K hK => ?_) AllReadyH.nil
            obtain ⟨z0, z1, z2, _⟩ := three_cell (heap_fut HX.out HFD.out)
            go_simp
            clear z0 z1 z2
            refine hK.out _ _ ?_ (fun hHeld => ?_)
            · exact keep _ Fut.rfl
            clear hK K
            try simp only [Act.put, List.setIfInBounds_toArray, List.set_cons_zero, List.set_cons_succ]
            refine wpAnyH_ready (rs := [7]) (by kernel_rfl) (by simp) ?_
            refine AllReadyH.cons (o := { dst := some 40, op := Op.call { callee := Callee.value (Operand.func 100), args := #[Operand.tmp 38, Operand.tmp 39], argTypes := #[116, 116] }, type := 116, pos := "tree.go:139", after := #[{ on := 5, ground := Ground.data }, { on := 6, ground := Ground.data }], guard := none }) rfl (fun K hK => ?_) AllReadyH.nil
            go_simp
            go_at_call 100
            refine (HJN.out u0 HFD.out).mono ?_
            rintro _ v7 ⟨l7, c7, rfl, hO7, T7⟩
            have O7 := Lib.hid hO7
            have G7 := Lib.hid T7
            clear hO7 T7
            try go_wp2_with fail
            refine hK.out _ _ ?_ (fun hHeld => ?_)
            · exact keep _ G7.out
            clear hK K
            try simp only [Act.put, List.setIfInBounds_toArray, List.set_cons_zero, List.set_cons_succ]
            refine wpAnyH_ready (rs := [8]) (by kernel_rfl) (by simp) ?_
            refine AllReadyH.cons (o := { dst := none, op := Op.store 116 (Operand.tmp 7) (Operand.tmp 40), type := 0, pos := "tree.go:139", after := #[{ on := 7, ground := Ground.data }, { on := 7, ground := Ground.chain }, { on := 0, ground := Ground.phase }, { on := 1, ground := Ground.phase }, { on := 2, ground := Ground.phase }, { on := 3, ground := Ground.phase }, { on := 4, ground := Ground.phase }, { on := 5, ground := Ground.phase }, { on := 6, ground := Ground.phase }, { on := 7, ground := Ground.phase }], guard := none }) rfl (fun K hK => ?_) AllReadyH.nil
            have HX7 := Lib.hid (heap_fut HX.out (HFD.out.trans G7.out))
            have e1 := set3_all (.int .i64 r.last) (.int .i64 r.depth) (.slice l7 N c7) HX7.out
            obtain ⟨⟨y1, y2⟩, ⟨y3, y4⟩, ⟨y5, y6⟩, y7⟩ := e1
            have HX8 := Lib.hid y7
            have HF8 : Hid (Fut w (((v7.setCell ⟨H, 0, none⟩ (.int .i64 r.last)).setCell ⟨H, 1, none⟩ (.int .i64 r.depth)).setCell ⟨H, 2, none⟩ (.slice l7 N c7))) := Lib.hid (RowKit.Below.setCell (p := ⟨H, 2, none⟩) (RowKit.Below.setCell (p := ⟨H, 1, none⟩) (RowKit.Below.setCell (p := ⟨H, 0, none⟩) (HF.out.trans (HFD.out.trans G7.out)) (by rw [← HB.out]; exact HBH.out) _) (by rw [← HB.out]; exact HBH.out) _) (by rw [← HB.out]; exact HBH.out) _)
            have HU8 : Hid (Owns (((v7.setCell ⟨H, 0, none⟩ (.int .i64 r.last)).setCell ⟨H, 1, none⟩ (.int .i64 r.depth)).setCell ⟨H, 2, none⟩ (.slice l7 N c7)) B (.slice l7 N c7) r.tree) := Lib.hid ((own_set3 (O7.out.base (Nat.lt_of_lt_of_le (Array.getElem?_eq_some_iff.1 (heap_fut HX.out HFD.out)).1 (Nat.le_refl _))) _ _ _).base (Nat.le_succ_of_le HBH.out))
            have HP8 : Hid (j = S.length ∧ Pts (((v7.setCell ⟨H, 0, none⟩ (.int .i64 r.last)).setCell ⟨H, 1, none⟩ (.int .i64 r.depth)).setCell ⟨H, 2, none⟩ (.slice l7 N c7)) B (.slice (some ⟨g, 0, none⟩) j oc) S) := Lib.hid ⟨HJ.out.symm, by rw [← HJ.out]; exact (HPp.out.fut (HFD.out.trans G7.out)).set3 HX7.out (fun e => by have := HG.out g rfl; simp [Value.ownBlock] at e; omega) _ _ _⟩
            have KS := Lib.hid (keep _ G7.out)
            go_simp
            clear y1 y2 y3 y4 y5 y6 y7
            refine hK.out _ _ ?_ (fun hHeld => ?_)
            · exact ⟨(cell_set3 HHG.out _ _ _ _).trans KS.out.1, (cell_set3 HHG.out _ _ _ _).trans KS.out.2.1, (cell_set3 HHG.out _ _ _ _).trans KS.out.2.2⟩
            clear hK K
            try simp only [Act.put, List.setIfInBounds_toArray, List.set_cons_zero, List.set_cons_succ]
            refine wpAnyH_done (by kernel_rfl) ?_ _
            have HQ8 : Hid (Sv.push S r = Q) := Lib.hid (by rw [← HQ.out, Sv.push, if_pos HDD.out, HRJ.out])
            have HS8 : Hid (BdS (r :: S) (i + 1)) := Lib.hid (by rw [HRJ.out]; exact HS.out.join)
            have hsl := slice_to114 g 0 k oc j (by have := HGG.out.2.2; have := HJ.out; omega)
            clear HX HU HP HS HQ HF HX7 O7 G7 HFD HJN keep HPp HOq HT KS
            generalize ((v7.setCell ⟨H, 0, none⟩ (.int .i64 r.last)).setCell ⟨H, 1, none⟩ (.int .i64 r.depth)).setCell ⟨H, 2, none⟩ (.slice l7 N c7) = w8 at *
            go_wp2_with fail
            go_roundw
            case rel => first
              | exact ⟨S, r, .slice l7 N c7, some ⟨g, 0, none⟩, j, oc, rfl, HP8, HX8, HU8, HG, HS8, HQ8, HF8⟩
              | ((repeat apply Exists.intro); exact ⟨⟨S, r, .slice l7 N c7, some ⟨g, 0, none⟩, j, oc, rfl, HP8, HX8, HU8, HG, HS8, HQ8, HF8⟩, rfl⟩)
            case measure => simp only [lenS]; omega
          · have hqd : (q.depth == p.depth) = false := by simpa using hd
            have HDD := Lib.hid hd
            clear hd
            go_upto_region 6 with fail
            refine region_fut (by kernel_rfl) (by kernel_rfl) ?_
            repeat (go_big_quiet_step (first | with_reducible rfl))
            refine wpQuiet_nil ?_
            intro w4 hw'
            clear y2 HT HGG HPp HOq
            have HF4 := Lib.hid (after_fut hw')
            clear hw' y0 y1 t0 t1 t2
            obtain ⟨lu, cu, rfl, _⟩ := HU.out.ints
            obtain ⟨wa, hwa⟩ : ∃ wa, wa = w4.alloc (.cells #[.int .i64 p.last, .int .i64 p.depth, .slice lu p.tree.length cu] 116) := ⟨_, rfl⟩
            have FA : Fut w4 wa := by rw [hwa]; exact Fut.alloc _ _
            have hnew : wa.heap[w4.heap.size]? = some (.cells #[.int .i64 p.last, .int .i64 p.depth, .slice lu p.tree.length cu] 116) := by rw [hwa]; exact World.alloc_heap_new w4 _
            have HC := Lib.hid (three_cell hnew)
            have HF5 := Lib.hid (HF4.out.trans FA)
            obtain ⟨hk, rs, hrow, hmt⟩ := HP.out
            have hkb : k ≤ 9 := by
              have := HS.out.len
              rw [List.length_cons, ← hk] at this
              omega
            have HOW : Hid (wa.ownsRow B 116 3 (.slice (some ⟨g, 0, none⟩) k oc) k (flatT rs)) := Lib.hid (by have h := row_futs hrow HF5.out; rw [← hk] at h; exact h)
            have HMT := Lib.hid (hmt.fut HF5.out)
            have HUA := Lib.hid (HU.out.fut HF5.out)
            have HZA : Hid (B ≤ wa.heap.size) := Lib.hid (by rw [HB.out]; exact RowKit.Below.size (HF.out.trans HF5.out))
            have HKL := Lib.hid hk
            have HWA := Lib.hid hwa
            have HFA := Lib.hid (HF.out.trans HF5.out)
            obtain ⟨z0, z1, z2, _⟩ := three_cell (heap_fut HX.out HF4.out)
            clear hk hrow hmt hwa hnew FA HP HU HX HG HF
            go_wp2_with (at_builtin; rw [← HWA.out]; refine wpList_append_lies _ rfl _ _ 114 rfl B 116 i0 (.agg #[.int .i64 0, .int .i64 0, .slice none 0 0]) 3 40 Try.underlying114 hi0 hz0 hz1 hz2 rfl (by decide) (.slice (some ⟨g, 0, none⟩) k oc) k (flatT rs) rfl HOW.out ⟨w4.heap.size, 0, none⟩ 1 1 [.int .i64 p.last, .int .i64 p.depth, .slice lu p.tree.length cu] rfl rfl (cells_three HC.out.1 HC.out.2.1 HC.out.2.2.1) (by simp [Value.oneCell']) (by omega) (by unfold maxLen; omega) (by omega) HZA.out _ rfl ?_)
            intro g8 c8 w8 hown8 hgrow8 hat8 _
            have HP8 : Hid (k + 1 = (p :: (q :: S)).length ∧ Pts w8 B (.slice (some ⟨g8, 0, none⟩) (k + 1) c8) (p :: (q :: S))) := Lib.hid ⟨by rw [List.length_cons, ← HKL.out], (p.last, p.depth, .slice lu p.tree.length cu) :: rs, by rw [List.length_cons, ← HKL.out]; exact hown8, rfl, rfl, HUA.out.kept hgrow8 (row_apart2 (by decide) HUA.out HOW.out), HMT.out.kept hgrow8 (fun v L hv => row_apart2 (by decide) hv HOW.out)⟩
            have HF8 : Hid (Fut w w8) := Lib.hid (fut_own HFA.out hgrow8 (fun q hq => by rw [← HB.out]; exact (World.ownsRow.lt HOW.out q hq).1))
            have HR8 : Hid (Sv.runM (p :: (q :: S)) (i + 1) (ds.drop (i + 1)) = Sv.runM [] 0 ds) := Lib.hid (by rw [← HRR.out, ← HQ.out, Sv.push, if_neg HDD.out])
            have hwi : IntKind.i64.wrap ((i : Int) + 1) = ((i + 1 : Nat) : Int) := by rw [IntWalk.i64_in _ ⟨by omega, by omega⟩]; omega
            clear hown8 hgrow8 hat8 HOW HFA HZA HC HWA z0 z1 z2
            go_wp2_with fail
            go_roundw
            case rel => first
              | exact ⟨i + 1, p :: (q :: S), _, k + 1, c8, by omega, rfl, rfl, HP8, HS, HR8, HF8⟩
              | ((repeat apply Exists.intro); exact ⟨⟨i + 1, p :: (q :: S), _, k + 1, c8, by omega, rfl, rfl, HP8, HS, HR8, HF8⟩, rfl⟩)
            case measure => simp [intOf]; omega
    · obtain rfl : i = n := by omega
      have hE : S = Sv.runM [] 0 ds := by rw [← HR.out, List.drop_eq_nil_of_le (by rw [HN.out]; exact Nat.le_refl _), Sv.runM]
      have HMO : Hid (Sv.madeO ds = madeS S) := Lib.hid (by rw [hE]; rfl)
      clear hE HR
      match S, HP, HS, HMO with
      | [], HP, HS, HMO =>
        have := HS.out.2
        simp at this
        omega
      | [p], HP, HS, HMO =>
        obtain ⟨g, c, u, e, hg1, hg2, hc, b0, b1, b2, hO, _⟩ := HP.out.2.top
        obtain ⟨rfl, hk, rfl⟩ : oa = some ⟨g, 0, none⟩ ∧ k = 1 ∧ oc = c := by simpa using e
        subst hk
        obtain ⟨l, lc, rfl, _⟩ := hO.ints
        have HO := Lib.hid hO
        simp only [List.length_nil, Nat.zero_mul, Nat.zero_add, Nat.add_zero] at b0 b1 b2
        clear e hg1 hg2 hc hO HP
        by_cases hd : p.depth = 0
        · have HM2 : Hid (Sv.madeO ds = some p.tree) := Lib.hid (by rw [HMO.out]; rw [madeS, if_pos hd])
          rw [hd] at b1
          clear hd
          go_wp2_with fail
          go_ret2
          rw [HM2.out]
          exact ⟨_, rfl, by rw [← HB.out]; exact HO.out, HF.out⟩
        · have HM2 : Hid (Sv.madeO ds = none) := Lib.hid (by rw [HMO.out]; rw [madeS, if_neg hd])
          go_wp2_with fail
          go_ret2
          rw [HM2.out]
          exact ⟨_, rfl, World.ownsRow_nil _ _ _ _, HF.out⟩
      | p :: q :: S, HP, HS, HMO =>
        have hk : 1 < k := by rw [HP.out.1]; simp
        have hkx : (1 : Int) < k := by omega
        have HM2 : Hid (Sv.madeO ds = none) := Lib.hid HMO.out
        go_wp2_with fail
        go_ret2
        rw [HM2.out]
        exact ⟨_, rfl, World.ownsRow_nil _ _ _ _, HF.out⟩
end Go.Proofs.Ytjapconhehdcjaa
