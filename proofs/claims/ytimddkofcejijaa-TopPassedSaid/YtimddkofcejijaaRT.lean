/- Layer 2: Goes. -/
import Derived.Test.YtimddkofcejijaaRS
import Derived.Deep.OwnRows
import Derived.Laws.OwnMore
namespace Go.Proofs.Ytimddkofcejijaa
open Go.RowKit Go.Sort
theorem oft_len (n : Nat) (zs : List Int) : (oftL n zs).length = n := by unfold oftL; simp
theorem oft_nth (n : Nat) (zs : List Int) (i : Nat) (h : i < n) : nth (oftL n zs) i = ((zs.count (i : Int) : Nat) : Int) := by
  rw [nth_eq]; unfold oftL; simp [h]
theorem oft_step (n : Nat) (zs : List Int) (i : Nat) : oftL n (zs ++ [(i : Int)]) = (oftL n zs).set i (((zs.count (i : Int) : Nat) : Int) + 1) := by
  apply List.ext_getElem
  · simp [oft_len]
  · intro j h1 h2
    rw [oft_len] at h1
    rw [List.getElem_set]
    unfold oftL
    simp only [List.getElem_map, List.getElem_range, List.count_append]
    by_cases hij : i = j
    · subst hij; simp
    · rw [if_neg hij]
      have : List.count (j : Int) [(i : Int)] = 0 := by
        rw [List.count_eq_zero]; simp; omega
      rw [this]; simp
theorem oft_nil (n : Nat) : (oftL n []).map (Value.int .i64) = List.replicate n (.int .i64 0) := by
  unfold oftL
  rw [List.map_map]
  apply List.ext_getElem
  · simp
  · intro j h1 h2; simp
theorem made_own (w : World) (n : Nat) (h : n ≤ 1000) : Owns (w.alloc (.cells (madeCells #[Value.int .i64 0] n) 3)) w.heap.size (.slice (some ⟨w.heap.size, 0, none⟩) n n) (oftL n []) := by
  have e : (madeCells #[Value.int .i64 0] n).toList = List.replicate n (.int .i64 0) := by
    apply List.ext_getElem
    · simp [madeCells]
    · intro j h1 h2; simp [madeCells, Nat.mod_one]
  have hs : (madeCells #[Value.int .i64 0] n).size = n * 1 := by rw [← Array.length_toList, e]; simp
  have := World.ownsRow_lit (base := w.heap.size) (e := 3) (size := 1) w (madeCells #[Value.int .i64 0] n) n (Nat.le_refl _) (by unfold maxLen; omega) hs
  unfold Owns
  rw [oft_nil, oft_len, ← e]
  exact this
theorem own_at {w : World} {B g n : Nat} {L : List Int} (h : Owns w B (.slice (some ⟨g, 0, none⟩) n n) L) (hn : L.length = n) (z : Nat) (hz : z < n) :
    w.cell? ⟨g, z, none⟩ = some (.int .i64 (nth L z)) ∧ w.frozen? ⟨g, z, none⟩ = false ∧ g < w.heap.size := by
  unfold Owns at h
  rw [hn] at h
  have h1 := h.cellAt z (by omega)
  refine ⟨?_, h.frozenAt z, (h.lt g rfl).2⟩
  rw [h1, nth_eq]
  simp [List.getElem?_eq_getElem (show z < L.length by omega)]
theorem own_set {w : World} {B g n : Nat} {L : List Int} (h : Owns w B (.slice (some ⟨g, 0, none⟩) n n) L) (hn : L.length = n) (z : Nat) (u : Int) :
    Owns (w.setCell ⟨g, z, none⟩ (.int .i64 u)) B (.slice (some ⟨g, 0, none⟩) n n) (L.set z u) := by
  unfold Owns at h ⊢
  rw [hn] at h
  have h1 := (h.stored z (.int .i64 u)).1
  rw [List.length_set, hn, List.map_set]
  exact h1
theorem own_ints {w : World} {B g n : Nat} {L : List Int} (h : Owns w B (.slice (some ⟨g, 0, none⟩) n n) L) (hn : L.length = n) : IntsAt w (some ⟨g, 0, none⟩) L := fun j hj => by
  obtain ⟨h1, _, h3⟩ := own_at h hn j (by omega)
  exact ⟨g, 0, rfl, h3, by rw [Nat.zero_add]; exact h1⟩
def goesE (c : Int) (ss : List (Int × Int)) (zs : List Int) : Int :=
  if chkM c ss = 0 then (if (goE ss zs 0).1 = 0 then (if (goE ss zs 0).2 = 0 then (if (oftL ss.length zs).contains 0 then 4 else 0) else 21) else (goE ss zs 0).1) else chkM c ss
def goesR (c : Int) (ss : List (Int × Int)) (zs : List Int) : List Int := if goesE c ss zs = 0 then oftL ss.length zs else []
set_option maxRecDepth 100000 in
set_option maxHeartbeats 4000000 in
theorem goesf_any (c : Int) (a : Option Addr) (cap : Nat) (ss : List (Int × Int)) (d : Option Addr) (dap : Nat) (zs : List Int) (w : World) (hS : StrAt w a ss) (hZ : IntsAt w d zs) (hlz : zs.length ≤ 1000) :
    Calls Try.prog 28 #[mapV c a ss.length cap, .slice d zs.length dap] w (TupL (goesE c ss zs) (goesR c ss zs) w) := by
  have HC := Lib.hid (fun W (F : Fut w W) => check_any' c a cap ss W (hS.fut F))
  by_cases hc : chkM c ss = 0
  · obtain ⟨hc1, hc6, h9, hp, _, _⟩ := chk_good hc
    have HGE : Hid (goesE c ss zs = if (goE ss zs 0).1 = 0 then (if (goE ss zs 0).2 = 0 then (if (oftL ss.length zs).contains 0 then 4 else 0) else 21) else (goE ss zs 0).1) := Lib.hid (by unfold goesE; rw [if_pos hc])
    have HGR : Hid (goesR c ss zs = if goesE c ss zs = 0 then oftL ss.length zs else []) := Lib.hid rfl
    rw [hc] at HC
    have HS := Lib.hid hS
    have HP := Lib.hid hp
    have HZ := Lib.hid hZ
    have hlx : (ss.length : Int) ≤ 9 := by omega
    have hzx : (zs.length : Int) ≤ 1000 := by omega
    have hmk := run_make_row' (P := Try.prog) 25 3 (.int .i64 0) 8 Try.underlying25 info3 rfl .i64 .i64 ss.length (by omega) (by omega)
    clear hS hZ hc hp
    generalize goesR c ss zs = R at *
    generalize goesE c ss zs = E at *
    generalize hG : goE ss zs 0 = G at *
    have HG := Lib.hid hG
    clear hG
    go_enter Try.func28, Try.ntmps28
    go_wp2_with fail
    have hB := BoxM.new w c a ss.length cap 24
    have hF : Fut w (w.alloc (.cells #[.int .i64 c, .slice a ss.length cap] 24)) := Fut.alloc _ _
    generalize w.alloc (.cells #[.int .i64 c, .slice a ss.length cap] 24) = W1 at *
    generalize hBB : w.heap.size = B at *
    have HBB := Lib.hid hBB
    clear hBB
    refine (HC.out _ hF).mono ?_
    rintro _ w1 ⟨rfl, F⟩
    have HF := Lib.hid (hF.trans F)
    have HB := Lib.hid (hB.fut F)
    obtain ⟨hb, b0, b1⟩ := HB.out
    clear hF F hB
    go_wp2_with fail
    have hgs : Owns (w1.alloc (.cells (madeCells #[Value.int .i64 0] ss.length) 3)) w1.heap.size (.slice (some ⟨w1.heap.size, 0, none⟩) ss.length ss.length) (oftL ss.length []) := made_own w1 ss.length (by omega)
    have hF2 : Fut w (w1.alloc (.cells (madeCells #[Value.int .i64 0] ss.length) 3)) := HF.out.trans (Fut.alloc _ _)
    have hB2 := HB.out.fut (Fut.alloc w1 (.cells (madeCells #[Value.int .i64 0] ss.length) 3))
    have hsz : w1.heap.size < (w1.alloc (.cells (madeCells #[Value.int .i64 0] ss.length) 3)).heap.size := by simp
    generalize w1.alloc (.cells (madeCells #[Value.int .i64 0] ss.length) 3) = w2 at *
    have hBg : B < w1.heap.size := HB.out.1
    have hwg : w.heap.size ≤ w1.heap.size := RowKit.Below.size HF.out
    generalize hgg : w1.heap.size = g at *
    have HO0 := Lib.hid hgs
    have HF0 := Lib.hid hF2
    have HB0 := Lib.hid hB2
    have HWG := Lib.hid hwg
    clear hgs hF2 hB2 hb b0 b1 hgg hmk hwg
    go_loopw [8, 22] (fun av iv wr => ∃ (k x : Nat), k ≤ zs.length ∧ iv = .int .i64 k ∧ av = .int .i64 x ∧ x ≤ 15 ∧ Hid (goE ss (zs.drop k) x = G) ∧ Hid (Owns wr g (.slice (some ⟨g, 0, none⟩) ss.length ss.length) (oftL ss.length (zs.take k))) ∧ Hid (BoxM wr B c a ss.length cap) ∧ Hid (Fut w wr)) (fun _ iv _ => zs.length - (intOf iv).toNat)
    case atStart => exact ⟨0, 0, Nat.zero_le _, rfl, rfl, by omega, HG, HO0, HB0, HF0⟩
    case round =>
      obtain ⟨k, x, hk, rfl, rfl, hx, HO, HW, HBR, HR⟩ := hrel
      obtain ⟨hb, b0, b1⟩ := HBR.out
      by_cases hlt : k < zs.length
      · have hkx : (k : Int) < zs.length := by omega
        obtain ⟨bb, off, ea, hbb, d1⟩ := (HZ.out.fut HR.out) k hlt
        subst ea
        have hd := nth_drop zs k hlt
        rw [hd] at HO
        have hts : zs.take (k + 1) = zs.take k ++ [nth zs k] := by rw [List.take_add_one, nth_eq, List.getElem?_eq_getElem hlt]; rfl
        have HTS := Lib.hid hts
        have HI := Lib.hid (fun W => isIndex_any (nth zs k) ss.length W)
        unfold goE at HO
        clear hd hts
        cases hz : inB ss.length (nth zs k)
        · rw [hz] at HI HO
          simp only [Bool.false_eq_true, if_false] at HO
          have hG : G = (2, 0) := HO.out.symm
          subst hG
          have hE : E = 2 := HGE.out
          subst hE
          have hR : R = [] := HGR.out
          subst hR
          clear hz
          go_wp2_with (go_at_call 58; refine (HI.out _).mono ?_; rintro _ _ ⟨rfl, rfl⟩)
          go_ret2
          exact ⟨_, _, rfl, nil_ints _ _, HR.out⟩
        · have hzz : 0 ≤ nth zs k ∧ nth zs k < ss.length := by simpa [inB] using hz
          rw [hz] at HI HO
          simp only [if_true] at HO
          obtain ⟨z, hzn⟩ := Int.eq_ofNat_of_zero_le hzz.1
          have hzl : z < ss.length := by omega
          have hzlx : (z : Int) < ss.length := by omega
          rw [hzn] at d1 HI
          rw [hzn, Int.toNat_natCast, Int.toNat_natCast] at HO
          rw [hzn] at HTS
          clear hz hzz hzn
          have hpz := HP.out.at z hzl
          have HE := Lib.hid (fun W (F : Fut w W) => ends_any c a cap ss z W (HS.out.fut F) hzl (by omega) hpz)
          have hel := ends_lt hpz
          have HH := Lib.hid (fun W => has_any (endsM (str ss z)) x W hel (by omega))
          cases ht : (endsM (str ss z)).testBit x
          · rw [ht] at HH HO
            simp only [Bool.false_eq_true, if_false] at HO
            have hG : G = (12, 0) := HO.out.symm
            subst hG
            have hE : E = 12 := HGE.out
            subst hE
            have hR : R = [] := HGR.out
            subst hR
            clear ht
            generalize endsM (str ss z) = EE at *
            go_wp2_with (go_at_call 58; refine (HI.out _).mono ?_; rintro _ _ ⟨rfl, rfl⟩)
            refine (HE.out _ HR.out).mono ?_
            rintro _ w3 ⟨rfl, F⟩
            have HR3 := Lib.hid (HR.out.trans F)
            clear F hb b0 b1
            go_wp2_with (go_at_call 71; refine (HH.out _).mono ?_; rintro _ _ ⟨rfl, rfl⟩)
            go_ret2
            exact ⟨_, _, rfl, nil_ints _ _, HR3.out⟩
          · rw [ht] at HH HO
            simp only [if_true] at HO
            have ho := oth_ok hpz ht
            have HOT := Lib.hid (fun W (F : Fut w W) => other_any c a cap ss z x W (HS.out.fut F) hzl (by omega) hpz (by omega))
            obtain ⟨y, hy⟩ := Int.eq_ofNat_of_zero_le ho.1
            have hy15 : y ≤ 15 := by omega
            rw [hy] at HO HOT
            clear hy ho ht hpz
            generalize endsM (str ss z) = EE at *
            have hol := oft_nth ss.length (zs.take k) z hzl
            have hcl : (zs.take k).count (z : Int) ≤ 1000 := by
              have h1 := List.count_le_length (a := (z : Int)) (l := zs.take k)
              have h2 : (zs.take k).length ≤ k := by simp; omega
              omega
            have HST : Hid (oftL ss.length (zs.take (k + 1)) = (oftL ss.length (zs.take k)).set z ((((zs.take k).count (z : Int) : Nat) : Int) + 1)) := Lib.hid (by rw [HTS.out]; exact oft_step _ _ _)
            have HCL := Lib.hid (oft_len ss.length (zs.take k))
            generalize hcc : (((zs.take k).count (z : Int) : Nat) : Int) = q at *
            have hq0 : 0 ≤ q := by omega
            have hq1 : q ≤ 1000 := by omega
            clear hcc hcl
            generalize oftL ss.length (zs.take k) = L at *
            go_wp2_with (go_at_call 58; refine (HI.out _).mono ?_; rintro _ _ ⟨rfl, rfl⟩)
            refine (HE.out _ HR.out).mono ?_
            rintro _ w3 ⟨rfl, F⟩
            have HR3 := Lib.hid (HR.out.trans F)
            have HW3 := Lib.hid (HW.out.fut F)
            have HB3 := Lib.hid (HBR.out.fut F)
            clear F hb b0 b1
            obtain ⟨hb, b0, b1⟩ := HB3.out
            obtain ⟨e1, e2, e3⟩ := own_at HW3.out HCL.out z hzl
            rw [hol] at e1
            clear hol
            go_wp2_with (go_at_call 71; refine (HH.out _).mono ?_; rintro _ _ ⟨rfl, rfl⟩)
            have hset := own_set HW3.out HCL.out z (q + 1)
            have hblw : RowKit.Below g w3 (w3.setCell ⟨g, z, none⟩ (.int .i64 (q + 1))) := (RowKit.Below.refl g w3).setCell (p := ⟨g, z, none⟩) (Nat.le_refl _) _
            have hR4 := HR3.out.trans' hblw HWG.out
            have hB4 := HB3.out.belowB hBg hblw
            generalize w3.setCell ⟨g, z, none⟩ (.int .i64 (q + 1)) = w4 at *
            have HR4 := Lib.hid hR4
            have HW4 := Lib.hid hset
            have HB4 := Lib.hid hB4
            clear hb b0 b1 e1 e2 e3 hR4 hB4 hset hblw
            obtain ⟨hb, b0, b1⟩ := HB4.out
            refine (HOT.out _ HR4.out).mono ?_
            rintro _ w5 ⟨rfl, F⟩
            have HR5 := Lib.hid (HR4.out.trans F)
            have HW5 : Hid (Owns w5 g (.slice (some ⟨g, 0, none⟩) ss.length ss.length) (oftL ss.length (zs.take (k + 1)))) := Lib.hid (by rw [HST.out]; exact HW4.out.fut F)
            have HB5 := Lib.hid (HB4.out.fut F)
            clear F hb b0 b1
            go_wp2
            go_roundw
            case rel => exact ⟨k + 1, y, by omega, by go_num, rfl, hy15, HO, HW5, HB5, HR5⟩
            case measure => simp [intOf]; omega
      · obtain rfl : k = zs.length := by omega
        rw [List.drop_of_length_le (Nat.le_refl _)] at HO
        rw [List.take_length] at HW
        have hG : G = (0, (x : Int)) := HO.out.symm
        subst hG
        by_cases hx0 : x = 0
        · subst hx0
          have HCN : Hid (∀ W, IntsAt W (some ⟨g, 0, none⟩) (oftL ss.length zs) → Calls Try.prog 73 #[.slice (some ⟨g, 0, none⟩) ss.length ss.length, .int .i64 0] W fun e w' => e = .returned (.bool ((oftL ss.length zs).contains 0)) ∧ W = w') := Lib.hid (fun W hI => by
            have := contains_any (some ⟨g, 0, none⟩) ss.length (oftL ss.length zs) 0 W hI (by rw [oft_len]; omega)
            rwa [oft_len] at this)
          have HIN := Lib.hid (own_ints HW.out (oft_len _ _))
          have HLN := Lib.hid (oft_len ss.length zs)
          have HGE2 : Hid (E = if (oftL ss.length zs).contains 0 then 4 else 0) := Lib.hid HGE.out
          generalize oftL ss.length zs = L at *
          cases hcn : L.contains 0
          · rw [hcn] at HCN HGE2
            have hE : E = 0 := HGE2.out
            subst hE
            have hR : R = L := HGR.out
            subst hR
            clear hcn
            go_wp2_with (go_at_call 73; refine (HCN.out _ HIN.out).mono ?_; rintro _ _ ⟨rfl, rfl⟩)
            go_ret2
            exact ⟨some ⟨g, 0, none⟩, ss.length, by rw [HLN.out]; rfl, HIN.out, HR.out⟩
          · rw [hcn] at HCN HGE2
            have hE : E = 4 := HGE2.out
            subst hE
            have hR : R = [] := HGR.out
            subst hR
            clear hcn
            go_wp2_with (go_at_call 73; refine (HCN.out _ HIN.out).mono ?_; rintro _ _ ⟨rfl, rfl⟩)
            go_ret2
            exact ⟨_, _, rfl, nil_ints _ _, HR.out⟩
        · have hxx : ((x : Int) != 0) = true := by rw [bne_iff_ne]; omega
          have hE : E = 21 := by rw [HGE.out]; simp [hx0]
          subst hE
          have hR : R = [] := HGR.out
          subst hR
          go_wp2
          go_ret2
          exact ⟨_, _, rfl, nil_ints _ _, HR.out⟩
  · have hE : goesE c ss zs = chkM c ss := by unfold goesE; rw [if_neg hc]
    have hR : goesR c ss zs = [] := by unfold goesR; rw [hE, if_neg hc]
    rw [hE, hR]
    obtain ⟨_, h2⟩ := chk_std hc
    clear hS hZ hE hR
    generalize chkM c ss = r at *
    go_enter Try.func28, Try.ntmps28
    go_wp2_with fail
    refine (HC.out _ (Fut.alloc _ _)).mono ?_
    rintro _ w1 ⟨rfl, F⟩
    go_wp2
    go_ret2
    exact ⟨_, _, rfl, nil_ints _ _, (Fut.alloc _ _).trans F⟩
end Go.Proofs.Ytimddkofcejijaa
