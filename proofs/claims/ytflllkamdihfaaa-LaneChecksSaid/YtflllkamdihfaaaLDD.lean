/- LaneChecks: rswap_any -/
import Derived.Test.YtflllkamdihfaaaLDC
import Derived.Test.YtflllkamdihfaaaLT
import Derived.Test.YtflllkamdihfaaaLS
import Derived.Test.YtflllkamdihfaaaLBB
import Derived.Test.YtflllkamdihfaaaLJ
namespace Go.Proofs.Ytflllkamdihfaaa
open Go.RowKit Go.Sort
theorem nth_zero (y : Int) (t : List Int) : nth (y :: t) 0 = y := by simp [nth_eq]
theorem nth_succ (y : Int) (t : List Int) (k : Nat) : nth (y :: t) (k + 1) = nth t k := by simp [nth_eq]
theorem idx_first {x : Int} : ∀ (l : List Int) (s k : Nat), k < l.length → nth l k = x → (∀ p, p < k → nth l p ≠ x) → idxF x l s = ((s + k : Nat) : Int)
  | y :: t, s, 0, _, h2, _ => by
    rw [nth_zero] at h2
    unfold idxF
    rw [if_pos h2]; simp
  | y :: t, s, k + 1, h1, h2, h3 => by
    rw [nth_succ] at h2
    have h0 := h3 0 (by omega)
    rw [nth_zero] at h0
    unfold idxF
    rw [if_neg h0, idx_first t (s + 1) k (by simpa using h1) h2 (fun p hp => by have := h3 (p + 1) (by omega); rwa [nth_succ] at this)]
    congr 1; omega
theorem idx_not {x : Int} : ∀ (l : List Int) (s : Nat), x ∉ l → idxF x l s = -1
  | [], _, _ => rfl
  | y :: t, s, h => by
    unfold idxF
    rw [if_neg (fun e => h (by simp [e]))]
    exact idx_not t (s + 1) fun q => h (by simp [q])
theorem nth_mem' {l : List Int} {k : Nat} (h : k < l.length) : nth l k ∈ l := by
  rw [nth_eq, List.getElem?_eq_getElem h]; exact List.getElem_mem h
/-- the rows of a list of lists, wherever they lie. -/
def RowsC (w : World) (vals : List Value) (F : List (List Int)) : Prop :=
  vals.length = F.length ∧ ∀ j, j < F.length → ∃ l lc, vals[j]? = some (.slice l (lth F j).length lc) ∧ (lth F j).length ≤ lc ∧ lc ≤ 9223372036854775807 ∧ IntsAt w l (lth F j)
theorem RowsC.fut {w w' : World} {vals : List Value} {F : List (List Int)} (h : RowsC w vals F) (G : Fut w w') : RowsC w' vals F :=
  ⟨h.1, fun j hj => by obtain ⟨l, lc, h1, h2, h3, h4⟩ := h.2 j hj; exact ⟨l, lc, h1, h2, h3, h4.fut G⟩⟩
theorem RowsC.set {w : World} {vals : List Value} {F : List (List Int)} (h : RowsC w vals F) (i : Nat) {v : Value} {z : List Int} (hv : Owns w 0 v z) : RowsC w (vals.set i v) (F.set i z) := by
  refine ⟨by simp [h.1], fun j hj => ?_⟩
  have hj2 : j < F.length := by simpa using hj
  by_cases e : i = j
  · subst e
    obtain ⟨a, cap, rfl, h1, h2, hI⟩ := hv.form
    rw [lth_set_same _ _ _ hj2]
    exact ⟨a, cap, by rw [List.getElem?_set_self (by rw [h.1]; exact hj2)], h1, by unfold maxLen at h2; omega, hI⟩
  · rw [lth_set_ne _ _ _ _ e]
    obtain ⟨l, lc, h1, h2⟩ := h.2 j hj2
    exact ⟨l, lc, by rw [List.getElem?_set_ne e]; exact h1, h2⟩
theorem RowsC.one {w : World} {vals : List Value} {F : List (List Int)} (h : RowsC w vals F) : ∀ x ∈ vals, x.oneCell' = true := fun x hx => by
  obtain ⟨j, hj, e⟩ := List.getElem_of_mem hx
  obtain ⟨l, lc, h1, _⟩ := h.2 j (by rw [← h.1]; exact hj)
  rw [List.getElem?_eq_getElem hj, e] at h1
  injection h1 with h1
  rw [h1]; rfl
theorem RowsC.lists {w : World} {B g c : Nat} {vals : List Value} {F : List (List Int)} (h : RowsC w vals F) (hr : w.ownsRow B 22 1 (.slice (some ⟨g, 0, none⟩) F.length c) F.length vals) : LstC w (some ⟨g, 0, none⟩) F := fun j hj => by
  obtain ⟨l, lc, h1, h2, h3, h4⟩ := h.2 j hj
  refine ⟨g, 0, l, lc, rfl, (World.ownsRow.lt hr g rfl).2, ?_, h2, h3, h4⟩
  rw [Nat.zero_add, hr.cellAt j (by rw [Nat.mul_one]; exact hj), h1]
theorem LstC.rows {w : World} {b o : Nat} {F : List (List Int)} (h : LstC w (some ⟨b, o, none⟩) F) : ∃ vals, RowsC w vals F ∧ ∀ j x, vals[j]? = some x → w.cell? ⟨b, o + j, none⟩ = some x := by
  have each : ∀ j, j < F.length → ∃ v : Value, w.cell? ⟨b, o + j, none⟩ = some v ∧ ∃ l lc, v = .slice l (lth F j).length lc ∧ (lth F j).length ≤ lc ∧ lc ≤ 9223372036854775807 ∧ IntsAt w l (lth F j) := fun j hj => by
    obtain ⟨b', o', l, lc, e, _, h1, h2, h3, h4⟩ := h j hj
    simp only [Option.some.injEq, Addr.mk.injEq, and_true] at e
    obtain ⟨rfl, rfl⟩ := e
    exact ⟨_, h1, l, lc, rfl, h2, h3, h4⟩
  refine ⟨(List.range F.length).map fun j => if hj : j < F.length then (each j hj).choose else .bool false, ⟨by simp, fun j hj => ?_⟩, fun j x hx => ?_⟩
  · obtain ⟨l, lc, e, h2⟩ := (each j hj).choose_spec.2
    refine ⟨l, lc, ?_, h2⟩
    rw [List.getElem?_map, List.getElem?_range hj]
    simp only [Option.map_some, dif_pos hj]
    rw [e]
  · have hj : j < F.length := by simpa using (List.getElem?_eq_some_iff.1 hx).1
    rw [List.getElem?_map, List.getElem?_range hj] at hx
    simp only [Option.map_some, dif_pos hj, Option.some.injEq] at hx
    rw [← hx]
    exact (each j hj).choose_spec.1
theorem row_bounds {w : World} {B g n c : Nat} {vals : List Value} (hr : w.ownsRow B 22 1 (.slice (some ⟨g, 0, none⟩) n c) n vals) : n ≤ c ∧ c ≤ 9223372036854775807 := by
  rcases hr.2 with ⟨h, _⟩ | ⟨g', cap', cur, h', _, _, h1, h2, _⟩
  · simp at h
  · simp only [Value.slice.injEq, Option.some.injEq, Addr.mk.injEq, and_true, true_and] at h'
    obtain ⟨rfl, rfl⟩ := h'
    exact ⟨h1, by unfold maxLen at h2; omega⟩
theorem src_ints {w : World} {b o n c : Nat} {zs : List Int} (h : IntsAt w (some ⟨b, o, none⟩) zs) (hn : zs.length = n) : SrcL w (.slice (some ⟨b, o, none⟩) n c) n (zs.map (Value.int .i64)) :=
  .inr ⟨_, c, rfl, by simp [hn], fun j x hx => by rw [Addr.add_lit]; exact ints_news h j x hx, fun x hx => by
    obtain ⟨z, _, rfl⟩ := List.mem_map.1 hx
    rfl⟩
set_option maxRecDepth 100000 in
set_option maxHeartbeats 16000000 in
theorem rswap_any (r c : Int) (a : Option Addr) (cap : Nat) (S : List Int) (ya : Option Addr) (yc : Nat) (Y : List Int) (ta : Option Addr) (tc : Nat) (T : List Int) (fa : Option Addr) (fc : Nat) (F : List (List Int)) (w : World) (h : InPQ w a S ya yc Y ta tc T) (hF : LstC w fa F) (hFl : F.length ≤ 1000) (hFk : ∀ k, k < F.length → (lth F k).length ≤ 1000) :
    Calls Try.prog 33 #[parV r c a S.length cap, plaV ya Y.length yc ta T.length tc, .slice fa F.length fc] w (TupLC (swE r c S Y T F) (swL r c S Y T F) w) := by
  obtain ⟨i0, hi0, hz0, hz1, hz2⟩ := info_parts info3
  obtain ⟨i1, hi1, hy0, hy1, hy2⟩ := info_parts info22
  have hA : Fut w ((w.alloc (.cells #[.int .i64 r, .int .i64 c, .slice a S.length cap] 29)).alloc (.cells #[.slice ya Y.length yc, .slice ta T.length tc] 30)) := (Fut.alloc _ _).trans (Fut.alloc _ _)
  have hBP := (BoxR.new w r c a S.length cap).fut (Fut.alloc _ (.cells #[.slice ya Y.length yc, .slice ta T.length tc] 30))
  have hBQ := BoxT.new (w.alloc (.cells #[.int .i64 r, .int .i64 c, .slice a S.length cap] 29)) ya Y.length yc ta T.length tc
  rw [World.size_alloc] at hBQ
  have HOR := Lib.hid (fun W (G : Fut w W) => rorder_any r c a cap S ya yc Y ta tc T fa fc F W (h.fut G) (hF.lst.fut G) hFl hFk)
  have HFA := Lib.hid hF
  have HFK := Lib.hid hFk
  have HFL := Lib.hid hFl
  have hfx : (F.length : Int) ≤ 1000 := by omega
  have HA := Lib.hid hA
  obtain ⟨_, p0, p1, p2⟩ := hBP
  obtain ⟨_, q0, q1⟩ := hBQ
  have HOF : Hid (fmE F = none → (ordP r c S Y T F).1 = 0 → swE r c S Y T F = 13 ∧ swL r c S Y T F = []) := Lib.hid (fun q e => by unfold swE swL; rw [if_pos e, if_pos e, q]; exact ⟨rfl, rfl⟩)
  have HON : Hid (∀ i j x (p q : Nat), fmE F = some (i, j, x) → idxE (lth F i) x = p → idxE (lth F j) x = q → (ordP r c S Y T F).1 = 0 → swE r c S Y T F = 0 ∧ swL r c S Y T F = swpL F i j p q) := Lib.hid (fun i j x p q e e1 e2 e0 => by unfold swE swL; rw [if_pos e0, if_pos e0, e]; simp only [e1, e2, Int.toNat_natCast]; exact ⟨rfl, trivial⟩)
  have HOE : Hid ((ordP r c S Y T F).1 ≠ 0 → swE r c S Y T F = (ordP r c S Y T F).1 ∧ swL r c S Y T F = []) := Lib.hid (fun e => by unfold swE swL; rw [if_neg e, if_neg e]; exact ⟨rfl, rfl⟩)
  clear hA h hF hFk hFl
  generalize (ordP r c S Y T F).2 = ol at *
  generalize (ordP r c S Y T F).1 = oe at *
  generalize swE r c S Y T F = E at *
  generalize swL r c S Y T F = R at *
  by_cases hc : oe = 0
  · subst hc
    clear HOE
    obtain ⟨M, hM⟩ : ∃ M, M = fm1 F (F.length - 0) 0 := ⟨_, rfl⟩
    have HM := Lib.hid hM
    rw [show fmE F = M from hM.symm] at HOF HON
    clear hM
    go_enter Try.func33, Try.ntmps33
    go_wp2_with fail
    refine (HOR.out _ HA.out).mono ?_
    rintro _ w2 ⟨l, lc, rfl, _, G⟩
    have HF2 := Lib.hid (HA.out.trans G)
    clear p0 p1 p2 q0 q1 G
    go_wp2_with fail
    go_loopw [10] (fun iv wr => ∃ i : Nat, i ≤ F.length ∧ iv = .int .i64 i ∧ Hid (M = fm1 F (F.length - i) i) ∧ Hid (Fut w wr)) (fun iv _ => F.length - (intOf iv).toNat)
    case atStart => exact ⟨0, Nat.zero_le _, rfl, HM, HF2⟩
    case round =>
      obtain ⟨i, hi, rfl, HG, HFi⟩ := hrel
      clear HM HF2 HA HOR
      by_cases hil : i < F.length
      · have hix : (i : Int) < F.length := by omega
        have hg := HG.out
        obtain ⟨n, hn⟩ : ∃ n, F.length - i = n + 1 := ⟨F.length - i - 1, by omega⟩
        rw [hn, fm1] at hg
        have hni : F.length - (i + 1) = n := by omega
        have HNI := Lib.hid hni
        have HGM := Lib.hid hg
        obtain ⟨fb, fo, ral, rac, rfl, hfb, d1, ha1, ha2, hIa⟩ := HFA.out i hil
        have HRI : Hid (∀ W, Fut w W → W.cell? ⟨fb, fo + i, none⟩ = some (.slice ral (lth F i).length rac)) := Lib.hid (fun W G => (RowKit.Below.cell G (p := ⟨fb, fo + i, none⟩) hfb).trans d1)
        have HIA := Lib.hid hIa
        have HCA := Lib.hid (And.intro ha1 ha2)
        have hwl := HFK.out i hil
        obtain ⟨A, hAE⟩ : ∃ A, A = lth F i := ⟨_, rfl⟩
        rw [← hAE] at HRI HIA HCA hwl HGM
        have HAE := Lib.hid hAE
        have hwx : (A.length : Int) ≤ 1000 := by omega
        clear hg hn hni HG d1 ha1 ha2 hIa hAE
        go_wp2_with fail
        go_loopw [11] (fun kv wr => ∃ k : Nat, k ≤ A.length ∧ kv = .int .i64 k ∧ Hid (fm2 F i A = fm2 F i (A.drop k)) ∧ Hid (∀ p, p < k → ∀ j, j < F.length → j ≠ i → nth A p ∉ lth F j) ∧ Hid (Fut w wr)) (fun kv _ => A.length - (intOf kv).toNat)
        case atStart => exact ⟨0, Nat.zero_le _, rfl, Lib.hid rfl, Lib.hid (fun p hp => by omega), HFi⟩
        case round =>
          obtain ⟨k, hk, rfl, HK, HKN, HFk⟩ := hrel
          have d1 := HRI.out wr HFk.out
          by_cases hkl : k < A.length
          · have hkx : (k : Int) < A.length := by omega
            have hkk := HK.out
            rw [nth_drop A k hkl, fm2] at hkk
            obtain ⟨ab, ao, rfl, hab, e1⟩ := HIA.out k hkl
            obtain ⟨x, hx⟩ : ∃ x, x = nth A k := ⟨_, rfl⟩
            rw [← hx] at hkk e1
            have HXX := Lib.hid hx
            have HCE : Hid (∀ W, Fut w W → W.cell? ⟨ab, ao + k, none⟩ = some (.int .i64 x)) := Lib.hid (fun W G => (RowKit.Below.cell G (p := ⟨ab, ao + k, none⟩) hab).trans e1)
            have HKK := Lib.hid hkk
            have HF3 : Hid (fm3 F i x F.length 0 = fm3 F i x (F.length - 0) 0) := Lib.hid rfl
            clear hkk HK hx e1 hab
            go_wp2_with fail
            clear d1
            go_loopw [12] (fun jv wr => ∃ j : Nat, j ≤ F.length ∧ jv = .int .i64 j ∧ Hid (fm3 F i x F.length 0 = fm3 F i x (F.length - j) j) ∧ Hid (∀ b, b < j → b ≠ i → x ∉ lth F b) ∧ Hid (Fut w wr)) (fun jv _ => F.length - (intOf jv).toNat)
            case atStart => exact ⟨0, Nat.zero_le _, rfl, HF3, Lib.hid (fun b hb => by omega), HFk⟩
            case round =>
              obtain ⟨j, hj, rfl, HJ, HJN, HFj⟩ := hrel
              clear HF3 HFk
              by_cases hjl : j < F.length
              · have hjx : (j : Int) < F.length := by omega
                have hjj := HJ.out
                obtain ⟨n2, hn2⟩ : ∃ n2, F.length - j = n2 + 1 := ⟨F.length - j - 1, by omega⟩
                rw [hn2, fm3] at hjj
                have hnj : F.length - (j + 1) = n2 := by omega
                obtain ⟨fb2, fo2, rbl, rbc, ee, hfb2, dj, hb1, hb2, hIb⟩ := HFA.out j hjl
                simp only [Option.some.injEq, Addr.mk.injEq, and_true] at ee
                obtain ⟨rfl, rfl⟩ := ee
                have HRJ : Hid (∀ W, Fut w W → W.cell? ⟨fb, fo + j, none⟩ = some (.slice rbl (lth F j).length rbc)) := Lib.hid (fun W G => (RowKit.Below.cell G (p := ⟨fb, fo + j, none⟩) hfb2).trans dj)
                have HIB := Lib.hid hIb
                have HCB := Lib.hid (And.intro hb1 hb2)
                have hwlb := HFK.out j hjl
                have HQ := Lib.hid (fun nq => rindex_any rbl rbc (lth F j) x (wr.drewN nq) (hIb.fut (HFj.out.trans (Fut.drewN wr nq))) hwlb)
                have HCT : Hid ((lth F j).contains x = true ↔ x ∈ lth F j) := Lib.hid List.contains_iff_mem
                have HNX : Hid (x ∉ lth F j → idxE (lth F j) x = -1) := Lib.hid (fun q => idx_not _ 0 q)
                have HYX : Hid (x ∈ lth F j → ∃ q : Nat, idxE (lth F j) x = (q : Int) ∧ q < (lth F j).length) := Lib.hid (fun q => by
                  obtain ⟨p, h1, h2⟩ := idx_mem (k := 0) q
                  exact ⟨p, by rw [← Nat.zero_add p]; exact h1, h2⟩)
                obtain ⟨B, hBE⟩ : ∃ B, B = lth F j := ⟨_, rfl⟩
                rw [← hBE] at HRJ HIB HCB hwlb HQ HCT HNX HYX hjj
                have HBE := Lib.hid hBE
                have d1 := HRI.out wr HFj.out
                have d2 := HRJ.out wr HFj.out
                have e1 := HCE.out wr HFj.out
                have HJJ := Lib.hid hjj
                have HNJ := Lib.hid hnj
                clear hjj hn2 hnj hb1 hb2 hIb dj hBE HJ
                obtain ⟨ix, hixe⟩ : ∃ ix, ix = idxE B x := ⟨_, rfl⟩
                rw [← hixe] at HQ HNX HYX
                have HIE := Lib.hid hixe
                clear hixe
                go_upto_region 13 with fail
                go_quiet (first | (with_reducible (go_at_call 89; exact Calls.quiet_of_same ((HQ.out _).mono fun _ _ ⟨h, h'⟩ => ⟨h, h'.symm⟩))))
                have HF5 := Lib.hid (HFj.out.trans (Fut.drewN wr nq))
                clear HQ d1 d2 e1 HFj
                generalize wr.drewN nq = w5 at *
                by_cases hji : j = i
                · have HJ2 : Hid (fm3 F i x F.length 0 = fm3 F i x (F.length - (j + 1)) (j + 1)) := Lib.hid (by rw [HNJ.out, HJJ.out, if_neg (fun q => q.1 hji)])
                  have HJN2 : Hid (∀ b, b < j + 1 → b ≠ i → x ∉ lth F b) := Lib.hid (fun b hb hne => by
                    rcases Nat.lt_or_ge b j with q | q
                    · exact HJN.out b q hne
                    · exact absurd (by omega) hne)
                  have hjb : ((j : Int) == (i : Int)) = true := by rw [beq_iff_eq]; omega
                  clear HJJ HNX HYX HCT HIB HIE HBE HRJ HCB
                  go_wp2_with fail
                  go_roundw
                  case rel => first | exact ⟨j + 1, by omega, by go_num, HJ2, HJN2, HF5⟩ | ((repeat apply Exists.intro); exact ⟨⟨j + 1, by omega, by go_num, HJ2, HJN2, HF5⟩, rfl⟩)
                  case measure => simp [intOf]; omega
                · have hjb : ((j : Int) == (i : Int)) = false := by rw [beq_eq_false_iff_ne]; omega
                  by_cases hxm : x ∈ B
                  · obtain ⟨q, hq1, hql⟩ := HYX.out hxm
                    have hqn : ¬ ((q : Int) < 0) := by omega
                    have hqx : (q : Int) ≤ B.length := by omega
                    have hkA : (k : Int) ≤ A.length := by omega
                    have HIK : Hid (idxE A x = (k : Int)) := Lib.hid (by
                      have := idx_first A 0 k hkl HXX.out.symm (fun p hp e => HKN.out p hp j hjl hji (by rw [e, ← HBE.out]; exact hxm))
                      rw [Nat.zero_add] at this
                      exact this)
                    have HFIN := HON.out i j x k q (by
                      rw [HGM.out, HKK.out, HJJ.out, if_pos ⟨hji, HCT.out.2 hxm⟩]) (by rw [← HAE.out]; exact HIK.out) (by rw [← HBE.out, ← HIE.out]; exact hq1) trivial
                    obtain ⟨hE, hR⟩ := HFIN
                    have hR2 : R = (F.set i (A.take k ++ B.drop q)).set j (B.take q ++ A.drop k) := by rw [hR, HAE.out, HBE.out]; rfl
                    subst hE
                    have HR2 := Lib.hid hR2
                    have HQX := Lib.hid hql
                    subst hq1
                    have HJI := Lib.hid hji
                    clear hR hR2 hxm HNX HYX HCT HJJ HIE HKK HGM HNI HNJ HKN HJN HON HOF HIK
                    obtain ⟨bb, bo, rfl, _, _⟩ := HIB.out 0 (by omega)
                    have hs1 := fun W => slice_toI ab ao A.length rac k (by have := HCA.out.1; omega) W
                    have hs2 := fun W => slice_fromI bb bo B.length rbc q (by omega) HCB.out.1 W
                    have hs3 := fun W => slice_toI bb bo B.length rbc q (by have := HCB.out.1; omega) W
                    have hs4 := fun W => slice_fromI ab ao A.length rac k (by omega) HCA.out.1 W
                    have HL10 : Hid ((A.take k).length = k ∧ (B.drop q).length = B.length - q) := Lib.hid ⟨by rw [List.length_take]; omega, List.length_drop⟩
                    have HL11 : Hid ((B.take q).length = q ∧ (A.drop k).length = A.length - k) := Lib.hid ⟨by rw [List.length_take]; omega, List.length_drop⟩
                    have HS1 : Hid (∀ W, Fut w W → SrcL W (.slice (some ⟨ab, ao, none⟩) k rac) k ((A.take k).map (Value.int .i64))) := Lib.hid (fun W G => src_ints ((HIA.out.fut G).take k) HL10.out.1)
                    have HS2 : Hid (∀ W, Fut w W → SrcL W (.slice (some ⟨bb, offK bo q rbc, none⟩) (B.length - q) (rbc - q)) (B.length - q) ((B.drop q).map (Value.int .i64))) := Lib.hid (fun W G => src_ints ((HIB.out.fut G).drop HCB.out.1) HL10.out.2)
                    have HS3 : Hid (∀ W, Fut w W → SrcL W (.slice (some ⟨bb, bo, none⟩) q rbc) q ((B.take q).map (Value.int .i64))) := Lib.hid (fun W G => src_ints ((HIB.out.fut G).take q) HL11.out.1)
                    have HS4 : Hid (∀ W, Fut w W → SrcL W (.slice (some ⟨ab, offK ao k rac, none⟩) (A.length - k) (rac - k)) (A.length - k) ((A.drop k).map (Value.int .i64))) := Lib.hid (fun W G => src_ints ((HIA.out.fut G).drop HCA.out.1) HL11.out.2)
                    have keep : ∀ W, Fut w W → W.cell? ⟨fb, fo + i, none⟩ = some (.slice (some ⟨ab, ao, none⟩) A.length rac) ∧ W.cell? ⟨fb, fo + j, none⟩ = some (.slice (some ⟨bb, bo, none⟩) B.length rbc) := fun W G => ⟨HRI.out W G, HRJ.out W G⟩
                    have HSZ : Hid (k ≤ 1000 ∧ q ≤ 1000 ∧ A.length ≤ 1000 ∧ B.length ≤ 1000) := Lib.hid ⟨by omega, by omega, by omega, by omega⟩
                    obtain ⟨vals, hrows, hcells⟩ := LstC.rows HFA.out
                    have HRC := Lib.hid hrows
                    have FA := Fut.alloc w5 (.cells #[] 22)
                    have HSF : Hid (SrcL (w5.alloc (.cells #[] 22)) (.slice (some ⟨fb, fo, none⟩) F.length fc) F.length vals) := Lib.hid (.inr ⟨_, fc, rfl, by rw [HRC.out.1, Nat.mul_one], fun j x hx => by rw [Addr.add_lit]; exact (RowKit.Below.cell (HF5.out.trans FA) (World.block_lt_of_cell? _ _ (hcells j x hx))).trans (hcells j x hx), HRC.out.one⟩)
                    have HR0 : Hid ((w5.alloc (.cells #[] 22)).ownsRow w5.heap.size 22 1 (.slice (some ⟨w5.heap.size, 0, none⟩) 0 0) 0 []) := Lib.hid (World.ownsRow_lit (base := w5.heap.size) (e := 22) (size := 1) w5 #[] 0 (Nat.le_refl _) (by unfold maxLen; omega) rfl)
                    clear hrows hcells
                    go_wp2_with (at_builtin; refine wpList_append_src rfl _ _ 35 rfl w5.heap.size 22 i1 (.slice none 0 0) 24 Try.underlying35 hi1 hy0 hy1 hy2 rfl _ 0 [] rfl HR0.out _ F.length vals rfl HSF.out (by have := HFL.out; unfold maxLen; omega) (by have := HFL.out; omega) (RowKit.Below.size FA) ?_)
                    intro avx acx w10 hown hgr
                    try simp only [Nat.zero_add, List.nil_append] at hown
                    try simp only [Nat.zero_add]
                    obtain ⟨g, rfl⟩ : ∃ g, avx = some ⟨g, 0, none⟩ := row_some hown (by omega)
                    have F10 : Fut w5 w10 := RowKit.Below.grown FA hgr (RowKit.Below.size FA) fun q hq => (World.ownsRow.lt HR0.out q hq).1
                    have HF10 := Lib.hid (HF5.out.trans F10)
                    have hgw : w.heap.size ≤ g := Nat.le_trans (RowKit.Below.size HF5.out) (World.ownsRow.lt hown g rfl).1
                    have HR10 := Lib.hid (row_base hown (B' := w.heap.size) (RowKit.Below.size HF5.out))
                    have hp10 : i < F.length := hil
                    have hvl10 : vals.length = F.length := HRC.out.1
                    clear hown hgr F10 FA HSF HR0 HF5
                    go_upto_region 16 with fail
                    have HFd10 : Hid (Fut w10 w10.drew) := Lib.hid (Fut.drewN w10 1)
                    have HFu10 := Lib.hid (HF10.out.trans HFd10.out)
                    refine wp_region_held_drew (S := (fun w' => w'.cell? ⟨fb, fo + i, none⟩ = some (.slice (some ⟨ab, ao, none⟩) A.length rac) ∧ w'.cell? ⟨fb, fo + j, none⟩ = some (.slice (some ⟨bb, bo, none⟩) B.length rbc))) (by kernel_rfl) ?_ (fun hHeld => ?_)
                    · exact keep _ HFu10.out
                    generalize w10.drew = u10 at *
                    refine wpAnyH_take (i := 0) (oi := { dst := some 68, op := Op.move (Operand.tmp 14), type := 35, pos := "ref.go:349", after := #[], guard := none }) (v := ?_) rfl (by kernel_rfl) (by kernel_rfl) (by kernel_rfl) (fun _ _ _ h => h) (Or.inl ⟨by rfl, ?_⟩) (by assumption) ?_
                    rotate_left
                    · (intro w hSw; obtain ⟨s0, s1⟩ := hSw; go_simp <;> with_reducible rfl)
                    try simp only [Act.put, List.setIfInBounds_toArray, List.set_cons_zero, List.set_cons_succ]
                    refine wpAnyH_take (i := 1) (oi := { dst := some 69, op := Op.move (Operand.tmp 10), type := 3, pos := "ref.go:349", after := #[], guard := none }) (v := ?_) rfl (by kernel_rfl) (by kernel_rfl) (by kernel_rfl) (fun _ _ _ h => h) (Or.inl ⟨by rfl, ?_⟩) (by assumption) ?_
                    rotate_left
                    · (intro w hSw; obtain ⟨s0, s1⟩ := hSw; go_simp <;> with_reducible rfl)
                    try simp only [Act.put, List.setIfInBounds_toArray, List.set_cons_zero, List.set_cons_succ]
                    refine wpAnyH_take (i := 3) (oi := { dst := some 71, op := Op.move (Operand.tmp 2), type := 35, pos := "ref.go:349", after := #[], guard := none }) (v := ?_) rfl (by kernel_rfl) (by kernel_rfl) (by kernel_rfl) (fun _ _ _ h => h) (Or.inl ⟨by rfl, ?_⟩) (by assumption) ?_
                    rotate_left
                    · (intro w hSw; obtain ⟨s0, s1⟩ := hSw; go_simp <;> with_reducible rfl)
                    try simp only [Act.put, List.setIfInBounds_toArray, List.set_cons_zero, List.set_cons_succ]
                    refine wpAnyH_take (i := 4) (oi := { dst := some 72, op := Op.move (Operand.tmp 10), type := 3, pos := "ref.go:349", after := #[], guard := none }) (v := ?_) rfl (by kernel_rfl) (by kernel_rfl) (by kernel_rfl) (fun _ _ _ h => h) (Or.inl ⟨by rfl, ?_⟩) (by assumption) ?_
                    rotate_left
                    · (intro w hSw; obtain ⟨s0, s1⟩ := hSw; go_simp <;> with_reducible rfl)
                    try simp only [Act.put, List.setIfInBounds_toArray, List.set_cons_zero, List.set_cons_succ]
                    refine wpAnyH_take (i := 5) (oi := { dst := some 73, op := Op.indexAddr 35 (Operand.tmp 71) (Operand.tmp 72), type := 0, pos := "ref.go:349", after := #[{ on := 3, ground := Ground.data }, { on := 4, ground := Ground.data }], guard := none }) (v := ?_) rfl (by kernel_rfl) (by kernel_rfl) (by kernel_rfl) (fun _ _ _ h => h) (Or.inl ⟨by rfl, ?_⟩) (by assumption) ?_
                    rotate_left
                    · (intro w hSw; obtain ⟨s0, s1⟩ := hSw; go_simp <;> with_reducible rfl)
                    try simp only [Act.put, List.setIfInBounds_toArray, List.set_cons_zero, List.set_cons_succ]
                    refine wpAnyH_take (i := 6) (oi := { dst := some 74, op := Op.load 22 (Operand.tmp 73), type := 22, pos := "ref.go:349", after := #[{ on := 5, ground := Ground.data }], guard := none }) (v := ?_) rfl (by kernel_rfl) (by kernel_rfl) (by kernel_rfl) (fun _ _ _ h => h) (Or.inl ⟨by rfl, ?_⟩) (by assumption) ?_
                    rotate_left
                    · (intro w hSw; obtain ⟨s0, s1⟩ := hSw; go_simp <;> with_reducible rfl)
                    try simp only [Act.put, List.setIfInBounds_toArray, List.set_cons_zero, List.set_cons_succ]
                    refine wpAnyH_take (i := 7) (oi := { dst := some 75, op := Op.move (Operand.tmp 11), type := 3, pos := "ref.go:349", after := #[], guard := none }) (v := ?_) rfl (by kernel_rfl) (by kernel_rfl) (by kernel_rfl) (fun _ _ _ h => h) (Or.inl ⟨by rfl, ?_⟩) (by assumption) ?_
                    rotate_left
                    · (intro w hSw; obtain ⟨s0, s1⟩ := hSw; go_simp <;> with_reducible rfl)
                    try simp only [Act.put, List.setIfInBounds_toArray, List.set_cons_zero, List.set_cons_succ]
                    refine wpAnyH_take (i := 8) (oi := { dst := some 76, op := Op.slice 22 (Operand.tmp 74) none (some (Operand.tmp 75)) none, type := 22, pos := "ref.go:349", after := #[{ on := 6, ground := Ground.data }, { on := 7, ground := Ground.data }], guard := none }) (v := ?_) rfl (by kernel_rfl) (by kernel_rfl) (by kernel_rfl) (fun _ _ _ h => h) (Or.inl ⟨by rfl, ?_⟩) (by assumption) ?_
                    rotate_left
                    · (intro w hSw; obtain ⟨s0, s1⟩ := hSw; go_simp <;> with_reducible rfl)
                    try simp only [Act.put, List.setIfInBounds_toArray, List.set_cons_zero, List.set_cons_succ]
                    refine wpAnyH_take (i := 10) (oi := { dst := some 78, op := Op.move (Operand.tmp 2), type := 35, pos := "ref.go:349", after := #[], guard := none }) (v := ?_) rfl (by kernel_rfl) (by kernel_rfl) (by kernel_rfl) (fun _ _ _ h => h) (Or.inl ⟨by rfl, ?_⟩) (by assumption) ?_
                    rotate_left
                    · (intro w hSw; obtain ⟨s0, s1⟩ := hSw; go_simp <;> with_reducible rfl)
                    try simp only [Act.put, List.setIfInBounds_toArray, List.set_cons_zero, List.set_cons_succ]
                    refine wpAnyH_take (i := 11) (oi := { dst := some 79, op := Op.move (Operand.tmp 12), type := 3, pos := "ref.go:349", after := #[], guard := none }) (v := ?_) rfl (by kernel_rfl) (by kernel_rfl) (by kernel_rfl) (fun _ _ _ h => h) (Or.inl ⟨by rfl, ?_⟩) (by assumption) ?_
                    rotate_left
                    · (intro w hSw; obtain ⟨s0, s1⟩ := hSw; go_simp <;> with_reducible rfl)
                    try simp only [Act.put, List.setIfInBounds_toArray, List.set_cons_zero, List.set_cons_succ]
                    refine wpAnyH_take (i := 12) (oi := { dst := some 80, op := Op.indexAddr 35 (Operand.tmp 78) (Operand.tmp 79), type := 0, pos := "ref.go:349", after := #[{ on := 10, ground := Ground.data }, { on := 11, ground := Ground.data }], guard := none }) (v := ?_) rfl (by kernel_rfl) (by kernel_rfl) (by kernel_rfl) (fun _ _ _ h => h) (Or.inl ⟨by rfl, ?_⟩) (by assumption) ?_
                    rotate_left
                    · (intro w hSw; obtain ⟨s0, s1⟩ := hSw; go_simp <;> with_reducible rfl)
                    try simp only [Act.put, List.setIfInBounds_toArray, List.set_cons_zero, List.set_cons_succ]
                    refine wpAnyH_take (i := 13) (oi := { dst := some 81, op := Op.load 22 (Operand.tmp 80), type := 22, pos := "ref.go:349", after := #[{ on := 12, ground := Ground.data }], guard := none }) (v := ?_) rfl (by kernel_rfl) (by kernel_rfl) (by kernel_rfl) (fun _ _ _ h => h) (Or.inl ⟨by rfl, ?_⟩) (by assumption) ?_
                    rotate_left
                    · (intro w hSw; obtain ⟨s0, s1⟩ := hSw; go_simp <;> with_reducible rfl)
                    try simp only [Act.put, List.setIfInBounds_toArray, List.set_cons_zero, List.set_cons_succ]
                    refine wpAnyH_take (i := 14) (oi := { dst := some 82, op := Op.move (Operand.tmp 13), type := 3, pos := "ref.go:349", after := #[], guard := none }) (v := ?_) rfl (by kernel_rfl) (by kernel_rfl) (by kernel_rfl) (fun _ _ _ h => h) (Or.inl ⟨by rfl, ?_⟩) (by assumption) ?_
                    rotate_left
                    · (intro w hSw; obtain ⟨s0, s1⟩ := hSw; go_simp <;> with_reducible rfl)
                    try simp only [Act.put, List.setIfInBounds_toArray, List.set_cons_zero, List.set_cons_succ]
                    refine wpAnyH_take (i := 15) (oi := { dst := some 83, op := Op.slice 22 (Operand.tmp 81) (some (Operand.tmp 82)) none none, type := 22, pos := "ref.go:349", after := #[{ on := 13, ground := Ground.data }, { on := 14, ground := Ground.data }], guard := none }) (v := ?_) rfl (by kernel_rfl) (by kernel_rfl) (by kernel_rfl) (fun _ _ _ h => h) (Or.inl ⟨by rfl, ?_⟩) (by assumption) ?_
                    rotate_left
                    · (intro w hSw; obtain ⟨s0, s1⟩ := hSw; go_simp <;> with_reducible rfl)
                    try simp only [Act.put, List.setIfInBounds_toArray, List.set_cons_zero, List.set_cons_succ]
                    refine wpAnyH_ready (rs := [2]) (by kernel_rfl) (by simp) ?_
                    refine AllReadyH.cons (o := { dst := some 70, op := Op.buildSlice 22 0 #[], type := 22, pos := "ref.go:349", after := #[], guard := none }) rfl (fun K hK => ?_) AllReadyH.nil
                    go_simp
                    refine hK.out _ _ ?_ (fun hHeld => ?_)
                    · exact keep _ (HFu10.out.trans (Fut.alloc u10 (.cells #[] 3)))
                    clear hK K
                    try simp only [Act.put, List.setIfInBounds_toArray, List.set_cons_zero, List.set_cons_succ]
                    refine wpAnyH_ready (rs := [9]) (by kernel_rfl) (by simp) ?_
                    refine AllReadyH.cons (o := { dst := some 77, op := Op.call { callee := Callee.builtin Builtin.append, args := #[Operand.tmp 70, Operand.tmp 76], argTypes := #[22, 22] }, type := 22, pos := "ref.go:349", after := #[{ on := 2, ground := Ground.data }, { on := 8, ground := Ground.data }], guard := none }) rfl (fun K hK => ?_) AllReadyH.nil
                    have FW : Fut u10 (u10.alloc (.cells #[] 3)) := Fut.alloc u10 (.cells #[] 3)
                    have HW : (u10.alloc (.cells #[] 3)).ownsRow u10.heap.size 3 1 (.slice (some ⟨u10.heap.size, 0, none⟩) 0 0) 0 [] := World.ownsRow_lit (base := u10.heap.size) (e := 3) (size := 1) u10 #[] 0 (Nat.le_refl _) (by unfold maxLen; omega) rfl
                    refine step_append_src rfl _ _ 22 rfl u10.heap.size 3 i0 (.int .i64 0) 8 Try.underlying22 hi0 hz0 hz1 hz2 rfl (.slice (some ⟨u10.heap.size, 0, none⟩) 0 0) 0 [] rfl HW _ (k) _ rfl (HS1.out _ (HFu10.out.trans FW)) (by have := HSZ.out; unfold maxLen; omega) (by have := HSZ.out; omega) (RowKit.Below.size FW) ?_
                    intro av10 ac10 wa10 hown hgr
                    simp only [Nat.zero_add, List.nil_append] at hown
                    simp only [Nat.zero_add]
                    have FA : Fut u10 wa10 := RowKit.Below.grown FW hgr (RowKit.Below.size FW) fun q hq => (World.ownsRow.lt HW q hq).1
                    have HOa10 := Lib.hid hown
                    have HFa10 := Lib.hid FA
                    clear hown hgr HW FW FA
                    refine hK.out _ _ ?_ (fun hHeld => ?_)
                    · exact keep _ (HFu10.out.trans HFa10.out)
                    clear hK K
                    try simp only [Act.put, List.setIfInBounds_toArray, List.set_cons_zero, List.set_cons_succ]
                    refine wpAnyH_ready (rs := [16]) (by kernel_rfl) (by simp) ?_
                    refine AllReadyH.cons (o := { dst := some 84, op := Op.call { callee := Callee.builtin Builtin.append, args := #[Operand.tmp 77, Operand.tmp 83], argTypes := #[22, 22] }, type := 22, pos := "ref.go:349", after := #[{ on := 9, ground := Ground.data }, { on := 15, ground := Ground.data }, { on := 9, ground := Ground.chain }], guard := none }) rfl (fun K hK => ?_) AllReadyH.nil
                    refine step_append_src rfl _ _ 22 rfl u10.heap.size 3 i0 (.int .i64 0) 8 Try.underlying22 hi0 hz0 hz1 hz2 rfl (.slice av10 (k) ac10) (k) _ rfl HOa10.out _ (B.length - q) _ rfl (HS2.out _ (HFu10.out.trans HFa10.out)) (by have := HSZ.out; unfold maxLen; omega) (by have := HSZ.out; omega) (RowKit.Below.size HFa10.out) ?_
                    intro avb10 acb10 wb10 hown hgr
                    have FB : Fut u10 wb10 := RowKit.Below.grown HFa10.out hgr (RowKit.Below.size HFa10.out) fun q hq => (World.ownsRow.lt HOa10.out q hq).1
                    have HOb10 := Lib.hid hown
                    have HFb10 := Lib.hid (HFu10.out.trans FB)
                    have hrow10 := row_fut (row_fut HR10.out (HFd10.out)) FB
                    have y2 := hrow10.cellAt i (by rw [Nat.mul_one]; exact hp10)
                    have y3 := hrow10.frozenAt i
                    obtain ⟨yv, hyv⟩ : ∃ yv, (vals)[i]? = some yv := ⟨_, List.getElem?_eq_getElem (by rw [hvl10]; exact hp10)⟩
                    rw [hyv] at y2
                    have HFB10 := Lib.hid FB
                    clear hgr FB
                    refine hK.out _ _ ?_ (fun hHeld => ?_)
                    · exact keep _ HFb10.out
                    clear hK K
                    try simp only [Act.put, List.setIfInBounds_toArray, List.set_cons_zero, List.set_cons_succ]
                    refine wpAnyH_take (i := 17) (oi := { dst := some 85, op := Op.indexAddr 35 (Operand.tmp 68) (Operand.tmp 69), type := 0, pos := "ref.go:349", after := #[{ on := 0, ground := Ground.data }, { on := 1, ground := Ground.data }, { on := 0, ground := Ground.phase }, { on := 1, ground := Ground.phase }, { on := 2, ground := Ground.phase }, { on := 3, ground := Ground.phase }, { on := 4, ground := Ground.phase }, { on := 5, ground := Ground.phase }, { on := 6, ground := Ground.phase }, { on := 7, ground := Ground.phase }, { on := 8, ground := Ground.phase }, { on := 9, ground := Ground.phase }, { on := 10, ground := Ground.phase }, { on := 11, ground := Ground.phase }, { on := 12, ground := Ground.phase }, { on := 13, ground := Ground.phase }, { on := 14, ground := Ground.phase }, { on := 15, ground := Ground.phase }, { on := 16, ground := Ground.phase }], guard := none }) (v := ?_) rfl (by kernel_rfl) (by kernel_rfl) (by kernel_rfl) (fun _ _ _ h => h) (Or.inl ⟨by rfl, ?_⟩) (by assumption) ?_
                    rotate_left
                    · (intro w hSw; obtain ⟨s0, s1⟩ := hSw; go_simp <;> with_reducible rfl)
                    try simp only [Act.put, List.setIfInBounds_toArray, List.set_cons_zero, List.set_cons_succ]
                    refine wpAnyH_ready (rs := [18]) (by kernel_rfl) (by simp) ?_
                    refine AllReadyH.cons (o := { dst := none, op := Op.store 22 (Operand.tmp 85) (Operand.tmp 84), type := 0, pos := "ref.go:349", after := #[{ on := 17, ground := Ground.data }, { on := 16, ground := Ground.data }, { on := 16, ground := Ground.chain }, { on := 0, ground := Ground.phase }, { on := 1, ground := Ground.phase }, { on := 2, ground := Ground.phase }, { on := 3, ground := Ground.phase }, { on := 4, ground := Ground.phase }, { on := 5, ground := Ground.phase }, { on := 6, ground := Ground.phase }, { on := 7, ground := Ground.phase }, { on := 8, ground := Ground.phase }, { on := 9, ground := Ground.phase }, { on := 10, ground := Ground.phase }, { on := 11, ground := Ground.phase }, { on := 12, ground := Ground.phase }, { on := 13, ground := Ground.phase }, { on := 14, ground := Ground.phase }, { on := 15, ground := Ground.phase }, { on := 16, ground := Ground.phase }], guard := none }) rfl (fun K hK => ?_) AllReadyH.nil
                    go_simp
                    refine hK.out _ _ ?_ (fun hHeld => ?_)
                    · exact keep _ (RowKit.Below.setCell HFb10.out (p := ⟨g, i, none⟩) hgw _)
                    clear hK K
                    try simp only [Act.put, List.setIfInBounds_toArray, List.set_cons_zero, List.set_cons_succ]
                    refine wpAnyH_done (by kernel_rfl) ?_ _
                    have HR11 := Lib.hid (hrow10.stored i (.slice avb10 (k + (B.length - q)) acb10)).1
                    have HF11 : Hid (Fut w (wb10.setCell ⟨g, i, none⟩ (.slice avb10 (k + (B.length - q)) acb10))) := Lib.hid (RowKit.Below.setCell HFb10.out (p := ⟨g, i, none⟩) hgw _)
                    have hgu10 : g < u10.heap.size := Nat.lt_of_lt_of_le (World.ownsRow.lt HR10.out g rfl).2 (RowKit.Below.size HFd10.out)
                    have HOc10 : Hid (Owns (wb10.setCell ⟨g, i, none⟩ (.slice avb10 (k + (B.length - q)) acb10)) (g + 1) (.slice avb10 (k + (B.length - q)) acb10) ((A.take k) ++ (B.drop q))) := Lib.hid (by
                      have h := ownsRow_setCell_below HOb10.out (a := ⟨g, i, none⟩) hgu10 (.slice avb10 (k + (B.length - q)) acb10)
                      refine Owns.base (B := u10.heap.size) ?_ hgu10
                      unfold Owns
                      rw [List.map_append, List.length_append]
                      have e1 : (A.take k).length = k := HL10.out.1 
                      have e2 : (B.drop q).length = B.length - q := HL10.out.2
                      rw [e1, e2]
                      simpa using h)
                    generalize wb10.setCell ⟨g, i, none⟩ (.slice avb10 (k + (B.length - q)) acb10) = w11 at *
                    clear y2 y3 hyv hrow10 hHeld HOb10 HFb10 HOa10 HFa10 hgu10
                    have hp11 : j < F.length := hjl
                    have hvl11 : ((vals).set i (.slice avb10 (k + (B.length - q)) acb10)).length = F.length := by rw [List.length_set]; exact hvl10
                    clear HS1 HS2 HR10 HFu10 HFd10 HFB10 HF10
                    go_upto_region 17 with fail
                    have HFd11 : Hid (Fut w11 w11.drew) := Lib.hid (Fut.drewN w11 1)
                    have HFu11 := Lib.hid (HF11.out.trans HFd11.out)
                    refine wp_region_held_drew (S := (fun w' => w'.cell? ⟨fb, fo + i, none⟩ = some (.slice (some ⟨ab, ao, none⟩) A.length rac) ∧ w'.cell? ⟨fb, fo + j, none⟩ = some (.slice (some ⟨bb, bo, none⟩) B.length rbc))) (by kernel_rfl) ?_ (fun hHeld => ?_)
                    · exact keep _ HFu11.out
                    generalize w11.drew = u11 at *
                    refine wpAnyH_take (i := 0) (oi := { dst := some 86, op := Op.move (Operand.tmp 14), type := 35, pos := "ref.go:350", after := #[], guard := none }) (v := ?_) rfl (by kernel_rfl) (by kernel_rfl) (by kernel_rfl) (fun _ _ _ h => h) (Or.inl ⟨by rfl, ?_⟩) (by assumption) ?_
                    rotate_left
                    · (intro w hSw; obtain ⟨s0, s1⟩ := hSw; go_simp <;> with_reducible rfl)
                    try simp only [Act.put, List.setIfInBounds_toArray, List.set_cons_zero, List.set_cons_succ]
                    refine wpAnyH_take (i := 1) (oi := { dst := some 87, op := Op.move (Operand.tmp 12), type := 3, pos := "ref.go:350", after := #[], guard := none }) (v := ?_) rfl (by kernel_rfl) (by kernel_rfl) (by kernel_rfl) (fun _ _ _ h => h) (Or.inl ⟨by rfl, ?_⟩) (by assumption) ?_
                    rotate_left
                    · (intro w hSw; obtain ⟨s0, s1⟩ := hSw; go_simp <;> with_reducible rfl)
                    try simp only [Act.put, List.setIfInBounds_toArray, List.set_cons_zero, List.set_cons_succ]
                    refine wpAnyH_take (i := 3) (oi := { dst := some 89, op := Op.move (Operand.tmp 2), type := 35, pos := "ref.go:350", after := #[], guard := none }) (v := ?_) rfl (by kernel_rfl) (by kernel_rfl) (by kernel_rfl) (fun _ _ _ h => h) (Or.inl ⟨by rfl, ?_⟩) (by assumption) ?_
                    rotate_left
                    · (intro w hSw; obtain ⟨s0, s1⟩ := hSw; go_simp <;> with_reducible rfl)
                    try simp only [Act.put, List.setIfInBounds_toArray, List.set_cons_zero, List.set_cons_succ]
                    refine wpAnyH_take (i := 4) (oi := { dst := some 90, op := Op.move (Operand.tmp 12), type := 3, pos := "ref.go:350", after := #[], guard := none }) (v := ?_) rfl (by kernel_rfl) (by kernel_rfl) (by kernel_rfl) (fun _ _ _ h => h) (Or.inl ⟨by rfl, ?_⟩) (by assumption) ?_
                    rotate_left
                    · (intro w hSw; obtain ⟨s0, s1⟩ := hSw; go_simp <;> with_reducible rfl)
                    try simp only [Act.put, List.setIfInBounds_toArray, List.set_cons_zero, List.set_cons_succ]
                    refine wpAnyH_take (i := 5) (oi := { dst := some 91, op := Op.indexAddr 35 (Operand.tmp 89) (Operand.tmp 90), type := 0, pos := "ref.go:350", after := #[{ on := 3, ground := Ground.data }, { on := 4, ground := Ground.data }], guard := none }) (v := ?_) rfl (by kernel_rfl) (by kernel_rfl) (by kernel_rfl) (fun _ _ _ h => h) (Or.inl ⟨by rfl, ?_⟩) (by assumption) ?_
                    rotate_left
                    · (intro w hSw; obtain ⟨s0, s1⟩ := hSw; go_simp <;> with_reducible rfl)
                    try simp only [Act.put, List.setIfInBounds_toArray, List.set_cons_zero, List.set_cons_succ]
                    refine wpAnyH_take (i := 6) (oi := { dst := some 92, op := Op.load 22 (Operand.tmp 91), type := 22, pos := "ref.go:350", after := #[{ on := 5, ground := Ground.data }], guard := none }) (v := ?_) rfl (by kernel_rfl) (by kernel_rfl) (by kernel_rfl) (fun _ _ _ h => h) (Or.inl ⟨by rfl, ?_⟩) (by assumption) ?_
                    rotate_left
                    · (intro w hSw; obtain ⟨s0, s1⟩ := hSw; go_simp <;> with_reducible rfl)
                    try simp only [Act.put, List.setIfInBounds_toArray, List.set_cons_zero, List.set_cons_succ]
                    refine wpAnyH_take (i := 7) (oi := { dst := some 93, op := Op.move (Operand.tmp 13), type := 3, pos := "ref.go:350", after := #[], guard := none }) (v := ?_) rfl (by kernel_rfl) (by kernel_rfl) (by kernel_rfl) (fun _ _ _ h => h) (Or.inl ⟨by rfl, ?_⟩) (by assumption) ?_
                    rotate_left
                    · (intro w hSw; obtain ⟨s0, s1⟩ := hSw; go_simp <;> with_reducible rfl)
                    try simp only [Act.put, List.setIfInBounds_toArray, List.set_cons_zero, List.set_cons_succ]
                    refine wpAnyH_take (i := 8) (oi := { dst := some 94, op := Op.slice 22 (Operand.tmp 92) none (some (Operand.tmp 93)) none, type := 22, pos := "ref.go:350", after := #[{ on := 6, ground := Ground.data }, { on := 7, ground := Ground.data }], guard := none }) (v := ?_) rfl (by kernel_rfl) (by kernel_rfl) (by kernel_rfl) (fun _ _ _ h => h) (Or.inl ⟨by rfl, ?_⟩) (by assumption) ?_
                    rotate_left
                    · (intro w hSw; obtain ⟨s0, s1⟩ := hSw; go_simp <;> with_reducible rfl)
                    try simp only [Act.put, List.setIfInBounds_toArray, List.set_cons_zero, List.set_cons_succ]
                    refine wpAnyH_take (i := 10) (oi := { dst := some 96, op := Op.move (Operand.tmp 2), type := 35, pos := "ref.go:350", after := #[], guard := none }) (v := ?_) rfl (by kernel_rfl) (by kernel_rfl) (by kernel_rfl) (fun _ _ _ h => h) (Or.inl ⟨by rfl, ?_⟩) (by assumption) ?_
                    rotate_left
                    · (intro w hSw; obtain ⟨s0, s1⟩ := hSw; go_simp <;> with_reducible rfl)
                    try simp only [Act.put, List.setIfInBounds_toArray, List.set_cons_zero, List.set_cons_succ]
                    refine wpAnyH_take (i := 11) (oi := { dst := some 97, op := Op.move (Operand.tmp 10), type := 3, pos := "ref.go:350", after := #[], guard := none }) (v := ?_) rfl (by kernel_rfl) (by kernel_rfl) (by kernel_rfl) (fun _ _ _ h => h) (Or.inl ⟨by rfl, ?_⟩) (by assumption) ?_
                    rotate_left
                    · (intro w hSw; obtain ⟨s0, s1⟩ := hSw; go_simp <;> with_reducible rfl)
                    try simp only [Act.put, List.setIfInBounds_toArray, List.set_cons_zero, List.set_cons_succ]
                    refine wpAnyH_take (i := 12) (oi := { dst := some 98, op := Op.indexAddr 35 (Operand.tmp 96) (Operand.tmp 97), type := 0, pos := "ref.go:350", after := #[{ on := 10, ground := Ground.data }, { on := 11, ground := Ground.data }], guard := none }) (v := ?_) rfl (by kernel_rfl) (by kernel_rfl) (by kernel_rfl) (fun _ _ _ h => h) (Or.inl ⟨by rfl, ?_⟩) (by assumption) ?_
                    rotate_left
                    · (intro w hSw; obtain ⟨s0, s1⟩ := hSw; go_simp <;> with_reducible rfl)
                    try simp only [Act.put, List.setIfInBounds_toArray, List.set_cons_zero, List.set_cons_succ]
                    refine wpAnyH_take (i := 13) (oi := { dst := some 99, op := Op.load 22 (Operand.tmp 98), type := 22, pos := "ref.go:350", after := #[{ on := 12, ground := Ground.data }], guard := none }) (v := ?_) rfl (by kernel_rfl) (by kernel_rfl) (by kernel_rfl) (fun _ _ _ h => h) (Or.inl ⟨by rfl, ?_⟩) (by assumption) ?_
                    rotate_left
                    · (intro w hSw; obtain ⟨s0, s1⟩ := hSw; go_simp <;> with_reducible rfl)
                    try simp only [Act.put, List.setIfInBounds_toArray, List.set_cons_zero, List.set_cons_succ]
                    refine wpAnyH_take (i := 14) (oi := { dst := some 100, op := Op.move (Operand.tmp 11), type := 3, pos := "ref.go:350", after := #[], guard := none }) (v := ?_) rfl (by kernel_rfl) (by kernel_rfl) (by kernel_rfl) (fun _ _ _ h => h) (Or.inl ⟨by rfl, ?_⟩) (by assumption) ?_
                    rotate_left
                    · (intro w hSw; obtain ⟨s0, s1⟩ := hSw; go_simp <;> with_reducible rfl)
                    try simp only [Act.put, List.setIfInBounds_toArray, List.set_cons_zero, List.set_cons_succ]
                    refine wpAnyH_take (i := 15) (oi := { dst := some 101, op := Op.slice 22 (Operand.tmp 99) (some (Operand.tmp 100)) none none, type := 22, pos := "ref.go:350", after := #[{ on := 13, ground := Ground.data }, { on := 14, ground := Ground.data }], guard := none }) (v := ?_) rfl (by kernel_rfl) (by kernel_rfl) (by kernel_rfl) (fun _ _ _ h => h) (Or.inl ⟨by rfl, ?_⟩) (by assumption) ?_
                    rotate_left
                    · (intro w hSw; obtain ⟨s0, s1⟩ := hSw; go_simp <;> with_reducible rfl)
                    try simp only [Act.put, List.setIfInBounds_toArray, List.set_cons_zero, List.set_cons_succ]
                    refine wpAnyH_ready (rs := [2]) (by kernel_rfl) (by simp) ?_
                    refine AllReadyH.cons (o := { dst := some 88, op := Op.buildSlice 22 0 #[], type := 22, pos := "ref.go:350", after := #[], guard := none }) rfl (fun K hK => ?_) AllReadyH.nil
                    go_simp
                    refine hK.out _ _ ?_ (fun hHeld => ?_)
                    · exact keep _ (HFu11.out.trans (Fut.alloc u11 (.cells #[] 3)))
                    clear hK K
                    try simp only [Act.put, List.setIfInBounds_toArray, List.set_cons_zero, List.set_cons_succ]
                    refine wpAnyH_ready (rs := [9]) (by kernel_rfl) (by simp) ?_
                    refine AllReadyH.cons (o := { dst := some 95, op := Op.call { callee := Callee.builtin Builtin.append, args := #[Operand.tmp 88, Operand.tmp 94], argTypes := #[22, 22] }, type := 22, pos := "ref.go:350", after := #[{ on := 2, ground := Ground.data }, { on := 8, ground := Ground.data }], guard := none }) rfl (fun K hK => ?_) AllReadyH.nil
                    have FW : Fut u11 (u11.alloc (.cells #[] 3)) := Fut.alloc u11 (.cells #[] 3)
                    have HW : (u11.alloc (.cells #[] 3)).ownsRow u11.heap.size 3 1 (.slice (some ⟨u11.heap.size, 0, none⟩) 0 0) 0 [] := World.ownsRow_lit (base := u11.heap.size) (e := 3) (size := 1) u11 #[] 0 (Nat.le_refl _) (by unfold maxLen; omega) rfl
                    refine step_append_src rfl _ _ 22 rfl u11.heap.size 3 i0 (.int .i64 0) 8 Try.underlying22 hi0 hz0 hz1 hz2 rfl (.slice (some ⟨u11.heap.size, 0, none⟩) 0 0) 0 [] rfl HW _ (q) _ rfl (HS3.out _ (HFu11.out.trans FW)) (by have := HSZ.out; unfold maxLen; omega) (by have := HSZ.out; omega) (RowKit.Below.size FW) ?_
                    intro av11 ac11 wa11 hown hgr
                    simp only [Nat.zero_add, List.nil_append] at hown
                    simp only [Nat.zero_add]
                    have FA : Fut u11 wa11 := RowKit.Below.grown FW hgr (RowKit.Below.size FW) fun q hq => (World.ownsRow.lt HW q hq).1
                    have HOa11 := Lib.hid hown
                    have HFa11 := Lib.hid FA
                    clear hown hgr HW FW FA
                    refine hK.out _ _ ?_ (fun hHeld => ?_)
                    · exact keep _ (HFu11.out.trans HFa11.out)
                    clear hK K
                    try simp only [Act.put, List.setIfInBounds_toArray, List.set_cons_zero, List.set_cons_succ]
                    refine wpAnyH_ready (rs := [16]) (by kernel_rfl) (by simp) ?_
                    refine AllReadyH.cons (o := { dst := some 102, op := Op.call { callee := Callee.builtin Builtin.append, args := #[Operand.tmp 95, Operand.tmp 101], argTypes := #[22, 22] }, type := 22, pos := "ref.go:350", after := #[{ on := 9, ground := Ground.data }, { on := 15, ground := Ground.data }, { on := 9, ground := Ground.chain }], guard := none }) rfl (fun K hK => ?_) AllReadyH.nil
                    refine step_append_src rfl _ _ 22 rfl u11.heap.size 3 i0 (.int .i64 0) 8 Try.underlying22 hi0 hz0 hz1 hz2 rfl (.slice av11 (q) ac11) (q) _ rfl HOa11.out _ (A.length - k) _ rfl (HS4.out _ (HFu11.out.trans HFa11.out)) (by have := HSZ.out; unfold maxLen; omega) (by have := HSZ.out; omega) (RowKit.Below.size HFa11.out) ?_
                    intro avb11 acb11 wb11 hown hgr
                    have FB : Fut u11 wb11 := RowKit.Below.grown HFa11.out hgr (RowKit.Below.size HFa11.out) fun q hq => (World.ownsRow.lt HOa11.out q hq).1
                    have HOb11 := Lib.hid hown
                    have HFb11 := Lib.hid (HFu11.out.trans FB)
                    have hrow11 := row_fut (row_fut HR11.out (HFd11.out)) FB
                    have y2 := hrow11.cellAt j (by rw [Nat.mul_one]; exact hp11)
                    have y3 := hrow11.frozenAt j
                    obtain ⟨yv, hyv⟩ : ∃ yv, (vals.set i (.slice avb10 (k + (B.length - q)) acb10))[j]? = some yv := ⟨_, List.getElem?_eq_getElem (by rw [hvl11]; exact hp11)⟩
                    rw [hyv] at y2
                    have HFB11 := Lib.hid FB
                    clear hgr FB
                    refine hK.out _ _ ?_ (fun hHeld => ?_)
                    · exact keep _ HFb11.out
                    clear hK K
                    try simp only [Act.put, List.setIfInBounds_toArray, List.set_cons_zero, List.set_cons_succ]
                    refine wpAnyH_take (i := 17) (oi := { dst := some 103, op := Op.indexAddr 35 (Operand.tmp 86) (Operand.tmp 87), type := 0, pos := "ref.go:350", after := #[{ on := 0, ground := Ground.data }, { on := 1, ground := Ground.data }, { on := 0, ground := Ground.phase }, { on := 1, ground := Ground.phase }, { on := 2, ground := Ground.phase }, { on := 3, ground := Ground.phase }, { on := 4, ground := Ground.phase }, { on := 5, ground := Ground.phase }, { on := 6, ground := Ground.phase }, { on := 7, ground := Ground.phase }, { on := 8, ground := Ground.phase }, { on := 9, ground := Ground.phase }, { on := 10, ground := Ground.phase }, { on := 11, ground := Ground.phase }, { on := 12, ground := Ground.phase }, { on := 13, ground := Ground.phase }, { on := 14, ground := Ground.phase }, { on := 15, ground := Ground.phase }, { on := 16, ground := Ground.phase }], guard := none }) (v := ?_) rfl (by kernel_rfl) (by kernel_rfl) (by kernel_rfl) (fun _ _ _ h => h) (Or.inl ⟨by rfl, ?_⟩) (by assumption) ?_
                    rotate_left
                    · (intro w hSw; obtain ⟨s0, s1⟩ := hSw; go_simp <;> with_reducible rfl)
                    try simp only [Act.put, List.setIfInBounds_toArray, List.set_cons_zero, List.set_cons_succ]
                    refine wpAnyH_ready (rs := [18]) (by kernel_rfl) (by simp) ?_
                    refine AllReadyH.cons (o := { dst := none, op := Op.store 22 (Operand.tmp 103) (Operand.tmp 102), type := 0, pos := "ref.go:350", after := #[{ on := 17, ground := Ground.data }, { on := 16, ground := Ground.data }, { on := 16, ground := Ground.chain }, { on := 0, ground := Ground.phase }, { on := 1, ground := Ground.phase }, { on := 2, ground := Ground.phase }, { on := 3, ground := Ground.phase }, { on := 4, ground := Ground.phase }, { on := 5, ground := Ground.phase }, { on := 6, ground := Ground.phase }, { on := 7, ground := Ground.phase }, { on := 8, ground := Ground.phase }, { on := 9, ground := Ground.phase }, { on := 10, ground := Ground.phase }, { on := 11, ground := Ground.phase }, { on := 12, ground := Ground.phase }, { on := 13, ground := Ground.phase }, { on := 14, ground := Ground.phase }, { on := 15, ground := Ground.phase }, { on := 16, ground := Ground.phase }], guard := none }) rfl (fun K hK => ?_) AllReadyH.nil
                    go_simp
                    refine hK.out _ _ ?_ (fun hHeld => ?_)
                    · exact keep _ (RowKit.Below.setCell HFb11.out (p := ⟨g, j, none⟩) hgw _)
                    clear hK K
                    try simp only [Act.put, List.setIfInBounds_toArray, List.set_cons_zero, List.set_cons_succ]
                    refine wpAnyH_done (by kernel_rfl) ?_ _
                    have HR12 := Lib.hid (hrow11.stored j (.slice avb11 (q + (A.length - k)) acb11)).1
                    have HF12 : Hid (Fut w (wb11.setCell ⟨g, j, none⟩ (.slice avb11 (q + (A.length - k)) acb11))) := Lib.hid (RowKit.Below.setCell HFb11.out (p := ⟨g, j, none⟩) hgw _)
                    have hgu11 : g < u11.heap.size := Nat.lt_of_lt_of_le (World.ownsRow.lt HR11.out g rfl).2 (RowKit.Below.size HFd11.out)
                    have HOc11 : Hid (Owns (wb11.setCell ⟨g, j, none⟩ (.slice avb11 (q + (A.length - k)) acb11)) (g + 1) (.slice avb11 (q + (A.length - k)) acb11) ((B.take q) ++ (A.drop k))) := Lib.hid (by
                      have h := ownsRow_setCell_below HOb11.out (a := ⟨g, j, none⟩) hgu11 (.slice avb11 (q + (A.length - k)) acb11)
                      refine Owns.base (B := u11.heap.size) ?_ hgu11
                      unfold Owns
                      rw [List.map_append, List.length_append]
                      have e1 : (B.take q).length = q := HL11.out.1 
                      have e2 : (A.drop k).length = A.length - k := HL11.out.2
                      rw [e1, e2]
                      simpa using h)
                    have HOd := Lib.hid (ownsRow_setCell_below (row_fut (row_fut HOc10.out HFd11.out) HFB11.out) (a := ⟨g, j, none⟩) (Nat.lt_succ_self g) (.slice avb11 (q + (A.length - k)) acb11))
                    generalize wb11.setCell ⟨g, j, none⟩ (.slice avb11 (q + (A.length - k)) acb11) = w12 at *
                    clear y2 y3 hyv hrow11 hHeld HOb11 HFb11 HOa11 HFa11 hgu11
                    have hlen : ((F.set i (A.take k ++ B.drop q)).set j (B.take q ++ A.drop k)).length = F.length := by rw [List.length_set, List.length_set]
                    have HLL : Hid (LstC w12 (some ⟨g, 0, none⟩) ((F.set i (A.take k ++ B.drop q)).set j (B.take q ++ A.drop k))) := Lib.hid (RowsC.lists (((HRC.out.fut HF12.out).set i (Owns.base HOd.out (Nat.zero_le _))).set j (Owns.base HOc11.out (Nat.zero_le _))) (by rw [hlen]; exact HR12.out))
                    have HBB := Lib.hid (row_bounds HR12.out)
                    have HLN := Lib.hid hlen
                    clear hlen HOd HOc11 HOc10 HRC HR12 HR11 HS3 HS4 HFu11 HFd11 HFB11 HF11 hs1 hs2 hs3 hs4 keep
                    go_wp2_with fail
                    go_ret2
                    rw [HR2.out]
                    exact ⟨some ⟨g, 0, none⟩, acx, by rw [HLN.out]; rfl, by rw [HLN.out]; exact HBB.out.1, HBB.out.2, HLL.out, HF12.out⟩
                  · have hix1 := HNX.out hxm
                    subst hix1
                    have HJ2 : Hid (fm3 F i x F.length 0 = fm3 F i x (F.length - (j + 1)) (j + 1)) := Lib.hid (by rw [HNJ.out, HJJ.out, if_neg (fun q => hxm (HCT.out.1 q.2))])
                    have HJN2 : Hid (∀ b, b < j + 1 → b ≠ i → x ∉ lth F b) := Lib.hid (fun b hb hne => by
                      rcases Nat.lt_or_ge b j with q | q
                      · exact HJN.out b q hne
                      · obtain rfl : b = j := by omega
                        rw [← HBE.out]; exact hxm)
                    clear HJJ HNX HYX HCT HIB HIE HBE HRJ HCB
                    go_wp2_with fail
                    go_roundw
                    case rel => first | exact ⟨j + 1, by omega, by go_num, HJ2, HJN2, HF5⟩ | ((repeat apply Exists.intro); exact ⟨⟨j + 1, by omega, by go_num, HJ2, HJN2, HF5⟩, rfl⟩)
                    case measure => simp [intOf]; omega
              · obtain rfl : F.length = j := by omega
                have hjj := HJ.out
                rw [Nat.sub_self, fm3] at hjj
                have HK2 : Hid (fm2 F i A = fm2 F i (A.drop (k + 1))) := Lib.hid (by rw [HKK.out, hjj])
                have HKN2 : Hid (∀ p, p < k + 1 → ∀ j, j < F.length → j ≠ i → nth A p ∉ lth F j) := Lib.hid (fun p hp j hj hne => by
                  rcases Nat.lt_or_ge p k with q | q
                  · exact HKN.out p q j hj hne
                  · obtain rfl : p = k := by omega
                    rw [← HXX.out]; exact HJN.out j hj hne)
                clear hjj HJ HJN
                go_wp2_with fail
                go_roundw
                case rel => first | exact ⟨k + 1, by omega, by go_num, HK2, HKN2, HFj⟩ | ((repeat apply Exists.intro); exact ⟨⟨k + 1, by omega, by go_num, HK2, HKN2, HFj⟩, rfl⟩)
                case measure => simp [intOf]; omega
          · obtain rfl : A.length = k := by omega
            have hkk := HK.out
            rw [List.drop_length, fm2] at hkk
            have HG2 : Hid (M = fm1 F (F.length - (i + 1)) (i + 1)) := Lib.hid (by rw [HGM.out, hkk, HNI.out])
            clear hkk HK HKN
            go_wp2_with fail
            go_roundw
            case rel => first | exact ⟨i + 1, by omega, by go_num, HG2, HFk⟩ | ((repeat apply Exists.intro); exact ⟨⟨i + 1, by omega, by go_num, HG2, HFk⟩, rfl⟩)
            case measure => simp [intOf]; omega
      · obtain rfl : F.length = i := by omega
        have hg := HG.out
        rw [Nat.sub_self, fm1] at hg
        have hER := HOF.out hg trivial
        obtain ⟨hE, hR⟩ := hER
        subst hE
        subst hR
        clear HOF HON hg HG
        go_wp2_with fail
        go_ret2
        exact TupLC.nil 13 HFi.out
  · obtain ⟨hE, hR⟩ := HOE.out hc
    subst hE
    subst hR
    clear HOF HON HOE
    have hon : (E != 0) = true := by simpa using hc
    have hon2 : (E == 0) = false := by simpa using hc
    go_enter Try.func33, Try.ntmps33
    go_wp2_with fail
    refine (HOR.out _ HA.out).mono ?_
    rintro _ w2 ⟨l, lc, rfl, _, G⟩
    have HF2 := Lib.hid (HA.out.trans G)
    clear p0 p1 p2 q0 q1 G
    go_wp2_with fail
    go_ret2
    exact TupLC.nil E HF2.out
end Go.Proofs.Ytflllkamdihfaaa
