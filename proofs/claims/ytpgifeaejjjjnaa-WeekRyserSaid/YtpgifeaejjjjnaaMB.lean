/- isCrossing, what comes in, law lists, R, A, B, C, values of the examples; of the reference: in, has, met, checked, Check, Corner, open, Free, Round, bars (BP to CA, merged) -/
import Derived.Test.YtpgifeaejjjjnaaMA
import Derived.Lib.SmallJoins
import Derived.ProofKit
import Derived.OpenShut
namespace Go.Proofs.Ytpgifeaejjjjnaa
open Go.RowKit Go.Sort
section
/-- the streets of carts on their days. -/
def stF (zss : List (List Int)) (ds : List Int) (k : Nat) : Int := nth (lth zss k) (nth ds k).toNat
def crsB (zss : List (List Int)) (ds : List Int) : Bool := decide (∀ k, k < ds.length → ∀ j, j < k → stF zss ds j ≠ stF zss ds k)
def seenB (zss : List (List Int)) (ds : List Int) (k i : Nat) : Bool := (List.range k).any fun j => decide (stF zss ds j = (i : Int))
theorem seenB_succ (zss : List (List Int)) (ds : List Int) (k i : Nat) : seenB zss ds (k + 1) i = (seenB zss ds k i || decide (stF zss ds k = (i : Int))) := by
  unfold seenB
  rw [List.range_succ, List.any_append]
  simp
set_option maxRecDepth 100000 in
set_option maxHeartbeats 4000000 in
theorem crossing_any (a : Option Addr) (cap : Nat) (zss : List (List Int)) (b : Option Addr) (bap : Nat) (ds : List Int) (w : World) (hL : LstAt w a zss) (hI : IntsAt w b ds) (hl : ds.length ≤ zss.length) (hz : zss.length ≤ 5)
    (hd : ∀ k, k < ds.length → 0 ≤ nth ds k ∧ nth ds k < (lth zss k).length ∧ (lth zss k).length ≤ 5 ∧ 0 ≤ stF zss ds k ∧ stF zss ds k < 5) :
    Calls Try.prog 118 #[.slice a zss.length cap, .slice b ds.length bap] w fun e w' => e = .returned (.bool (crsB zss ds)) ∧ Fut w w' := by
  have HL := Lib.hid hL
  have HI := Lib.hid hI
  have HD := Lib.hid hd
  generalize hE : crsB zss ds = E at *
  have HE := Lib.hid hE
  clear hE hL hI hd
  go_enter Try.func118, Try.ntmps118
  go_wp2_with fail
  have hR0 : (w.alloc (.cells #[.bool false, .bool false, .bool false, .bool false, .bool false] 129)).rowIs w.heap.size 129 5 (fun i => .bool (seenB zss ds 0 i)) :=
    World.rowIs_alloc w #[.bool false, .bool false, .bool false, .bool false, .bool false] 129 _ (fun i hi => by
      match i, hi with
      | 0, _ => rfl
      | 1, _ => rfl
      | 2, _ => rfl
      | 3, _ => rfl
      | 4, _ => rfl
      | i + 5, hi => exact absurd hi (by simp))
  have F0 : Fut w (w.alloc (.cells #[.bool false, .bool false, .bool false, .bool false, .bool false] 129)) := Fut.alloc _ _
  generalize w.alloc (.cells #[.bool false, .bool false, .bool false, .bool false, .bool false] 129) = W1 at *
  generalize hB : w.heap.size = B at *
  have HB := Lib.hid hB
  have HR0 := Lib.hid hR0
  have HF0 := Lib.hid F0
  clear hB hR0 F0
  have hlx : (ds.length : Int) ≤ 5 := by omega
  go_loopw [11] (fun iv wr => ∃ k : Nat, k ≤ ds.length ∧ iv = .int .i64 k ∧ Hid (wr.rowIs B 129 5 (fun i => .bool (seenB zss ds k i))) ∧ Hid (∀ i, i < k → ∀ j, j < i → stF zss ds j ≠ stF zss ds i) ∧ Hid (Fut w wr)) (fun iv _ => ds.length - (intOf iv).toNat)
  case atStart => exact ⟨0, Nat.zero_le _, rfl, HR0, Lib.hid (fun i hi => absurd hi (Nat.not_lt_zero i)), HF0⟩
  case round =>
    obtain ⟨k, hk, rfl, HR, HN, HF⟩ := hrel
    by_cases hlt : k < ds.length
    · have hkx : (k : Int) < ds.length := by omega
      have hkz : (k : Int) < zss.length := by omega
      obtain ⟨b1, off1, ea1, hb1, e1⟩ := (HI.out.fut HF.out) k hlt
      subst ea1
      obtain ⟨bb, off, l, lc, ea, hbb, d1, hI⟩ := (HL.out.fut HF.out) k (by omega)
      subst ea
      obtain ⟨x0, x1, x5, y0, y5⟩ := HD.out k hlt
      have hst : stF zss ds k = nth (lth zss k) (nth ds k).toNat := rfl
      have hsn := seenB_succ zss ds k
      have HN1 : Hid (∀ j, j < k → stF zss ds j ≠ stF zss ds k → True) := Lib.hid (fun _ _ _ => trivial)
      have hseen : ∀ i : Nat, (i : Int) = stF zss ds k → (seenB zss ds k i = true ↔ ∃ j, j < k ∧ stF zss ds j = stF zss ds k) := fun i hi => by
        unfold seenB
        rw [List.any_eq_true]
        constructor
        · rintro ⟨j, hj, e⟩
          exact ⟨j, List.mem_range.1 hj, (of_decide_eq_true e).trans hi⟩
        · rintro ⟨j, hj, e⟩
          exact ⟨j, List.mem_range.2 hj, decide_eq_true (e.trans hi.symm)⟩
      have HSE := Lib.hid hseen
      have HSN := Lib.hid hsn
      clear hseen hsn HN1
      obtain ⟨d, hd⟩ := Int.eq_ofNat_of_zero_le x0
      rw [hd] at hst x1 e1
      rw [Int.toNat_natCast] at hst
      have hdl : d < (lth zss k).length := by omega
      obtain ⟨b2, off2, ea2, hb2, e2⟩ := hI d hdl
      subst ea2
      rw [← hst] at e2
      generalize (lth zss k).length = zl at *
      have HSK : Hid (stF zss ds k = stF zss ds k) := Lib.hid rfl
      generalize hs : stF zss ds k = s at *
      obtain ⟨z, rfl⟩ := Int.eq_ofNat_of_zero_le y0
      have hz5 : z < 5 := by omega
      have c1 := HR.out.cell hz5
      have c2 := HR.out.frozen z
      have hse := HSE.out z rfl
      clear hI HSK
      cases hb : seenB zss ds k z
      · rw [hb] at c1 hse
        have HR2 : Hid ((wr.setCell ⟨B, z, none⟩ (.bool true)).rowIs B 129 5 (fun i => .bool (seenB zss ds (k + 1) i))) := Lib.hid ((HR.out.set z (.bool true)).congr fun i _ => by
          rw [HSN.out i]
          by_cases e : i = z
          · subst e; simp
          · rw [if_neg e]
            have : decide ((z : Int) = (i : Int)) = false := by rw [decide_eq_false_iff_not]; omega
            rw [this, Bool.or_false])
        have HF2 : Hid (Fut w (wr.setCell ⟨B, z, none⟩ (.bool true))) := Lib.hid (RowKit.Below.setCell HF.out (p := ⟨B, z, none⟩) (by rw [HB.out]; exact Nat.le_refl _) _)
        have HN2 : Hid (∀ i, i < k + 1 → ∀ j, j < i → stF zss ds j ≠ stF zss ds i) := Lib.hid (fun i hi j hj => by
          rcases Nat.lt_or_ge i k with q | q
          · exact HN.out i q j hj
          · obtain rfl : i = k := by omega
            rw [hs]
            exact fun e => absurd (hse.2 ⟨j, hj, e⟩) (by simp))
        clear hs hst hse hb
        go_wp2
        go_round
        case rel => exact ⟨k + 1, by omega, by go_num, HR2, HN2, HF2⟩
        case measure => simp [intOf]; omega
      · rw [hb] at c1 hse
        have hE : E = false := by
          rw [← HE.out]; unfold crsB; rw [decide_eq_false_iff_not]
          intro q
          obtain ⟨j, hj, e⟩ := hse.1 rfl
          exact q k hlt j hj (e.trans hs.symm)
        subst hE
        clear hs hst hse hb
        go_wp2
        go_ret
        exact ⟨rfl, HF.out⟩
    · obtain rfl : k = ds.length := by omega
      have hE : E = true := by rw [← HE.out]; unfold crsB; rw [decide_eq_true_eq]; exact HN.out
      subst hE
      go_wp2
      go_ret
      exact ⟨rfl, HF.out⟩
end
section
open Go.Joins Go.ChangeShapes Go.WideShapes Go.ChangeAt
theorem cT3 : Try.prog.cellsOf 3 = 1 := by kernel_rfl
theorem cT28 : Try.prog.cellsOf 28 = 1 := by kernel_rfl
theorem cT22 : Try.prog.cellsOf 22 = 1 := by kernel_rfl
set_option maxRecDepth 100000 in
/-- a list of numbers that was read. -/
theorem open_slc {H : Type} {enc : TypeId × Value → H} {w : World} {fuel : Nat} {cs : List Value} {x : DataW H × List MemPlace}
    (hf : DataW.trod enc Try.prog w 0 (fun _ => true) true fuel 28 cs = some x) :
    ∃ a cap zs, cs = [.slice a (List.length zs) cap] ∧ zs.length ≤ cap ∧ cap ≤ 9223372036854775807 ∧ IntsAt w a zs := by
  rcases open_ints Try.underlying28 Try.underlying3 cT3 hf with ⟨hcs, _⟩ | ⟨a, len, cap, zs, hcs, _, hl, hm, hz, _, hcell, _⟩
  · exact ⟨none, 0, [], hcs, by simp, by omega, fun j hj => absurd hj (by simp)⟩
  · simp only [if_true] at hz
    unfold maxLen at hm
    have hlt : (zs.take len).length = len := by rw [List.length_take]; omega
    refine ⟨some a, cap, zs.take len, by rw [hlt]; exact hcs, by omega, by omega, fun j hj => ?_⟩
    rw [hlt] at hj
    have hc0 := hcell 0 (by omega)
    have hc := hcell j (by omega)
    obtain ⟨b, off, spot⟩ := a
    have hspot : spot = none := by simpa [Addr.add] using World.cell?_spot hc0
    subst hspot
    have hadd : (⟨b, off, none⟩ : Addr).add j = ⟨b, off + j, none⟩ := by unfold Addr.add; split <;> simp_all
    rw [hadd] at hc
    refine ⟨b, off, rfl, World.block_lt_of_cell? _ _ hc, ?_⟩
    have e : nth (zs.take len) j = zs.getD j 0 := by rw [nth_eq, List.getElem?_take, if_pos hj, List.getD_eq_getElem?_getD]
    rw [e]
    exact hc
set_option maxRecDepth 100000 in
/-- lists that came in. -/
theorem open_lls {H : Type} {enc : TypeId × Value → H} {w : World} {b0 : Nat} {r : Reach} {v : Value} {d : DataW H} {p : List MemPlace}
    (hv : Value.okWide Try.prog w r b0 22 v) (h : DataW.Trod enc Try.prog w 0 (fun _ => true) true 22 v d p) :
    ∃ a cap zss, v = .slice a (List.length zss) cap ∧ zss.length ≤ cap ∧ cap ≤ 9223372036854775807 ∧ LstC w a zss := by
  obtain ⟨a0, len0, cap0, rfl⟩ := okWide_slice Try.underlying22 hv
  obtain ⟨fuel, hf⟩ := h
  rcases DataW.trod_slice Try.underlying22 hf with ⟨hcs, _⟩ | ⟨a, len, cap, elems, rest, n, _, hcs, _, _, hl, hm, hlen, hel, _, _⟩
  · simp [Value.cells] at hcs
    obtain ⟨rfl, rfl, rfl⟩ := hcs
    exact ⟨none, 0, [], rfl, by simp, by omega, fun j hj => absurd hj (by simp)⟩
  · simp [Value.cells] at hcs
    obtain ⟨rfl, rfl, rfl⟩ := hcs
    unfold maxLen at hm
    have each : ∀ i, i < len0 → ∃ zs : List Int, ∃ l lc, w.cell? ((a.add (i * 1)).add 0) = some (.slice l zs.length lc) ∧ (zs.length ≤ lc ∧ lc ≤ 9223372036854775807) ∧ IntsAt w l zs := fun i hi => by
      have := hel i hi
      rw [cT28, List.getElem?_eq_getElem (by omega), Option.bind_eq_some_iff] at this
      obtain ⟨cs, hcs, hy⟩ := this
      obtain ⟨_, hl1, hc⟩ := World.cells?_some hcs
      obtain ⟨l, lc, zs, rfl, hz1, hz2, hI⟩ := open_slc hy
      have c0 := hc 0 (by decide)
      exact ⟨zs, l, lc, by simpa using c0, ⟨hz1, hz2⟩, hI⟩
    have hex : ∃ zss : List (List Int), zss.length = len0 ∧ ∀ i, i < len0 → ∃ l lc, w.cell? ((a.add (i * 1)).add 0) = some (.slice l (lth zss i).length lc) ∧ ((lth zss i).length ≤ lc ∧ lc ≤ 9223372036854775807) ∧ IntsAt w l (lth zss i) := by
      refine ⟨(List.range len0).map fun i => if hi : i < len0 then (each i hi).choose else [], by simp, fun i hi => ?_⟩
      · have e : lth ((List.range len0).map fun i => if hi : i < len0 then (each i hi).choose else []) i = (each i hi).choose := by
          rw [lth_eq, List.getElem?_map, List.getElem?_range hi]
          simp [hi]
        rw [e]
        exact (each i hi).choose_spec
    obtain ⟨zss, rfl, hc⟩ := hex
    refine ⟨some a, cap0, zss, rfl, by omega, by omega, fun j hj => ?_⟩
    obtain ⟨l, lc, c0, hz, hI⟩ := hc j hj
    obtain ⟨b, off, spot⟩ := a
    have hspot : spot = none := by
      obtain ⟨_, _, c, _⟩ := hc 0 (by omega)
      simpa [Addr.add] using World.cell?_spot c
    subst hspot
    have hadd : ∀ o k, (⟨b, o, none⟩ : Addr).add k = ⟨b, o + k, none⟩ := fun o k => by unfold Addr.add; split <;> simp_all
    rw [hadd, hadd, Nat.mul_one, Nat.add_zero] at c0
    exact ⟨b, off, l, lc, rfl, World.block_lt_of_cell? _ _ c0, c0, hz.1, hz.2, hI⟩
end
section
theorem large_any (a : Option Addr) (cap : Nat) (zss : List (List Int)) (w : World) (hL : LstAt w a zss) (hl : zss.length ≤ 9223372036854775807) (hz : ∀ k, k < zss.length → (lth zss k).length ≤ 9223372036854775807) :
    Calls Try.prog 16 #[.slice a zss.length cap] w fun e w' => e = .returned (.bool (decide (30 < zss.length ∨ ∃ k, k < zss.length ∧ 30 < (lth zss k).length))) ∧ w = w' := by
  have HL := Lib.hid hL
  have HZ := Lib.hid hz
  have hlx : (zss.length : Int) ≤ 9223372036854775807 := by omega
  generalize hE : decide (30 < zss.length ∨ ∃ k, k < zss.length ∧ 30 < (lth zss k).length) = E at *
  have HE := Lib.hid hE
  clear hL hz hE
  by_cases hb : 30 < zss.length
  · have hE : E = true := by rw [← HE.out, decide_eq_true_eq]; exact Or.inl hb
    subst hE
    have hbx : (30 : Int) < zss.length := by omega
    go_enter Try.func16, Try.ntmps16
    go_wp2
    go_ret
    exact ⟨rfl, rfl⟩
  · have hbx : ¬ (30 : Int) < zss.length := by omega
    go_enter Try.func16, Try.ntmps16
    go_wp2_with fail
    go_loopw [3] (fun iv wr => ∃ k : Nat, k ≤ zss.length ∧ iv = .int .i64 k ∧ Hid (∀ j, j < k → ¬ 30 < (lth zss j).length) ∧ wr = w) (fun iv _ => zss.length - (intOf iv).toNat)
    case atStart => exact ⟨0, Nat.zero_le _, rfl, Lib.hid (fun j hj => absurd hj (Nat.not_lt_zero j)), rfl⟩
    case round =>
      obtain ⟨k, hk, rfl, HN, rfl⟩ := hrel
      by_cases hlt : k < zss.length
      · have hkx : (k : Int) < zss.length := by omega
        obtain ⟨bb, off, l, lc, ea, hbb, d1, hI⟩ := HL.out k hlt
        subst ea
        have hzk := HZ.out k hlt
        by_cases hq : 30 < (lth zss k).length
        · have hE : E = true := by rw [← HE.out, decide_eq_true_eq]; exact Or.inr ⟨k, hlt, hq⟩
          subst hE
          generalize (lth zss k).length = n at *
          have hqx : (30 : Int) < n := by omega
          clear hI
          go_wp2
          go_ret
          exact ⟨rfl, rfl⟩
        · have HN2 : Hid (∀ j, j < k + 1 → ¬ 30 < (lth zss j).length) := Lib.hid (fun j hj => by
            rcases Nat.lt_or_ge j k with q | q
            · exact HN.out j q
            · obtain rfl : j = k := by omega
              exact hq)
          generalize (lth zss k).length = n at *
          have hqx : ¬ (30 : Int) < n := by omega
          clear hI
          go_wp2
          go_round
          case rel => exact ⟨k + 1, by omega, by go_num, HN2, trivial⟩
          case measure => simp [intOf]; omega
      · obtain rfl : k = zss.length := by omega
        have hE : E = false := by
          rw [← HE.out, decide_eq_false_iff_not]
          rintro (q | ⟨j, hj, q⟩)
          · exact hb q
          · exact HN.out j hj q
        subst hE
        go_wp2
        go_ret
        exact ⟨rfl, rfl⟩
theorem lth_ext {xss yss : List (List Int)} (hl : xss.length = yss.length) (h : ∀ j, j < xss.length → lth xss j = lth yss j) : xss = yss := by
  apply List.ext_getElem hl
  intro i h1 h2
  have := h i h1
  rw [lth_eq, lth_eq, List.getElem?_eq_getElem h1, List.getElem?_eq_getElem h2] at this
  exact this
set_option maxRecDepth 100000 in
theorem lists_any (a c : Option Addr) (cap dap : Nat) (xss yss : List (List Int)) (w : World) (hA : LstAt w a xss) (hC : LstAt w c yss) (hx : xss.length ≤ 9223372036854775807) (hy : yss.length ≤ 9223372036854775807)
    (hxe : ∀ k, k < xss.length → (lth xss k).length ≤ 9223372036854775807) (hye : ∀ k, k < yss.length → (lth yss k).length ≤ 9223372036854775807) :
    Calls Try.prog 22 #[.slice a xss.length cap, .slice c yss.length dap] w fun e w' => e = .returned (.bool (decide (xss = yss))) ∧ Fut w w' := by
  have HA := Lib.hid hA
  have HC := Lib.hid hC
  have HX := Lib.hid hxe
  have HY := Lib.hid hye
  have hlx : (xss.length : Int) ≤ 9223372036854775807 := by omega
  have hly : (yss.length : Int) ≤ 9223372036854775807 := by omega
  generalize hE : decide (xss = yss) = E at *
  have HE := Lib.hid hE
  clear hA hC hxe hye hE
  by_cases hq : xss.length = yss.length
  · have hqb : ((xss.length : Int) != yss.length) = false := by rw [hq]; simp
    have HQ := Lib.hid hq
    clear hq
    go_enter Try.func22, Try.ntmps22
    go_wp2_with fail
    go_loopw [5] (fun iv wr => ∃ k : Nat, k ≤ xss.length ∧ iv = .int .i64 k ∧ Hid (∀ j, j < k → lth xss j = lth yss j) ∧ Hid (Fut w wr)) (fun iv _ => xss.length - (intOf iv).toNat)
    case atStart => exact ⟨0, Nat.zero_le _, rfl, Lib.hid (fun j hj => absurd hj (Nat.not_lt_zero j)), Lib.hid Fut.rfl⟩
    case round =>
      obtain ⟨k, hk, rfl, HN, HF⟩ := hrel
      by_cases hlt : k < xss.length
      · have hkx : (k : Int) < xss.length := by omega
        have hky : (k : Int) < yss.length := by have := HQ.out; omega
        obtain ⟨bb, off, l, lc, ea, hbb, d1, hI⟩ := (HA.out.fut HF.out) k hlt
        subst ea
        obtain ⟨b2, off2, l2, lc2, ea2, hb2, d2, hI2⟩ := (HC.out.fut HF.out) k (by omega)
        subst ea2
        have hxk := HX.out k hlt
        have hyk := HY.out k (by omega)
        have HS := Lib.hid (fun q => same_any l l2 lc lc2 (lth xss k) (lth yss k) (wr.drewN q) hxk hyk (hI.fut (Fut.drewN wr q)) (hI2.fut (Fut.drewN wr q)))
        clear hI hI2
        cases hs : sameB (lth xss k) (lth yss k)
        · rw [hs] at HS
          have hne : lth xss k ≠ lth yss k := by unfold sameB at hs; exact of_decide_eq_false hs
          have hE : E = false := by rw [← HE.out, decide_eq_false_iff_not]; intro q; exact hne (by rw [q])
          subst hE
          clear hs hne
          go_upto_region 6 with fail
          go_quiet (first | (go_at_call 23; exact Calls.quiet_of (HS.out _)))
          go_wp2
          go_ret
          exact ⟨rfl, HF.out.trans (Fut.drewN _ _)⟩
        · rw [hs] at HS
          have he : lth xss k = lth yss k := by unfold sameB at hs; exact of_decide_eq_true hs
          have HN2 : Hid (∀ j, j < k + 1 → lth xss j = lth yss j) := Lib.hid (fun j hj => by
            rcases Nat.lt_or_ge j k with q | q
            · exact HN.out j q
            · obtain rfl : j = k := by omega
              exact he)
          clear hs he
          go_upto_region 6 with fail
          go_quiet (first | (go_at_call 23; exact Calls.quiet_of (HS.out _)))
          have HF2 := Lib.hid (HF.out.trans (Fut.drewN wr nq))
          clear d1 d2
          generalize wr.drewN nq = w6 at *
          go_wp2
          go_round
          case rel => exact ⟨k + 1, by omega, by go_num, HN2, HF2⟩
          case measure => simp [intOf]; omega
      · obtain rfl : k = xss.length := by omega
        have hE : E = true := by rw [← HE.out, decide_eq_true_eq]; exact lth_ext HQ.out HN.out
        subst hE
        go_wp2
        go_ret
        exact ⟨rfl, HF.out⟩
  · have hqb : ((xss.length : Int) != yss.length) = true := by rw [bne_iff_ne]; omega
    have hE : E = false := by rw [← HE.out, decide_eq_false_iff_not]; intro q; exact hq (by rw [q])
    subst hE
    go_enter Try.func22, Try.ntmps22
    go_wp2
    go_ret
    exact ⟨rfl, Fut.rfl⟩
end
section
theorem Elems.fut {w w' : World} {B : Nat} {vals : List Value} {zss : List (List Int)} (h : Elems w B vals zss) (F : Fut w w') : Elems w' B vals zss :=
  ⟨h.1, fun j hj => by obtain ⟨u, e, hu⟩ := h.2 j hj; exact ⟨u, e, hu.fut F⟩⟩
theorem row_fut {w w' : World} {B size : Nat} {e : TypeId} {v : Value} {n : Nat} {xs : List Value} (h : w.ownsRow B e size v n xs) (F : Fut w w') : w'.ownsRow B e size v n xs := by
  refine World.ownsRow.kept h (row := none) ⟨F.os, F.tape, F.output, F.size, fun k hk _ => F.block k hk⟩ ?_
  rcases hv : v.ownBlock with _ | k
  · exact .inl rfl
  · exact .inr (by simp)
theorem OwnL.listsC {w : World} {B : Nat} {v : Value} {zss : List (List Int)} (h : OwnL w B v zss) : ∃ l lc, v = .slice l zss.length lc ∧ zss.length ≤ lc ∧ lc ≤ 9223372036854775807 ∧ LstC w l zss := by
  obtain ⟨vals, h1, h2, h3⟩ := h
  have h1' := h1
  rcases h1.2 with ⟨rfl, h0⟩ | ⟨g, cap, cur, rfl, hb, hg, hn, hm, _⟩
  · exact ⟨none, 0, by rw [h0], by omega, by omega, fun j hj => by omega⟩
  · refine ⟨_, cap, rfl, hn, by unfold maxLen at hm; omega, fun j hj => ?_⟩
    obtain ⟨u, e, hu⟩ := h3 j hj
    obtain ⟨a, ac, eu, q1, q2, hI⟩ := hu.form
    refine ⟨g, 0, a, ac, rfl, (Array.getElem?_eq_some_iff.1 hg).1, ?_, q1, by unfold maxLen at q2; omega, hI⟩
    rw [Nat.zero_add, World.ownsRow.cellAt h1' j (by omega), e, eu]
def rowR (n i : Nat) (j : Nat) : List Int := (List.range j).map fun k => rndF n i k
theorem rowR_succ (n i j : Nat) : rowR n i (j + 1) = rowR n i j ++ [rndF n i j] := by unfold rowR; rw [List.range_succ, List.map_append]; rfl
theorem rowR_len (n i j : Nat) : (rowR n i j).length = j := by unfold rowR; simp
def rowsR (n i : Nat) : List (List Int) := (List.range i).map fun k => rowR n k n
theorem rowsR_succ (n i : Nat) : rowsR n (i + 1) = rowsR n i ++ [rowR n i n] := by unfold rowsR; rw [List.range_succ, List.map_append]; rfl
theorem rowsR_len (n i : Nat) : (rowsR n i).length = i := by unfold rowsR; simp
theorem rowsR_grid (n : Nat) : rowsR n n = gridL n n (rndF n) := rfl
set_option maxRecDepth 100000 in
set_option maxHeartbeats 4000000 in
theorem lawR_any (n : Nat) (h1 : 1 ≤ n) (h5 : n ≤ 5) (w : World) : Calls Try.prog 55 #[.int .i64 n] w fun e w' => ∃ l lc, e = .returned (.slice l n lc) ∧ n ≤ lc ∧ lc ≤ 9223372036854775807 ∧ LstC w' l (gridL n n (rndF n)) ∧ Fut w w' := by
  obtain ⟨i0, hi0, hz0, hz1, hz2⟩ := info_parts info3
  obtain ⟨i1, hi1, hy0, hy1, hy2⟩ := info_parts info28
  have hnx : (n : Int) ≤ 5 := by omega
  have hn1 : ¬ n = 0 := by omega
  have hn2 : ¬ (n : Int) = 0 := by omega
  have hn3 : ((n : Int) == 0) = false := by rw [beq_eq_false_iff_ne]; exact hn2
  go_enter Try.func55, Try.ntmps55
  go_wp2_with fail
  go_loopw [3, 4] (fun ov iv wr => ∃ i : Nat, i ≤ n ∧ iv = .int .i64 i ∧ Hid (OwnL wr w.heap.size ov (rowsR n i)) ∧ Hid (Fut w wr)) (fun _ iv _ => n - (intOf iv).toNat)
  case atStart => exact ⟨0, Nat.zero_le _, rfl, Lib.hid (OwnL.nil _ _), Lib.hid Fut.rfl⟩
  case round =>
    obtain ⟨i, hi, rfl, HO, HF⟩ := hrel
    by_cases hlt : i < n
    · have hix : (i : Int) < n := by omega
      go_wp2_with fail
      generalize wr = w0 at *
      go_loopw [5, 6] (fun lv jv wq => ∃ j : Nat, j ≤ n ∧ jv = .int .i64 j ∧ Hid (Owns wq w0.heap.size lv (rowR n i j)) ∧ Hid (Fut w0 wq)) (fun _ jv _ => n - (intOf jv).toNat)
      case atStart => exact ⟨0, Nat.zero_le _, rfl, Lib.hid (World.ownsRow_nil _ _ _ _), Lib.hid Fut.rfl⟩
      case round =>
        obtain ⟨j, hj, rfl, HR, HB⟩ := hrel
        by_cases hjl : j < n
        · have hjx : (j : Int) < n := by omega
          have hrem : ((i : Int) + (j : Int)).tmod (n : Int) = rndF n i j := by
            unfold rndF
            rw [Int.tmod_eq_emod_of_nonneg (by omega), Int.natCast_emod, Int.natCast_add]
          have hwr1 : IntKind.i64.wrap ((i : Int) + (j : Int)) = (i : Int) + (j : Int) := IntWalk.i64_in _ ⟨by omega, by omega⟩
          have hr0 : 0 ≤ rndF n i j ∧ rndF n i j < n := by
            unfold rndF
            have := Nat.mod_lt (i + j) (show 0 < n by omega)
            omega
          obtain ⟨hr1, hr2⟩ := hr0
          have hwr2 : IntKind.i64.wrap (rndF n i j) = rndF n i j := IntWalk.i64_in _ ⟨by omega, by omega⟩
          have HS := Lib.hid (rowR_succ n i j)
          have HRL := Lib.hid (rowR_len n i j)
          generalize rndF n i j = rd at *
          generalize hrn : rowR n i (j + 1) = rn at *
          have HRN := Lib.hid hrn
          clear hrn
          generalize rowR n i j = rj at *
          obtain ⟨av, ac, hav, hl1, hl2, _⟩ := HR.out.form
          subst hav
          go_wp2_with (at_builtin; refine wpList_append_own _ rfl _ _ 28 rfl w0.heap.size 3 i0 (.int .i64 0) 1 8 Try.underlying28 hi0 hz0 hz1 hz2 rfl (by decide) _ _ _ rfl (HR.out.fut (Fut.alloc _ _)) ⟨wr.heap.size, 0, none⟩ 1 1 [.int .i64 rd] rfl rfl (cell_one (by simp [go_sem])) (by simp [Value.oneCell']) (by have := HRL.out; unfold maxLen; omega) (by have := HRL.out; omega) (by have := RowKit.Below.size HB.out; simp; omega) ?_)
          intro v' w7 hown' hgrow _
          have HR7 : Hid (Owns w7 w0.heap.size v' rn) := Lib.hid (by rw [HS.out]; unfold Owns; simpa using hown')
          have HB7 : Hid (Fut w0 w7) := Lib.hid (RowKit.Below.grown (HB.out.trans (Fut.alloc _ _)) hgrow (RowKit.Below.size (HB.out.trans (Fut.alloc _ _))) (fun q hq => (World.ownsRow.lt (HR.out.fut (Fut.alloc wr (.cells #[.int .i64 rd] 3))) q hq).1))
          clear hown' hgrow hwr1 hwr2 hrem
          go_wp2
          go_round
          case rel => exact ⟨j + 1, by omega, by go_num, by rw [HRN.out]; exact HR7, HB7⟩
          case measure => simp [intOf]; omega
        · obtain rfl : j = n := by omega
          have HRS := Lib.hid (rowsR_succ j i)
          have HRL := Lib.hid (rowsR_len j i)
          have HQL := Lib.hid (rowR_len j i j)
          have HO2 := Lib.hid (HO.out.fut HB.out)
          generalize hRn : rowsR j (i + 1) = Rn at *
          have HRN := Lib.hid hRn
          clear hRn
          generalize rowsR j i = Ri at *
          generalize rowR j i j = rw' at *
          obtain ⟨av, ac, hav, hl1, hl2, _⟩ := HR.out.form
          subst hav
          obtain ⟨vals, hO1, hE1⟩ := HO2.out
          have HV := Lib.hid hE1
          have hb0 : w.heap.size ≤ w0.heap.size := RowKit.Below.size HF.out
          have hbq : w0.heap.size ≤ wr.heap.size := RowKit.Below.size HB.out
          go_wp2_with (at_builtin; refine wpList_append_own _ rfl _ _ 22 rfl w.heap.size 28 i1 (.slice none 0 0) 1 24 Try.underlying22 hi1 hy0 hy1 hy2 rfl (by decide) _ _ _ rfl (row_fut hO1 (Fut.alloc _ _)) ⟨wr.heap.size, 0, none⟩ 1 1 [.slice av rw'.length ac] rfl rfl (cell_one (by simp [go_sem])) (by simp [Value.oneCell']) (by have := HRL.out; unfold maxLen; omega) (by have := HRL.out; omega) (by simp; omega) ?_)
          intro v' w7 hown' hgrow _
          have hOA := row_fut hO1 (Fut.alloc wr (.cells #[.slice av rw'.length ac] 28))
          have HO7 : Hid (OwnL w7 w.heap.size v' Rn) := Lib.hid (by
            rw [HRS.out]
            refine ⟨vals ++ [.slice av rw'.length ac], ?_, Elems.app (hE1.fut (Fut.alloc _ _)) ((HR.out.base hb0).fut (Fut.alloc _ _)) hOA hgrow⟩
            have e : (Ri ++ [rw']).length = Ri.length + 1 := by simp
            rw [e]
            simpa using hown')
          have HF7 : Hid (Fut w w7) := Lib.hid (RowKit.Below.grown ((HF.out.trans HB.out).trans (Fut.alloc _ _)) hgrow (by simp; omega) (fun q hq => (World.ownsRow.lt hOA q hq).1))
          clear hown' hgrow hOA
          go_wp2
          go_round
          case rel => exact ⟨i + 1, by omega, by go_num, by rw [HRN.out]; exact HO7, HF7⟩
          case measure => simp [intOf]; omega
    · obtain rfl : i = n := by omega
      obtain ⟨l, lc, e, q1, q2, hL⟩ := HO.out.listsC
      rw [rowsR_len] at e q1
      subst e
      rw [rowsR_grid] at hL
      go_wp2
      go_ret
      exact ⟨_, _, rfl, q1, q2, hL, HF.out⟩
end
section
theorem lst_one {w : World} {b : Nat} {l : Option Addr} {zs : List Int} {lc : Nat} (hb : b < w.heap.size) (hc : w.cell? ⟨b, 0, none⟩ = some (.slice l zs.length lc)) (h1 : zs.length ≤ lc) (h2 : lc ≤ 9223372036854775807) (hI : IntsAt w l zs) : LstC w (some ⟨b, 0, none⟩) [zs] := fun j hj => by
  obtain rfl : j = 0 := by simp at hj; exact hj
  exact ⟨b, 0, l, lc, rfl, hb, hc, h1, h2, hI⟩
theorem lst_two {w : World} {b : Nat} {l k : Option Addr} {zs ys : List Int} {lc kc : Nat} (hb : b < w.heap.size) (hc : w.cell? ⟨b, 0, none⟩ = some (.slice l zs.length lc)) (h1 : zs.length ≤ lc) (h2 : lc ≤ 9223372036854775807) (hI : IntsAt w l zs)
    (hd : w.cell? ⟨b, 1, none⟩ = some (.slice k ys.length kc)) (g1 : ys.length ≤ kc) (g2 : kc ≤ 9223372036854775807) (hK : IntsAt w k ys) : LstC w (some ⟨b, 0, none⟩) [zs, ys] := fun j hj => by
  match j, hj with
  | 0, _ => exact ⟨b, 0, l, lc, rfl, hb, hc, h1, h2, hI⟩
  | 1, _ => exact ⟨b, 0, k, kc, rfl, hb, hd, g1, g2, hK⟩
  | j + 2, hj => exact absurd hj (by simp)
theorem lawA (w : World) : Calls Try.prog 59 #[] w fun e w' => ∃ l, e = .returned (.slice l 1 1) ∧ LstC w' l [[0, 1, 2]] ∧ Fut w w' := by
  have hI := ints_new w [0, 1, 2]
  have hF : Fut w (w.alloc (.cells ([0, 1, 2].map (Value.int .i64)).toArray 3)) := Fut.alloc _ _
  go_enter Try.func59, Try.ntmps59
  go_wp2
  go_ret
  refine ⟨_, rfl, ?_, hF.trans (Fut.alloc _ _)⟩
  exact lst_one (lc := 3) (by simp) (by simp [go_sem]) (by simp) (by omega) (hI.fut (Fut.alloc _ _))
theorem lawB (w : World) : Calls Try.prog 60 #[] w fun e w' => ∃ l, e = .returned (.slice l 2 2) ∧ LstC w' l [[0, 1], [1, 0]] ∧ Fut w w' := by
  have hI := ints_new w [0, 1]
  have hF : Fut w (w.alloc (.cells ([0, 1].map (Value.int .i64)).toArray 3)) := Fut.alloc _ _
  have hJ := ints_new (w.alloc (.cells ([0, 1].map (Value.int .i64)).toArray 3)) [1, 0]
  have hG : Fut (w.alloc (.cells ([0, 1].map (Value.int .i64)).toArray 3)) ((w.alloc (.cells ([0, 1].map (Value.int .i64)).toArray 3)).alloc (.cells ([1, 0].map (Value.int .i64)).toArray 3)) := Fut.alloc _ _
  go_enter Try.func60, Try.ntmps60
  go_wp2
  go_ret
  refine ⟨_, rfl, ?_, (hF.trans hG).trans (Fut.alloc _ _)⟩
  exact lst_two (lc := 2) (kc := 2) (by simp) (by simp [go_sem]) (by simp) (by omega) ((hI.fut hG).fut (Fut.alloc _ _)) (by simp [go_sem]) (by simp) (by omega) (hJ.fut (Fut.alloc _ _))
theorem lawC (w : World) : Calls Try.prog 68 #[] w fun e w' => ∃ l, e = .returned (.slice l 2 2) ∧ LstC w' l [[0, 1], [1, 2]] ∧ Fut w w' := by
  have hI := ints_new w [0, 1]
  have hF : Fut w (w.alloc (.cells ([0, 1].map (Value.int .i64)).toArray 3)) := Fut.alloc _ _
  have hJ := ints_new (w.alloc (.cells ([0, 1].map (Value.int .i64)).toArray 3)) [1, 2]
  have hG : Fut (w.alloc (.cells ([0, 1].map (Value.int .i64)).toArray 3)) ((w.alloc (.cells ([0, 1].map (Value.int .i64)).toArray 3)).alloc (.cells ([1, 2].map (Value.int .i64)).toArray 3)) := Fut.alloc _ _
  go_enter Try.func68, Try.ntmps68
  go_wp2
  go_ret
  refine ⟨_, rfl, ?_, (hF.trans hG).trans (Fut.alloc _ _)⟩
  exact lst_two (lc := 2) (kc := 2) (by simp) (by simp [go_sem]) (by simp) (by omega) ((hI.fut hG).fut (Fut.alloc _ _)) (by simp [go_sem]) (by simp) (by omega) (hJ.fut (Fut.alloc _ _))
end
section
set_option maxRecDepth 100000
/-- the values of the chapter's examples. -/
theorem ex_chkA : chkE 3 [[0, 1, 2]] = 0 := by decide
theorem ex_free : freeE 3 [[0, 1, 2]] = [[1, 2], [0, 2], [0, 1]] := by decide
theorem ex_full : fullE 3 [[0, 1, 2]] = gridL 3 3 (rndF 3) := by decide
theorem ex_turnc : chkE 3 [[1, 2, 0]] = 0 := by decide
theorem ex_turn : turnE 3 [[1, 2, 0]] = [[2, 0, 1]] := by decide
theorem ex_whyB : whyS 3 [[0, 1], [1, 0]] = 2 ∧ whyE 3 [[0, 1], [1, 0]] = 0 := by decide
theorem ex_filC : filE 3 [[0, 1], [1, 2]] = 0 ∧ filL 3 [[0, 1], [1, 2]] = gridL 3 3 (rndF 3) := by decide
theorem ex_filB : filE 3 [[0, 1], [1, 0]] = 12 := by decide
theorem ex_whyC : whyE 3 [[0, 1], [1, 2]] = 13 := by decide
theorem ex_prv2 : prvE 3 [[0, 1], [1, 0]] 2 = 0 := by decide
theorem ex_prv0 : prvE 3 [[0, 1], [1, 0]] 0 = 14 := by decide
theorem ex_prv3 : prvE 3 [[0, 1], [1, 0]] 3 = 2 := by decide
theorem ex_fulA : fulE 3 [[0, 1, 2]] = 21 := by decide
theorem ex_opnA : opnE 3 [[0, 1, 2]] = 0 := by decide
theorem ex_ful3 : fulE 3 (gridL 3 3 (rndF 3)) = 0 := by decide
theorem ex_ful4 : fulE 4 (gridL 4 4 (rndF 4)) = 0 := by decide
theorem ex_ful5 : fulE 5 (gridL 5 5 (rndF 5)) = 0 := by decide
theorem ex_opn4 : opnE 4 (gridL 4 4 (rndF 4)) = 16 := by decide
theorem ex_opn2 : opnE 4 ((gridL 4 4 (rndF 4)).take 2) = 0 := by decide
theorem ex_opn1 : opnE 4 ((gridL 4 4 (rndF 4)).take 1) = 0 := by decide
theorem ex_opn0 : opnE 4 [] = 0 := by decide
theorem ex_fil2 : filE 2 [] = 0 ∧ filL 2 [] = gridL 2 2 (rndF 2) := by decide
theorem ex_chk1 : chkE 3 [[0, 1]] = 5 := by decide
theorem ex_chk2 : chkE 3 [[0, 1, 3]] = 2 := by decide
theorem ex_chk3 : chkE 3 [[0, 1, 1]] = 6 := by decide
theorem ex_chk4 : chkE 3 [[0, 1, 2], [0, 2, 1]] = 13 := by decide
theorem ex_chk5 : chkE 3 [[], [], [], []] = 3 := by decide
theorem ex_cor1 : corE 3 [[0, 1], [1]] = 5 := by decide
theorem ex_cor2 : corE 3 [[0, 0]] = 6 := by decide
theorem ex_cor3 : corE 3 [[0], [0]] = 13 := by decide
theorem ex_cor4 : corE 6 [] = 1 := by decide
end
section
theorem rin_any (n lo hi : Int) (w : World) : Calls Try.prog 82 #[.int .i64 n, .int .i64 lo, .int .i64 hi] w fun e w' => e = .returned (.bool (decide (lo ≤ n) && decide (n ≤ hi))) ∧ w = w' := by
  go_enter Try.func82, Try.ntmps82
  go_wp2
  all_goals
    go_ret
    exact ⟨retb (by rw [Bool.eq_iff_iff]; simp; omega), rfl⟩
theorem rhas_any (a : Option Addr) (cap : Nat) (zs : List Int) (x : Int) (w : World) (hA : IntsAt w a zs) (hl : zs.length ≤ 1000) :
    Calls Try.prog 115 #[.slice a zs.length cap, .int .i64 x] w fun e w' => e = .returned (.bool (zs.contains x)) ∧ w = w' := by
  have HA := Lib.hid hA
  have hlx : (zs.length : Int) ≤ 1000 := by omega
  clear hA
  generalize hE : zs.contains x = E at *
  have HE := Lib.hid hE
  clear hE
  go_enter Try.func115, Try.ntmps115
  go_wp2_with fail
  go_loop [5] (fun iv => ∃ k : Nat, k ≤ zs.length ∧ iv = .int .i64 k ∧ Hid ((zs.drop k).contains x = E)) (fun iv => zs.length - (intOf iv).toNat)
  case atStart => exact ⟨0, Nat.zero_le _, rfl, HE⟩
  case round =>
    obtain ⟨k, hk, rfl, HO⟩ := hrel
    by_cases hlt : k < zs.length
    · have hkx : (k : Int) < zs.length := by omega
      obtain ⟨b, off, ea, hb, c1⟩ := HA.out k hlt
      subst ea
      have hd := nth_drop zs k hlt
      rw [hd, List.contains_cons] at HO
      generalize nth zs k = z at *
      clear hd HA
      by_cases hq : x = z
      · have hb2 : (x == z) = true := by rw [hq]; simp
        rw [hb2, Bool.true_or] at HO
        have hE : E = true := HO.out.symm
        subst hE
        subst hq
        clear hb2
        go_wp2
        go_ret
        exact ⟨rfl, rfl⟩
      · have hb2 : (x == z) = false := by rw [beq_eq_false_iff_ne]; exact hq
        have hb3 : (z == x) = false := by rw [beq_eq_false_iff_ne]; exact fun e => hq e.symm
        rw [hb2, Bool.false_or] at HO
        go_wp2
        go_round
        case rel => exact ⟨k + 1, by omega, by go_num, HO⟩
        case measure => simp [intOf]; omega
    · obtain rfl : k = zs.length := by omega
      rw [List.drop_of_length_le (Nat.le_refl _)] at HO
      have hE : E = false := HO.out.symm
      subst hE
      go_wp2
      go_ret
      exact ⟨rfl, rfl⟩
/-- the reference's word for tkn. -/
def metB (zss : List (List Int)) (d : Nat) (s : Int) : Bool := zss.any fun l => decide (d < l.length) && decide (nth l d = s)
theorem metB_cons (l : List Int) (zss : List (List Int)) (d : Nat) (s : Int) : metB (l :: zss) d s = ((decide (d < l.length) && decide (nth l d = s)) || metB zss d s) := rfl
theorem metB_tkn {zss : List (List Int)} {d : Nat} {s : Int} (h : ∀ l ∈ zss, d < l.length) : metB zss d s = tkn zss d s := by
  induction zss with
  | nil => rfl
  | cons l t ih =>
    rw [metB_cons, tkn_cons, ih (fun x hx => h x (List.mem_cons_of_mem _ hx)), decide_eq_true (h l (List.mem_cons_self ..)), Bool.true_and]
theorem rmet_any (a : Option Addr) (cap : Nat) (zss : List (List Int)) (d : Nat) (s : Int) (w : World) (hL : LstAt w a zss) (hl : zss.length ≤ 1000) (hz : ∀ k, k < zss.length → (lth zss k).length ≤ 9223372036854775807) :
    Calls Try.prog 70 #[.slice a zss.length cap, .int .i64 d, .int .i64 s] w fun e w' => e = .returned (.bool (metB zss d s)) ∧ w = w' := by
  have HL := Lib.hid hL
  have HZ := Lib.hid hz
  have hlx : (zss.length : Int) ≤ 1000 := by omega
  clear hL hz
  generalize hE : metB zss d s = E at *
  have HE := Lib.hid hE
  clear hE
  go_enter Try.func70, Try.ntmps70
  go_wp2_with fail
  go_loopw [7] (fun iv wr => ∃ k : Nat, k ≤ zss.length ∧ iv = .int .i64 k ∧ Hid (metB (zss.drop k) d s = E) ∧ wr = w) (fun iv _ => zss.length - (intOf iv).toNat)
  case atStart => exact ⟨0, Nat.zero_le _, rfl, HE, rfl⟩
  case round =>
    obtain ⟨k, hk, rfl, HO, rfl⟩ := hrel
    by_cases hlt : k < zss.length
    · have hkx : (k : Int) < zss.length := by omega
      obtain ⟨bb, off, l, lc, ea, hbb, d1, hI⟩ := HL.out k hlt
      subst ea
      have hd := lth_drop zss k hlt
      rw [hd, metB_cons] at HO
      have hzk := HZ.out k hlt
      by_cases hdl : d < (lth zss k).length
      · rw [decide_eq_true hdl, Bool.true_and] at HO
        obtain ⟨b2, off2, ea2, hb2, e2⟩ := hI d hdl
        subst ea2
        have hdx : (d : Int) < (lth zss k).length := by omega
        generalize nth (lth zss k) d = z at *
        generalize (lth zss k).length = n at *
        clear hd hI
        by_cases hq : z = s
        · rw [decide_eq_true hq, Bool.true_or] at HO
          have hE : E = true := HO.out.symm
          subst hE
          subst hq
          go_wp2
          go_ret
          exact ⟨rfl, rfl⟩
        · rw [decide_eq_false hq, Bool.false_or] at HO
          have hqb : (z == s) = false := by rw [beq_eq_false_iff_ne]; exact hq
          go_wp2
          go_round
          case rel => exact ⟨k + 1, by omega, by go_num, HO, trivial⟩
          case measure => simp [intOf]; omega
      · rw [decide_eq_false hdl, Bool.false_and, Bool.false_or] at HO
        have hdx : ¬ (d : Int) < (lth zss k).length := by omega
        generalize (lth zss k).length = n at *
        clear hd hI
        go_wp2
        go_round
        case rel => exact ⟨k + 1, by omega, by go_num, HO, trivial⟩
        case measure => simp [intOf]; omega
    · obtain rfl : k = zss.length := by omega
      rw [List.drop_of_length_le (Nat.le_refl _)] at HO
      have hE : E = false := HO.out.symm
      subst hE
      go_wp2
      go_ret
      exact ⟨rfl, rfl⟩
end
section
/-- the rows of the reference's checked, each of which should have wd numbers. -/
def rckG (c wd : Int) (all : List (List Int)) : List (List Int) → Nat → Int
  | [], _ => 0
  | l :: t, k => if (l.length : Int) = wd ∧ wd ≤ c then (if amE c (all.take k) l = 0 then rckG c wd all t (k + 1) else amE c (all.take k) l) else 5
def rckE (c wd : Int) (zss : List (List Int)) : Int := if sizeE c zss.length = 0 then rckG c wd zss zss 0 else sizeE c zss.length
set_option maxRecDepth 100000 in
set_option maxHeartbeats 4000000 in
theorem rchecked_any (c wd : Int) (a : Option Addr) (cap : Nat) (zss : List (List Int)) (w : World) (hL : LstC w a zss) (hcap : zss.length ≤ cap) (hcm : cap ≤ 9223372036854775807) :
    Calls Try.prog 78 #[.int .i64 c, .slice a zss.length cap, .int .i64 wd] w fun e w' => e = .returned (.int .i64 (rckE c wd zss)) ∧ Fut w w' := by
  have HI := Lib.hid (fun W => rin_any c 1 5 W)
  unfold rckE
  by_cases hs : sizeE c zss.length = 0
  · rw [if_pos hs]
    obtain ⟨c1, c5, hn⟩ := size_good hs
    have hlx : (zss.length : Int) ≤ 5 := by omega
    have hi1 : (decide (1 ≤ c) && decide (c ≤ 5)) = true := by rw [decide_eq_true c1, decide_eq_true c5]; rfl
    rw [hi1] at HI
    have HL := Lib.hid hL
    have HCP := Lib.hid hcap
    have HCM := Lib.hid hcm
    clear hL hs hi1 hcap hcm
    generalize hE : rckG c wd zss zss 0 = E at *
    have HE := Lib.hid hE
    clear hE
    go_enter Try.func78, Try.ntmps78
    go_wp2_with fail
    refine (HI.out _).mono ?_
    rintro _ _ ⟨rfl, rfl⟩
    go_wp2_with fail
    go_loopw [7] (fun iv wr => ∃ k : Nat, k ≤ zss.length ∧ iv = .int .i64 k ∧ Hid (rckG c wd zss (zss.drop k) k = E) ∧ Hid (∀ j, j < k → ((lth zss j).length : Int) = wd) ∧ Hid (Fut w wr)) (fun iv _ => zss.length - (intOf iv).toNat)
    case atStart => exact ⟨0, Nat.zero_le _, rfl, HE, Lib.hid (fun j hj => absurd hj (by omega)), Lib.hid Fut.rfl⟩
    case round =>
      obtain ⟨k, hk, rfl, HO, HB, HF⟩ := hrel
      by_cases hlt : k < zss.length
      · have hkx : (k : Int) < zss.length := by omega
        obtain ⟨bb, off, l, lc, ea, hbb, d1, hlc, hcc, hI⟩ := HL.out k hlt
        subst ea
        have d2 : wr.cell? ⟨bb, off + k, none⟩ = some (.slice l (lth zss k).length lc) := (RowKit.Below.cell HF.out (p := ⟨bb, off + k, none⟩) hbb).trans d1
        have hd := lth_drop zss k hlt
        rw [hd] at HO
        unfold rckG at HO
        by_cases hlen : ((lth zss k).length : Int) = wd ∧ wd ≤ c
        · rw [if_pos hlen] at HO
          obtain ⟨hq1, hq2⟩ := hlen
          have hll : zss.take k = zss.take k := rfl
          have hnk : (zss.take k).length = k := by rw [List.length_take]; omega
          have HMET := Lib.hid (fun (W : World) (F : Fut w W) (d : Nat) (s : Int) (hd : d < (lth zss k).length) => (by
            have := rmet_any (some ⟨bb, off, none⟩) cap (zss.take k) d s W ((HL.out.fut F).take k).lst (by omega) (fun j hj => by
              rw [hnk] at hj
              rw [lth_take _ _ _ hj]
              have := HB.out j hj
              omega)
            rw [hnk, metB_tkn (fun l hl => by
              obtain ⟨j, hj, rfl⟩ := List.getElem_of_mem hl
              rw [hnk] at hj
              have e : (zss.take k)[j] = lth zss j := by rw [lth_eq, List.getElem_take, List.getElem?_eq_getElem (by omega)]; rfl
              rw [e]
              have := HB.out j hj
              omega)] at this
            exact this : Calls Try.prog 70 #[.slice (some ⟨bb, off, none⟩) k cap, .int .i64 d, .int .i64 s] W fun e w' => e = .returned (.bool (tkn (zss.take k) d s)) ∧ W = w'))
          have HAM : Hid (amE c (zss.take k) (lth zss k) = amG c (zss.take k) (lth zss k) ((lth zss k).drop 0) 0) := Lib.hid rfl
          have HII := Lib.hid hI
          have HB2 : Hid (∀ j, j < k + 1 → ((lth zss j).length : Int) = wd) := Lib.hid (fun j hj => by
            rcases Nat.lt_or_ge j k with h | h
            · exact HB.out j h
            · obtain rfl : j = k := by omega
              exact hq1)
          generalize hzs : lth zss k = zs at *
          have hsl2 := fun W => slice_to22 bb off zss.length cap k (by have := HCP.out; omega) W
          generalize hA : amE c (zss.take k) zs = A at *
          have HAA := Lib.hid hA
          generalize zss.take k = pre at *
          have hz5 : zs.length ≤ 5 := by omega
          clear hd hI hA hzs hll hnk
          subst hq1
          have hwx : (zs.length : Int) ≤ c := hq2
          go_wp2_with fail
          have HCA := Lib.hid (fun (j : Nat) (x : Int) (W : World) (b o : Nat) (h : j < zs.length) (hJ : IntsAt W (some ⟨b, o, none⟩) zs) => (by
            have := rhas_any (some ⟨b, o, none⟩) lc (zs.take j) x W (hJ.take j) (by rw [List.length_take]; omega)
            rw [List.length_take, Nat.min_eq_left (by omega)] at this
            exact this : Calls Try.prog 115 #[.slice (some ⟨b, o, none⟩) j lc, .int .i64 x] W fun e w' => e = .returned (.bool ((zs.take j).contains x)) ∧ W = w'))
          generalize hw1 : wr = w1 at *
          clear hw1
          go_loopw [8] (fun jv wq => ∃ j : Nat, j ≤ zs.length ∧ jv = .int .i64 j ∧ Hid (amG c pre zs (zs.drop j) j = A) ∧ Hid (Fut w1 wq)) (fun jv _ => zs.length - (intOf jv).toNat)
          case atStart => exact ⟨0, Nat.zero_le _, rfl, Lib.hid HAM.out.symm, Lib.hid Fut.rfl⟩
          case round =>
            obtain ⟨j, hj, rfl, HG, HW⟩ := hrel
            have HFW := Lib.hid (HF.out.trans HW.out)
            have d3 : wr.cell? ⟨bb, off + k, none⟩ = some (.slice l zs.length lc) := (RowKit.Below.cell HW.out (p := ⟨bb, off + k, none⟩) (World.block_lt_of_cell? _ _ d2)).trans d2
            by_cases hjl : j < zs.length
            · have hjx : (j : Int) < zs.length := by omega
              have hIW := HII.out.fut HFW.out
              obtain ⟨b2, off2, ea2, hb2, e2⟩ := hIW j hjl
              subst ea2
              have hdj := nth_drop zs j hjl
              rw [hdj] at HG
              have hsl := fun W => slice_to28 b2 off2 zs.length lc j (by omega) W
              have HCJ := Lib.hid (fun q x => HCA.out j x (wr.drewN q) b2 off2 hjl (hIW.fut (Fut.drewN wr q)))
              have HMJ := Lib.hid (fun (W : World) F s => HMET.out W F j s hjl)
              generalize nth zs j = z at *
              have HQ := Lib.hid (rin_any z 0 (c - 1) wr)
              have hin : (decide (0 ≤ z) && decide (z ≤ c - 1)) = inB c z := by unfold inB; rw [Bool.eq_iff_iff]; simp; omega
              rw [hin] at HQ
              clear hdj hIW hin
              unfold amG at HG
              by_cases h1 : inB c z = false
              · rw [if_pos h1] at HG
                rw [h1] at HQ
                have hA : A = 2 := HG.out.symm
                subst hA
                have hE : E = 2 := by have := HO.out; rw [if_neg (by decide)] at this; exact this.symm
                subst hE
                clear h1 hsl hsl2
                go_wp2_with fail
                refine HQ.out.mono ?_
                rintro _ _ ⟨rfl, rfl⟩
                go_wp2
                go_ret
                exact ⟨rfl, HFW.out⟩
              · rw [if_neg h1] at HG
                have h1' : inB c z = true := by simpa using h1
                rw [h1'] at HQ
                clear h1 h1'
                by_cases h2 : (zs.take j).contains z = true
                · rw [if_pos h2] at HG
                  have HXZ := Lib.hid (fun q => HCJ.out q z)
                  rw [h2] at HXZ
                  have hA : A = 6 := HG.out.symm
                  subst hA
                  have hE : E = 6 := by have := HO.out; rw [if_neg (by decide)] at this; exact this.symm
                  subst hE
                  clear h2
                  go_wp2_with fail
                  refine HQ.out.mono ?_
                  rintro _ _ ⟨rfl, rfl⟩
                  go_upto_region 15 with fail
                  go_quiet (first | (go_at_call 115; exact Calls.quiet_of_same ((HXZ.out _).mono fun _ _ ⟨h, h'⟩ => ⟨h, h'.symm⟩)))
                  go_wp2
                  go_ret
                  exact ⟨rfl, HFW.out.trans (Fut.drewN _ _)⟩
                · rw [if_neg h2] at HG
                  have h2' : (zs.take j).contains z = false := by simpa using h2
                  have HXZ := Lib.hid (fun q => HCJ.out q z)
                  rw [h2'] at HXZ
                  clear h2 h2'
                  go_wp2_with fail
                  refine HQ.out.mono ?_
                  rintro _ _ ⟨rfl, rfl⟩
                  go_upto_region 15 with fail
                  go_quiet (first | (go_at_call 115; exact Calls.quiet_of_same ((HXZ.out _).mono fun _ _ ⟨h, h'⟩ => ⟨h, h'.symm⟩)))
                  have hF6 : Fut wr (wr.drewN nq) := Fut.drewN wr nq
                  have d4 : (wr.drewN nq).cell? ⟨bb, off + k, none⟩ = some (.slice (some ⟨b2, off2, none⟩) zs.length lc) := d3
                  have e4 : (wr.drewN nq).cell? ⟨b2, off2 + j, none⟩ = some (.int .i64 z) := e2
                  have HF6 := Lib.hid (HFW.out.trans hF6)
                  have HW6 := Lib.hid (HW.out.trans hF6)
                  clear d3 e2 hF6
                  generalize wr.drewN nq = w6 at *
                  have HMZ := Lib.hid (fun q => HMJ.out (w6.drewN q) (HF6.out.trans (Fut.drewN w6 q)) z)
                  cases htk : tkn pre j z
                  · rw [htk] at HMZ HG
                    simp only [Bool.false_eq_true, if_false] at HG
                    clear htk
                    go_upto_region 17 with fail
                    go_quiet (first | (go_at_call 70; exact Calls.quiet_of_same ((HMZ.out _).mono fun _ _ ⟨h, h'⟩ => ⟨h, h'.symm⟩)))
                    have HW7 := Lib.hid (HW6.out.trans (Fut.drewN w6 nq))
                    clear d4 e4 hsl hsl2
                    generalize w6.drewN nq = w7 at *
                    go_wp2
                    go_round
                    case rel => exact ⟨j + 1, by omega, by go_num, HG, HW7⟩
                    case measure => simp [intOf]; omega
                  · rw [htk] at HMZ HG
                    simp only [if_true] at HG
                    have hA : A = 13 := HG.out.symm
                    subst hA
                    have hE : E = 13 := by have := HO.out; rw [if_neg (by decide)] at this; exact this.symm
                    subst hE
                    clear htk
                    go_upto_region 17 with fail
                    go_quiet (first | (go_at_call 70; exact Calls.quiet_of_same ((HMZ.out _).mono fun _ _ ⟨h, h'⟩ => ⟨h, h'.symm⟩)))
                    have HF7 := Lib.hid (HF6.out.trans (Fut.drewN w6 nq))
                    clear d4 e4 hsl hsl2
                    generalize w6.drewN nq = w7 at *
                    go_wp2
                    go_ret
                    exact ⟨rfl, HF7.out⟩
            · obtain rfl : j = zs.length := by omega
              rw [List.drop_of_length_le (Nat.le_refl _)] at HG
              have hA : A = 0 := HG.out.symm
              subst hA
              rw [if_pos rfl] at HO
              clear hsl2
              go_wp2
              go_round
              case rel => exact ⟨k + 1, by omega, by go_num, HO, HB2, HFW⟩
              case measure => simp [intOf]; omega
        · rw [if_neg hlen] at HO
          have hE : E = 5 := HO.out.symm
          subst hE
          generalize (lth zss k).length = n at *
          clear hd hI
          by_cases hq : (n : Int) = wd
          · have hq' : ¬ wd ≤ c := fun h => hlen ⟨hq, h⟩
            clear hlen
            subst hq
            go_wp2
            go_ret
            exact ⟨rfl, HF.out⟩
          · clear hlen
            go_wp2
            go_ret
            exact ⟨rfl, HF.out⟩
      · obtain rfl : k = zss.length := by omega
        rw [List.drop_of_length_le (Nat.le_refl _)] at HO
        have hE : E = 0 := HO.out.symm
        subst hE
        go_wp2
        go_ret
        exact ⟨rfl, HF.out⟩
  · rw [if_neg hs]
    have hi1 : sizeE c zss.length = (if (decide (1 ≤ c) && decide (c ≤ 5)) = true then 3 else 1) := by
      unfold sizeE at hs ⊢
      by_cases h1 : c < 1 ∨ 5 < c
      · rw [if_pos h1, if_neg (by simp; omega)]
      · rw [if_neg h1] at hs ⊢
        by_cases h2 : c < zss.length
        · rw [if_pos h2, if_pos (by simp; omega)]
        · rw [if_neg h2] at hs; exact absurd rfl hs
    have hi2 : (decide (1 ≤ c) && decide (c ≤ 5)) = true → c < zss.length := fun h => by
      unfold sizeE at hs
      simp at h
      rw [if_neg (by omega)] at hs
      by_cases h2 : c < zss.length
      · exact h2
      · rw [if_neg h2] at hs; exact absurd rfl hs
    rw [hi1]
    clear hL hs hi1 hcap
    generalize (decide (1 ≤ c) && decide (c ≤ 5)) = b at *
    cases b
    · have H2 := Lib.hid hi2
      clear hi2
      go_enter Try.func78, Try.ntmps78
      go_wp2_with fail
      refine (HI.out _).mono ?_
      rintro _ _ ⟨rfl, rfl⟩
      go_wp2
      go_ret
      exact ⟨rfl, Fut.rfl⟩
    · have h2 := hi2 rfl
      clear hi2
      go_enter Try.func78, Try.ntmps78
      go_wp2_with fail
      refine (HI.out _).mono ?_
      rintro _ _ ⟨rfl, rfl⟩
      go_wp2
      go_ret
      exact ⟨rfl, Fut.rfl⟩
theorem rck_chk (c : Int) (zss : List (List Int)) : rckE c c zss = chkE c zss := by
  unfold rckE chkE
  have key : ∀ (t : List (List Int)) (k : Nat), rckG c c zss t k = chG c zss t k := by
    intro t
    induction t with
    | nil => intro k; rfl
    | cons l t ih =>
      intro k
      unfold rckG chG
      rw [ih (k + 1)]
      by_cases h : (l.length : Int) = c
      · rw [if_pos ⟨h, Int.le_refl _⟩, if_pos h]
      · rw [if_neg (fun q => h q.1), if_neg h]
  rw [key]
theorem rck_cor (c : Int) (zss : List (List Int)) : rckE c ((lth zss 0).length : Int) zss = corE c zss := by
  unfold rckE corE
  have key : ∀ (t : List (List Int)) (k : Nat), rckG c ((lth zss 0).length : Int) zss t k = coG c zss t k := by
    intro t
    induction t with
    | nil => intro k; rfl
    | cons l t ih =>
      intro k
      unfold rckG coG
      rw [ih (k + 1)]
      by_cases h : l.length = (lth zss 0).length ∧ (l.length : Int) ≤ c
      · rw [if_pos ⟨by omega, by omega⟩, if_pos h]
      · rw [if_neg (fun q => h ⟨by omega, by omega⟩), if_neg h]
  rw [key]
theorem rcheck_any (c : Int) (a : Option Addr) (cap : Nat) (zss : List (List Int)) (w : World) (hL : LstC w a zss) (hcap : zss.length ≤ cap) (hcm : cap ≤ 9223372036854775807) :
    Calls Try.prog 25 #[.int .i64 c, .slice a zss.length cap] w fun e w' => e = .returned (.int .i64 (chkE c zss)) ∧ Fut w w' := by
  have H := Lib.hid (rchecked_any c c a cap zss w hL hcap hcm)
  rw [rck_chk] at H
  clear hL
  generalize chkE c zss = E at *
  go_enter Try.func25, Try.ntmps25
  go_wp2_with fail
  refine H.out.mono ?_
  rintro _ w1 ⟨rfl, F⟩
  have HF := Lib.hid F
  clear F
  go_wp2
  go_ret
  exact ⟨rfl, HF.out⟩
end
section
theorem rwide_any (a : Option Addr) (cap : Nat) (zss : List (List Int)) (w : World) (hL : LstC w a zss) (hcap : zss.length ≤ cap) (hcm : cap ≤ 9223372036854775807) :
    Calls Try.prog 90 #[.slice a zss.length cap] w fun e w' => e = .returned (.int .i64 ((lth zss 0).length : Int)) ∧ w = w' := by
  have hlx : (zss.length : Int) ≤ 9223372036854775807 := by omega
  by_cases h0 : zss.length = 0
  · have e : (lth zss 0).length = 0 := by rw [lth_eq, List.getElem?_eq_none (by omega)]; rfl
    rw [e]
    have hb : ((zss.length : Int) == 0) = true := by rw [h0]; rfl
    clear hL
    go_enter Try.func90, Try.ntmps90
    go_wp2
    go_ret
    exact ⟨rfl, rfl⟩
  · obtain ⟨bb, off, l, lc, ea, hbb, d1, hlc, hcc, hI⟩ := hL 0 (by omega)
    subst ea
    rw [Nat.add_zero] at d1
    generalize (lth zss 0).length = n at *
    have hb : ((zss.length : Int) == 0) = false := by rw [beq_eq_false_iff_ne]; omega
    have hp : (0 : Int) < zss.length := by omega
    clear hL hI
    go_enter Try.func90, Try.ntmps90
    go_wp2
    go_ret
    exact ⟨rfl, rfl⟩
theorem rcorner_any (c : Int) (a : Option Addr) (cap : Nat) (zss : List (List Int)) (w : World) (hL : LstC w a zss) (hcap : zss.length ≤ cap) (hcm : cap ≤ 9223372036854775807) :
    Calls Try.prog 43 #[.int .i64 c, .slice a zss.length cap] w fun e w' => e = .returned (.int .i64 (corE c zss)) ∧ Fut w w' := by
  have HW := Lib.hid (rwide_any a cap zss w hL hcap hcm)
  have H := Lib.hid (rchecked_any c ((lth zss 0).length : Int) a cap zss w hL hcap hcm)
  rw [rck_cor] at H
  clear hL
  generalize corE c zss = E at *
  generalize (lth zss 0).length = n at *
  go_enter Try.func43, Try.ntmps43
  go_wp2_with fail
  refine HW.out.mono ?_
  rintro _ _ ⟨rfl, rfl⟩
  go_wp2_with fail
  refine H.out.mono ?_
  rintro _ w1 ⟨rfl, F⟩
  have HF := Lib.hid F
  clear F
  go_wp2
  go_ret
  exact ⟨rfl, HF.out⟩
theorem ropen_any (c : Int) (a : Option Addr) (cap : Nat) (zss : List (List Int)) (w : World) (hL : LstC w a zss) (hcap : zss.length ≤ cap) (hcm : cap ≤ 9223372036854775807) :
    Calls Try.prog 74 #[.int .i64 c, .slice a zss.length cap] w fun e w' => e = .returned (.int .i64 (opnE c zss)) ∧ Fut w w' := by
  have HC := Lib.hid (rcheck_any c a cap zss w hL hcap hcm)
  unfold opnE
  clear hL
  by_cases hs : chkE c zss = 0
  · rw [if_pos hs]
    rw [hs] at HC
    clear hs
    by_cases hq : (zss.length : Int) = c
    · rw [if_pos hq]
      have hqb : ((zss.length : Int) == c) = true := by rw [hq]; simp
      clear hq
      go_enter Try.func74, Try.ntmps74
      go_wp2_with fail
      refine HC.out.mono ?_
      rintro _ w1 ⟨rfl, F⟩
      have HF := Lib.hid F
      clear F
      go_wp2
      go_ret
      exact ⟨rfl, HF.out⟩
    · rw [if_neg hq]
      have hqb : ((zss.length : Int) == c) = false := by rw [beq_eq_false_iff_ne]; exact hq
      go_enter Try.func74, Try.ntmps74
      go_wp2_with fail
      refine HC.out.mono ?_
      rintro _ w1 ⟨rfl, F⟩
      have HF := Lib.hid F
      clear F
      go_wp2
      go_ret
      exact ⟨rfl, HF.out⟩
  · rw [if_neg hs]
    generalize chkE c zss = E at *
    have hsb : (E == 0) = false := by rw [beq_eq_false_iff_ne]; exact hs
    go_enter Try.func74, Try.ntmps74
    go_wp2_with fail
    refine HC.out.mono ?_
    rintro _ w1 ⟨rfl, F⟩
    have HF := Lib.hid F
    clear F
    go_wp2
    go_ret
    exact ⟨rfl, HF.out⟩
end
section
def frR (zss : List (List Int)) (n i : Nat) : List (List Int) := (List.range i).map fun d => frT zss d n
theorem frR_succ (zss : List (List Int)) (n i : Nat) : frR zss n (i + 1) = frR zss n i ++ [frT zss i n] := by unfold frR; rw [List.range_succ, List.map_append]; rfl
theorem frR_len (zss : List (List Int)) (n i : Nat) : (frR zss n i).length = i := by unfold frR; simp
set_option maxRecDepth 100000 in
set_option maxHeartbeats 4000000 in
theorem rfree_any (c : Int) (a : Option Addr) (cap : Nat) (zss : List (List Int)) (w : World) (hL : LstC w a zss) (hcap : zss.length ≤ cap) (hcm : cap ≤ 9223372036854775807) :
    Calls Try.prog 19 #[.int .i64 c, .slice a zss.length cap] w (TupLC (chkE c zss) (freeE c zss) w) := by
  have HC := Lib.hid (rcheck_any c a cap zss w hL hcap hcm)
  unfold freeE
  by_cases hs : chkE c zss = 0
  · rw [if_pos hs]
    rw [hs] at HC ⊢
    obtain ⟨c1, c5, hn, hrow⟩ := chk_rows hs
    obtain ⟨n, rfl⟩ := Int.eq_ofNat_of_zero_le (show 0 ≤ c by omega)
    have hn5 : n ≤ 5 := by omega
    rw [show ((n : Int)).toNat = n by simp]
    have HT := Lib.hid (fun (d : Nat) (s : Int) (W : World) (F : Fut w W) (h : d < n) => (by
      have := rmet_any a cap zss d s W (hL.lst.fut F) (by omega) (fun k hk => by have := (hrow k hk).1; omega)
      rw [metB_tkn (fun l hl => by
        obtain ⟨j, hj, rfl⟩ := List.getElem_of_mem hl
        have e : zss[j] = lth zss j := by rw [lth_eq, List.getElem?_eq_getElem hj]; rfl
        rw [e]
        have := (hrow j hj).1
        omega)] at this
      exact this : Calls Try.prog 70 #[.slice a zss.length cap, .int .i64 d, .int .i64 s] W fun e w' => e = .returned (.bool (tkn zss d s)) ∧ W = w'))
    have HLE := Lib.hid (frT_len zss)
    have HFR : Hid (∀ d s, frT zss d (s + 1) = if tkn zss d s = true then frT zss d s else frT zss d s ++ [(s : Int)]) := Lib.hid (fun d s => rfl)
    have HRR := Lib.hid (frR_succ zss n)
    have HRN := Lib.hid (frR_len zss n)
    have HF0 : Hid (∀ d, frT zss d 0 = []) := Lib.hid (fun d => rfl)
    have HR0 : Hid (frR zss n 0 = []) := Lib.hid rfl
    have hRE : (List.range n).map (fun d => frT zss d n) = frR zss n n := rfl
    rw [hRE]
    obtain ⟨i0, hi0, hz0, hz1, hz2⟩ := info_parts info3
    obtain ⟨i1, hi1, hy0, hy1, hy2⟩ := info_parts info28
    have hnx : (n : Int) ≤ 5 := by omega
    clear hL hrow hs hcap hcm hRE
    generalize frR zss n = fR at *
    generalize frT zss = fr at *
    go_enter Try.func19, Try.ntmps19
    go_wp2_with fail
    refine HC.out.mono ?_
    rintro _ w1 ⟨rfl, F⟩
    have HF1 := Lib.hid F
    clear F
    go_wp2_with fail
    go_loopw [7, 8] (fun ov iv wr => ∃ i : Nat, i ≤ n ∧ iv = .int .i64 i ∧ Hid (OwnL wr w.heap.size ov (fR i)) ∧ Hid (Fut w wr)) (fun _ iv _ => n - (intOf iv).toNat)
    case atStart => exact ⟨0, Nat.zero_le _, rfl, Lib.hid (by rw [HR0.out]; exact OwnL.nil _ _), HF1⟩
    case round =>
      obtain ⟨i, hi, rfl, HO, HF⟩ := hrel
      by_cases hlt : i < n
      · have hix : (i : Int) < n := by omega
        go_wp2_with fail
        generalize wr = w0 at *
        go_loopw [9, 10] (fun lv jv wq => ∃ j : Nat, j ≤ n ∧ jv = .int .i64 j ∧ Hid (Owns wq w0.heap.size lv (fr i j)) ∧ Hid (Fut w0 wq)) (fun _ jv _ => n - (intOf jv).toNat)
        case atStart => exact ⟨0, Nat.zero_le _, rfl, Lib.hid (by rw [HF0.out]; exact World.ownsRow_nil _ _ _ _), Lib.hid Fut.rfl⟩
        case round =>
          obtain ⟨j, hj, rfl, HR, HB⟩ := hrel
          by_cases hjl : j < n
          · have hjx : (j : Int) < n := by omega
            have HTJ := Lib.hid (HT.out i (j : Int) wr (HF.out.trans HB.out) hlt)
            have HS := Lib.hid (HFR.out i j)
            have HRL := Lib.hid (HLE.out i j)
            cases htk : tkn zss i (j : Int)
            · rw [htk] at HTJ HS
              simp only [Bool.false_eq_true, if_false] at HS
              clear htk
              generalize hrn : fr i (j + 1) = rn at *
              have HRX := Lib.hid hrn
              clear hrn
              generalize fr i j = rj at *
              obtain ⟨av, ac, hav, hl1, hl2, _⟩ := HR.out.form
              subst hav
              go_wp2_with fail
              refine HTJ.out.mono ?_
              rintro _ _ ⟨rfl, rfl⟩
              go_wp2_with (at_builtin; refine wpList_append_own _ rfl _ _ 28 rfl w0.heap.size 3 i0 (.int .i64 0) 1 8 Try.underlying28 hi0 hz0 hz1 hz2 rfl (by decide) _ _ _ rfl (HR.out.fut (Fut.alloc _ _)) ⟨wr.heap.size, 0, none⟩ 1 1 [.int .i64 (j : Int)] rfl rfl (cell_one (by simp [go_sem])) (by simp [Value.oneCell']) (by have := HRL.out; unfold maxLen; omega) (by have := HRL.out; omega) (by have := RowKit.Below.size HB.out; simp; omega) ?_)
              intro v' w7 hown' hgrow _
              have HR7 : Hid (Owns w7 w0.heap.size v' rn) := Lib.hid (by rw [HS.out]; unfold Owns; simpa using hown')
              have HB7 : Hid (Fut w0 w7) := Lib.hid (RowKit.Below.grown (HB.out.trans (Fut.alloc _ _)) hgrow (RowKit.Below.size (HB.out.trans (Fut.alloc _ _))) (fun q hq => (World.ownsRow.lt (HR.out.fut (Fut.alloc wr (.cells #[.int .i64 (j : Int)] 3))) q hq).1))
              clear hown' hgrow
              go_wp2
              go_round
              case rel => exact ⟨j + 1, by omega, by go_num, by rw [HRX.out]; exact HR7, HB7⟩
              case measure => simp [intOf]; omega
            · rw [htk] at HTJ HS
              simp only [if_true] at HS
              clear htk
              go_wp2_with fail
              refine HTJ.out.mono ?_
              rintro _ _ ⟨rfl, rfl⟩
              rw [← HS.out] at HR
              go_wp2
              go_round
              case rel => exact ⟨j + 1, by omega, by go_num, HR, HB⟩
              case measure => simp [intOf]; omega
          · obtain rfl : j = n := by omega
            have HRS := Lib.hid (HRR.out i)
            have HRL := Lib.hid (HRN.out i)
            have HQL := Lib.hid (HLE.out i j)
            have HO2 := Lib.hid (HO.out.fut HB.out)
            generalize hRn : fR (i + 1) = Rn at *
            have HRX := Lib.hid hRn
            clear hRn
            generalize fR i = Ri at *
            generalize fr i j = rw' at *
            obtain ⟨av, ac, hav, hl1, hl2, _⟩ := HR.out.form
            subst hav
            obtain ⟨vals, hO1, hE1⟩ := HO2.out
            have hb0 : w.heap.size ≤ w0.heap.size := RowKit.Below.size HF.out
            have hbq : w0.heap.size ≤ wr.heap.size := RowKit.Below.size HB.out
            go_wp2_with (at_builtin; refine wpList_append_own _ rfl _ _ 22 rfl w.heap.size 28 i1 (.slice none 0 0) 1 24 Try.underlying22 hi1 hy0 hy1 hy2 rfl (by decide) _ _ _ rfl (row_fut hO1 (Fut.alloc _ _)) ⟨wr.heap.size, 0, none⟩ 1 1 [.slice av rw'.length ac] rfl rfl (cell_one (by simp [go_sem])) (by simp [Value.oneCell']) (by have := HRL.out; unfold maxLen; omega) (by have := HRL.out; omega) (by simp; omega) ?_)
            intro v' w7 hown' hgrow _
            have hOA := row_fut hO1 (Fut.alloc wr (.cells #[.slice av rw'.length ac] 28))
            have HO7 : Hid (OwnL w7 w.heap.size v' Rn) := Lib.hid (by
              rw [HRS.out]
              refine ⟨vals ++ [.slice av rw'.length ac], ?_, Elems.app (hE1.fut (Fut.alloc _ _)) ((HR.out.base hb0).fut (Fut.alloc _ _)) hOA hgrow⟩
              have e : (Ri ++ [rw']).length = Ri.length + 1 := by simp
              rw [e]
              simpa using hown')
            have HF7 : Hid (Fut w w7) := Lib.hid (RowKit.Below.grown ((HF.out.trans HB.out).trans (Fut.alloc _ _)) hgrow (by simp; omega) (fun q hq => (World.ownsRow.lt hOA q hq).1))
            clear hown' hgrow hOA
            go_wp2
            go_round
            case rel => exact ⟨i + 1, by omega, by go_num, by rw [HRX.out]; exact HO7, HF7⟩
            case measure => simp [intOf]; omega
      · obtain rfl : i = n := by omega
        obtain ⟨l, lc, e, q1, q2, hL⟩ := HO.out.listsC
        subst e
        go_wp2
        go_ret2
        exact ⟨_, _, rfl, q1, q2, hL, HF.out⟩
  · rw [if_neg hs]
    clear hL
    generalize chkE c zss = E at *
    go_enter Try.func19, Try.ntmps19
    go_wp2_with fail
    refine HC.out.mono ?_
    rintro _ w1 ⟨rfl, F⟩
    have HF := Lib.hid F
    clear F
    go_wp2
    go_ret2
    exact TupLC.nil E HF.out
end
section
set_option maxRecDepth 100000 in
set_option maxHeartbeats 4000000 in
theorem rround_any (n : Nat) (h1 : 1 ≤ n) (h5 : n ≤ 5) (w : World) : Calls Try.prog 33 #[.int .i64 n] w (TupLC 0 (gridL n n (rndF n)) w) := by
  have HI := Lib.hid (fun W => rin_any (n : Int) 1 5 W)
  have hi1' : (decide ((1 : Int) ≤ n) && decide ((n : Int) ≤ 5)) = true := by rw [decide_eq_true (show (1 : Int) ≤ n by omega), decide_eq_true (show (n : Int) ≤ 5 by omega)]; rfl
  rw [hi1'] at HI
  obtain ⟨i0, hi0, hz0, hz1, hz2⟩ := info_parts info3
  obtain ⟨i1, hi1, hy0, hy1, hy2⟩ := info_parts info28
  have hnx : (n : Int) ≤ 5 := by omega
  have hn1 : ¬ n = 0 := by omega
  have hn2 : ¬ (n : Int) = 0 := by omega
  have hn3 : ((n : Int) == 0) = false := by rw [beq_eq_false_iff_ne]; exact hn2
  go_enter Try.func33, Try.ntmps33
  go_wp2_with fail
  refine (HI.out _).mono ?_
  rintro _ _ ⟨rfl, rfl⟩
  go_wp2_with fail
  go_loopw [4, 5] (fun ov iv wr => ∃ i : Nat, i ≤ n ∧ iv = .int .i64 i ∧ Hid (OwnL wr w.heap.size ov (rowsR n i)) ∧ Hid (Fut w wr)) (fun _ iv _ => n - (intOf iv).toNat)
  case atStart => exact ⟨0, Nat.zero_le _, rfl, Lib.hid (OwnL.nil _ _), Lib.hid Fut.rfl⟩
  case round =>
    obtain ⟨i, hi, rfl, HO, HF⟩ := hrel
    by_cases hlt : i < n
    · have hix : (i : Int) < n := by omega
      go_wp2_with fail
      generalize wr = w0 at *
      go_loopw [6, 7] (fun lv jv wq => ∃ j : Nat, j ≤ n ∧ jv = .int .i64 j ∧ Hid (Owns wq w0.heap.size lv (rowR n i j)) ∧ Hid (Fut w0 wq)) (fun _ jv _ => n - (intOf jv).toNat)
      case atStart => exact ⟨0, Nat.zero_le _, rfl, Lib.hid (World.ownsRow_nil _ _ _ _), Lib.hid Fut.rfl⟩
      case round =>
        obtain ⟨j, hj, rfl, HR, HB⟩ := hrel
        by_cases hjl : j < n
        · have hjx : (j : Int) < n := by omega
          have hrem : ((i : Int) + (j : Int)).tmod (n : Int) = rndF n i j := by
            unfold rndF
            rw [Int.tmod_eq_emod_of_nonneg (by omega), Int.natCast_emod, Int.natCast_add]
          have hwr1 : IntKind.i64.wrap ((i : Int) + (j : Int)) = (i : Int) + (j : Int) := IntWalk.i64_in _ ⟨by omega, by omega⟩
          have hr0 : 0 ≤ rndF n i j ∧ rndF n i j < n := by
            unfold rndF
            have := Nat.mod_lt (i + j) (show 0 < n by omega)
            omega
          obtain ⟨hr1, hr2⟩ := hr0
          have hwr2 : IntKind.i64.wrap (rndF n i j) = rndF n i j := IntWalk.i64_in _ ⟨by omega, by omega⟩
          have HS := Lib.hid (rowR_succ n i j)
          have HRL := Lib.hid (rowR_len n i j)
          generalize rndF n i j = rd at *
          generalize hrn : rowR n i (j + 1) = rn at *
          have HRN := Lib.hid hrn
          clear hrn
          generalize rowR n i j = rj at *
          obtain ⟨av, ac, hav, hl1, hl2, _⟩ := HR.out.form
          subst hav
          go_wp2_with (at_builtin; refine wpList_append_own _ rfl _ _ 28 rfl w0.heap.size 3 i0 (.int .i64 0) 1 8 Try.underlying28 hi0 hz0 hz1 hz2 rfl (by decide) _ _ _ rfl (HR.out.fut (Fut.alloc _ _)) ⟨wr.heap.size, 0, none⟩ 1 1 [.int .i64 rd] rfl rfl (cell_one (by simp [go_sem])) (by simp [Value.oneCell']) (by have := HRL.out; unfold maxLen; omega) (by have := HRL.out; omega) (by have := RowKit.Below.size HB.out; simp; omega) ?_)
          intro v' w7 hown' hgrow _
          have HR7 : Hid (Owns w7 w0.heap.size v' rn) := Lib.hid (by rw [HS.out]; unfold Owns; simpa using hown')
          have HB7 : Hid (Fut w0 w7) := Lib.hid (RowKit.Below.grown (HB.out.trans (Fut.alloc _ _)) hgrow (RowKit.Below.size (HB.out.trans (Fut.alloc _ _))) (fun q hq => (World.ownsRow.lt (HR.out.fut (Fut.alloc wr (.cells #[.int .i64 rd] 3))) q hq).1))
          clear hown' hgrow hwr1 hwr2 hrem
          go_wp2
          go_round
          case rel => exact ⟨j + 1, by omega, by go_num, by rw [HRN.out]; exact HR7, HB7⟩
          case measure => simp [intOf]; omega
        · obtain rfl : j = n := by omega
          have HRS := Lib.hid (rowsR_succ j i)
          have HRL := Lib.hid (rowsR_len j i)
          have HQL := Lib.hid (rowR_len j i j)
          have HO2 := Lib.hid (HO.out.fut HB.out)
          generalize hRn : rowsR j (i + 1) = Rn at *
          have HRN := Lib.hid hRn
          clear hRn
          generalize rowsR j i = Ri at *
          generalize rowR j i j = rw' at *
          obtain ⟨av, ac, hav, hl1, hl2, _⟩ := HR.out.form
          subst hav
          obtain ⟨vals, hO1, hE1⟩ := HO2.out
          have HV := Lib.hid hE1
          have hb0 : w.heap.size ≤ w0.heap.size := RowKit.Below.size HF.out
          have hbq : w0.heap.size ≤ wr.heap.size := RowKit.Below.size HB.out
          go_wp2_with (at_builtin; refine wpList_append_own _ rfl _ _ 22 rfl w.heap.size 28 i1 (.slice none 0 0) 1 24 Try.underlying22 hi1 hy0 hy1 hy2 rfl (by decide) _ _ _ rfl (row_fut hO1 (Fut.alloc _ _)) ⟨wr.heap.size, 0, none⟩ 1 1 [.slice av rw'.length ac] rfl rfl (cell_one (by simp [go_sem])) (by simp [Value.oneCell']) (by have := HRL.out; unfold maxLen; omega) (by have := HRL.out; omega) (by simp; omega) ?_)
          intro v' w7 hown' hgrow _
          have hOA := row_fut hO1 (Fut.alloc wr (.cells #[.slice av rw'.length ac] 28))
          have HO7 : Hid (OwnL w7 w.heap.size v' Rn) := Lib.hid (by
            rw [HRS.out]
            refine ⟨vals ++ [.slice av rw'.length ac], ?_, Elems.app (hE1.fut (Fut.alloc _ _)) ((HR.out.base hb0).fut (Fut.alloc _ _)) hOA hgrow⟩
            have e : (Ri ++ [rw']).length = Ri.length + 1 := by simp
            rw [e]
            simpa using hown')
          have HF7 : Hid (Fut w w7) := Lib.hid (RowKit.Below.grown ((HF.out.trans HB.out).trans (Fut.alloc _ _)) hgrow (by simp; omega) (fun q hq => (World.ownsRow.lt hOA q hq).1))
          clear hown' hgrow hOA
          go_wp2
          go_round
          case rel => exact ⟨i + 1, by omega, by go_num, by rw [HRN.out]; exact HO7, HF7⟩
          case measure => simp [intOf]; omega
    · obtain rfl : i = n := by omega
      obtain ⟨l, lc, e, q1, q2, hL⟩ := HO.out.listsC
      rw [rowsR_len] at e q1
      subst e
      rw [rowsR_grid] at hL
      go_wp2
      go_ret2
      have el := gridL_len i i (rndF i)
      exact ⟨_, _, by rw [el]; rfl, by rw [el]; exact q1, q2, hL, HF.out⟩

theorem rround_no (c : Int) (h : sizeE c 0 ≠ 0) (w : World) : Calls Try.prog 33 #[.int .i64 c] w fun e w' => e = .returned (.tuple #[.slice none 0 0, .int .i64 (sizeE c 0)]) ∧ w = w' := by
  have HI := Lib.hid (fun W => rin_any c 1 5 W)
  have h1 : c < 1 ∨ 5 < c := by
    unfold sizeE at h
    by_cases h1 : c < 1 ∨ 5 < c
    · exact h1
    · rw [if_neg h1, if_neg (by omega)] at h; exact absurd rfl h
  have hi : (decide ((1 : Int) ≤ c) && decide (c ≤ 5)) = false := by
    rw [Bool.eq_false_iff]; simp; omega
  have he : sizeE c 0 = 1 := by unfold sizeE; rw [if_pos h1]
  rw [hi] at HI
  rw [he]
  clear h h1 hi he
  go_enter Try.func33, Try.ntmps33
  go_wp2_with fail
  refine (HI.out _).mono ?_
  rintro _ _ ⟨rfl, rfl⟩
  go_wp2
  go_ret2
  exact ⟨rfl, rfl⟩
end
section
/-- how many lists hold a street. -/
def hasN (zss : List (List Int)) (s : Int) (k : Nat) : Nat := ((zss.take k).filter fun l => l.contains s).length
theorem hasN_zero (zss : List (List Int)) (s : Int) : hasN zss s 0 = 0 := by unfold hasN; simp
theorem hasN_succ (zss : List (List Int)) (s : Int) (k : Nat) (hk : k < zss.length) : hasN zss s (k + 1) = hasN zss s k + (if (lth zss k).contains s = true then 1 else 0) := by
  unfold hasN
  have e : zss.take (k + 1) = zss.take k ++ [lth zss k] := by
    rw [List.take_add_one, lth_eq, List.getElem?_eq_getElem hk]; rfl
  rw [e, List.filter_append, List.length_append]
  have key : ∀ (p : List Int → Bool) (x : List Int), (List.filter p [x]).length = if p x = true then 1 else 0 := fun p x => by
    cases hp : p x <;> simp [hp]
  rw [key]
theorem hasN_le (zss : List (List Int)) (s : Int) (k : Nat) : hasN zss s k ≤ k := by
  unfold hasN
  exact Nat.le_trans (List.length_filter_le _ _) (by rw [List.length_take]; omega)
def barR (c : Int) (zss : List (List Int)) (s : Int) : Bool := decide ((hasN zss s zss.length : Int) < zss.length + (lth zss 0).length - c)
set_option maxRecDepth 100000 in
theorem rbars_any (c : Int) (a : Option Addr) (cap : Nat) (zss : List (List Int)) (s : Int) (w : World) (hL : LstC w a zss) (hl : zss.length ≤ 5) (hd : ∀ k, k < zss.length → (lth zss k).length ≤ 5) (hc1 : 1 ≤ c) (hc5 : c ≤ 5) (hcap : zss.length ≤ cap) (hcm : cap ≤ 9223372036854775807) :
    Calls Try.prog 88 #[.int .i64 c, .slice a zss.length cap, .int .i64 s] w fun e w' => e = .returned (.bool (barR c zss s)) ∧ w = w' := by
  have HL := Lib.hid hL
  have HD := Lib.hid hd
  have HW := Lib.hid (rwide_any a cap zss w hL hcap hcm)
  have hlx : (zss.length : Int) ≤ 5 := by omega
  have h05 : (lth zss 0).length ≤ 5 := by
    by_cases h : 0 < zss.length
    · exact hd 0 h
    · rw [lth_eq, List.getElem?_eq_none (by omega)]; simp
  unfold barR
  have HS := Lib.hid (hasN_succ zss s)
  have HLE := Lib.hid (hasN_le zss s)
  have H0 := Lib.hid (hasN_zero zss s)
  generalize (lth zss 0).length = wd at *
  generalize hasN zss s = hn at *
  generalize hU : hn zss.length = U at *
  have HU := Lib.hid hU
  clear hU
  clear hL hd hcap hcm
  go_enter Try.func88, Try.ntmps88
  go_wp2_with fail
  go_loopw [7, 8] (fun nv iv wr => ∃ k : Nat, k ≤ zss.length ∧ nv = .int .i64 (hn k) ∧ iv = .int .i64 k ∧ wr = w) (fun _ iv _ => zss.length - (intOf iv).toNat)
  case atStart => exact ⟨0, Nat.zero_le _, by rw [H0.out]; rfl, rfl, rfl⟩
  case round =>
    obtain ⟨k, hk, rfl, rfl, rfl⟩ := hrel
    have hle := HLE.out k
    by_cases hlt : k < zss.length
    · have hkx : (k : Int) < zss.length := by omega
      obtain ⟨bb, off, l, lc, ea, hbb, d1, hlc, hcc, hI⟩ := HL.out k hlt
      subst ea
      have hz := HD.out k hlt
      have HH := Lib.hid (rhas_any l lc (lth zss k) s wr hI (by omega))
      have HSS := Lib.hid (HS.out k hlt)
      generalize lth zss k = zs at *
      clear hI
      generalize hq : hn k = u at *
      cases hb : zs.contains s
      · rw [hb] at HH HSS
        simp only [Bool.false_eq_true, if_false, Nat.add_zero] at HSS
        clear hb
        go_wp2_with fail
        refine HH.out.mono ?_
        rintro _ _ ⟨rfl, rfl⟩
        go_wp2
        go_round
        case rel => exact ⟨k + 1, by omega, by rw [HSS.out], by go_num, trivial⟩
        case measure => simp [intOf]; omega
      · rw [hb] at HH HSS
        simp only [if_true] at HSS
        clear hb
        go_wp2_with fail
        refine HH.out.mono ?_
        rintro _ _ ⟨rfl, rfl⟩
        go_wp2
        go_round
        case rel => exact ⟨k + 1, by omega, by rw [HSS.out]; go_num, by go_num, trivial⟩
        case measure => simp [intOf]; omega
    · obtain rfl : k = zss.length := by omega
      rw [HU.out] at hle
      rw [HU.out]
      go_wp2_with fail
      refine HW.out.mono ?_
      rintro _ _ ⟨rfl, rfl⟩
      go_wp2
      go_ret
      exact ⟨rfl, rfl⟩
end
end Go.Proofs.Ytpgifeaejjjjnaa
