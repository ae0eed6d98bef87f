/- Layer 3: isCrossing. -/
import Derived.Test.YtpgifeaejjjjnaaBO
namespace Go.Proofs.Ytpgifeaejjjjnaa
open Go.RowKit Go.Sort
/-- the streets of carts on their days. -/
def stF (zss : List (List Int)) (ds : List Int) (k : Nat) : Int := nth (lth zss k) (nth ds k).toNat
def crsB (zss : List (List Int)) (ds : List Int) : Bool := decide (∀ k, k < ds.length → ∀ j, j < k → stF zss ds j ≠ stF zss ds k)
def seenB (zss : List (List Int)) (ds : List Int) (k i : Nat) : Bool := (List.range k).any fun j => decide (stF zss ds j = (i : Int))
theorem seenB_succ (zss : List (List Int)) (ds : List Int) (k i : Nat) : seenB zss ds (k + 1) i = (seenB zss ds k i || decide (stF zss ds k = (i : Int))) := by
  unfold seenB
  rw [List.range_succ, List.any_append]
  simp
set_option maxRecDepth 100000 in
set_option maxHeartbeats 4000000 in
theorem crossing_any (a : Option Addr) (cap : Nat) (zss : List (List Int)) (b : Option Addr) (bap : Nat) (ds : List Int) (w : World) (hL : LstAt w a zss) (hI : IntsAt w b ds) (hl : ds.length ≤ zss.length) (hz : zss.length ≤ 5)
    (hd : ∀ k, k < ds.length → 0 ≤ nth ds k ∧ nth ds k < (lth zss k).length ∧ (lth zss k).length ≤ 5 ∧ 0 ≤ stF zss ds k ∧ stF zss ds k < 5) :
    Calls Try.prog 118 #[.slice a zss.length cap, .slice b ds.length bap] w fun e w' => e = .returned (.bool (crsB zss ds)) ∧ Fut w w' := by
  have HL := Lib.hid hL
  have HI := Lib.hid hI
  have HD := Lib.hid hd
  generalize hE : crsB zss ds = E at *
  have HE := Lib.hid hE
  clear hE hL hI hd
  go_enter Try.func118, Try.ntmps118
  go_wp2_with fail
  have hR0 : (w.alloc (.cells #[.bool false, .bool false, .bool false, .bool false, .bool false] 129)).rowIs w.heap.size 129 5 (fun i => .bool (seenB zss ds 0 i)) :=
    World.rowIs_alloc w #[.bool false, .bool false, .bool false, .bool false, .bool false] 129 _ (fun i hi => by
      match i, hi with
      | 0, _ => rfl
      | 1, _ => rfl
      | 2, _ => rfl
      | 3, _ => rfl
      | 4, _ => rfl
      | i + 5, hi => exact absurd hi (by simp))
  have F0 : Fut w (w.alloc (.cells #[.bool false, .bool false, .bool false, .bool false, .bool false] 129)) := Fut.alloc _ _
  generalize w.alloc (.cells #[.bool false, .bool false, .bool false, .bool false, .bool false] 129) = W1 at *
  generalize hB : w.heap.size = B at *
  have HB := Lib.hid hB
  have HR0 := Lib.hid hR0
  have HF0 := Lib.hid F0
  clear hB hR0 F0
  have hlx : (ds.length : Int) ≤ 5 := by omega
  go_loopw [11] (fun iv wr => ∃ k : Nat, k ≤ ds.length ∧ iv = .int .i64 k ∧ Hid (wr.rowIs B 129 5 (fun i => .bool (seenB zss ds k i))) ∧ Hid (∀ i, i < k → ∀ j, j < i → stF zss ds j ≠ stF zss ds i) ∧ Hid (Fut w wr)) (fun iv _ => ds.length - (intOf iv).toNat)
  case atStart => exact ⟨0, Nat.zero_le _, rfl, HR0, Lib.hid (fun i hi => absurd hi (Nat.not_lt_zero i)), HF0⟩
  case round =>
    obtain ⟨k, hk, rfl, HR, HN, HF⟩ := hrel
    by_cases hlt : k < ds.length
    · have hkx : (k : Int) < ds.length := by omega
      have hkz : (k : Int) < zss.length := by omega
      obtain ⟨b1, off1, ea1, hb1, e1⟩ := (HI.out.fut HF.out) k hlt
      subst ea1
      obtain ⟨bb, off, l, lc, ea, hbb, d1, hI⟩ := (HL.out.fut HF.out) k (by omega)
      subst ea
      obtain ⟨x0, x1, x5, y0, y5⟩ := HD.out k hlt
      have hst : stF zss ds k = nth (lth zss k) (nth ds k).toNat := rfl
      have hsn := seenB_succ zss ds k
      have HN1 : Hid (∀ j, j < k → stF zss ds j ≠ stF zss ds k → True) := Lib.hid (fun _ _ _ => trivial)
      have hseen : ∀ i : Nat, (i : Int) = stF zss ds k → (seenB zss ds k i = true ↔ ∃ j, j < k ∧ stF zss ds j = stF zss ds k) := fun i hi => by
        unfold seenB
        rw [List.any_eq_true]
        constructor
        · rintro ⟨j, hj, e⟩
          exact ⟨j, List.mem_range.1 hj, (of_decide_eq_true e).trans hi⟩
        · rintro ⟨j, hj, e⟩
          exact ⟨j, List.mem_range.2 hj, decide_eq_true (e.trans hi.symm)⟩
      have HSE := Lib.hid hseen
      have HSN := Lib.hid hsn
      clear hseen hsn HN1
      obtain ⟨d, hd⟩ := Int.eq_ofNat_of_zero_le x0
      rw [hd] at hst x1 e1
      rw [Int.toNat_natCast] at hst
      have hdl : d < (lth zss k).length := by omega
      obtain ⟨b2, off2, ea2, hb2, e2⟩ := hI d hdl
      subst ea2
      rw [← hst] at e2
      generalize (lth zss k).length = zl at *
      have HSK : Hid (stF zss ds k = stF zss ds k) := Lib.hid rfl
      generalize hs : stF zss ds k = s at *
      obtain ⟨z, rfl⟩ := Int.eq_ofNat_of_zero_le y0
      have hz5 : z < 5 := by omega
      have c1 := HR.out.cell hz5
      have c2 := HR.out.frozen z
      have hse := HSE.out z rfl
      clear hI HSK
      cases hb : seenB zss ds k z
      · rw [hb] at c1 hse
        have HR2 : Hid ((wr.setCell ⟨B, z, none⟩ (.bool true)).rowIs B 129 5 (fun i => .bool (seenB zss ds (k + 1) i))) := Lib.hid ((HR.out.set z (.bool true)).congr fun i _ => by
          rw [HSN.out i]
          by_cases e : i = z
          · subst e; simp
          · rw [if_neg e]
            have : decide ((z : Int) = (i : Int)) = false := by rw [decide_eq_false_iff_not]; omega
            rw [this, Bool.or_false])
        have HF2 : Hid (Fut w (wr.setCell ⟨B, z, none⟩ (.bool true))) := Lib.hid (RowKit.Below.setCell HF.out (p := ⟨B, z, none⟩) (by rw [HB.out]; exact Nat.le_refl _) _)
        have HN2 : Hid (∀ i, i < k + 1 → ∀ j, j < i → stF zss ds j ≠ stF zss ds i) := Lib.hid (fun i hi j hj => by
          rcases Nat.lt_or_ge i k with q | q
          · exact HN.out i q j hj
          · obtain rfl : i = k := by omega
            rw [hs]
            exact fun e => absurd (hse.2 ⟨j, hj, e⟩) (by simp))
        clear hs hst hse hb
        go_wp2
        go_round
        case rel => exact ⟨k + 1, by omega, by go_num, HR2, HN2, HF2⟩
        case measure => simp [intOf]; omega
      · rw [hb] at c1 hse
        have hE : E = false := by
          rw [← HE.out]; unfold crsB; rw [decide_eq_false_iff_not]
          intro q
          obtain ⟨j, hj, e⟩ := hse.1 rfl
          exact q k hlt j hj (e.trans hs.symm)
        subst hE
        clear hs hst hse hb
        go_wp2
        go_ret
        exact ⟨rfl, HF.out⟩
    · obtain rfl : k = ds.length := by omega
      have hE : E = true := by rw [← HE.out]; unfold crsB; rw [decide_eq_true_eq]; exact HN.out
      subst hE
      go_wp2
      go_ret
      exact ⟨rfl, HF.out⟩
end Go.Proofs.Ytpgifeaejjjjnaa
