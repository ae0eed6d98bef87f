/- small facts of worlds; the law's ways -/
import Derived.Test.YtflllkamdihfaaaLNA
import Derived.Test.YtflllkamdihfaaaLHJ
import Derived.Test.YtflllkamdihfaaaLDH
import Derived.Test.YtflllkamdihfaaaLBG
import Derived.Test.YtflllkamdihfaaaLMA
namespace Go.Proofs.Ytflllkamdihfaaa
open Go.RowKit Go.Sort
theorem but_below {Z : Nat → Prop} {B : Nat} {a b c : World} (h : But Z a b) (k : RowKit.Below B b c) (hB : a.heap.size ≤ B) : But Z a c :=
  ⟨k.os.trans h.os, k.tape.trans h.tape, k.output.trans h.output, Nat.le_trans h.size k.size, fun i hi hz => (k.block i (Nat.lt_of_lt_of_le hi hB)).trans (h.block i hi hz)⟩
theorem below_heap {w w' : World} {B b : Nat} {o : Obj} (h : w.heap[b]? = some o) (k : RowKit.Below B w w') (hb : b < B) : w'.heap[b]? = some o := (k.block b hb).trans h
theorem but_heap {Z : Nat → Prop} {w w' : World} {b : Nat} {o : Obj} (h : w.heap[b]? = some o) (k : But Z w w') (hz : ¬ Z b) : w'.heap[b]? = some o := (k.block b (Array.getElem?_eq_some_iff.1 h).1 hz).trans h
theorem BoxP.but {Z : Nat → Prop} {w w' : World} {B : Nat} {r c : Int} {a : Option Addr} {n cap : Nat} (h : BoxP w B r c a n cap) (b : But Z w w') (hz : ¬ Z B) : BoxP w' B r c a n cap := by
  obtain ⟨h0, h1, h2, h3⟩ := h
  exact ⟨Nat.lt_of_lt_of_le h0 b.size, (World.cell?_of_block (a := ⟨B, 0, none⟩) (b.block B h0 hz)).trans h1, (World.cell?_of_block (a := ⟨B, 1, none⟩) (b.block B h0 hz)).trans h2, (World.cell?_of_block (a := ⟨B, 2, none⟩) (b.block B h0 hz)).trans h3⟩
theorem BoxQ.but {Z : Nat → Prop} {w w' : World} {B : Nat} {ya : Option Addr} {yn yc : Nat} {ta : Option Addr} {tn tc : Nat} (h : BoxQ w B ya yn yc ta tn tc) (b : But Z w w') (hz : ¬ Z B) : BoxQ w' B ya yn yc ta tn tc := by
  obtain ⟨h0, h1, h2⟩ := h
  exact ⟨Nat.lt_of_lt_of_le h0 b.size, (World.cell?_of_block (a := ⟨B, 0, none⟩) (b.block B h0 hz)).trans h1, (World.cell?_of_block (a := ⟨B, 1, none⟩) (b.block B h0 hz)).trans h2⟩
/-- how the law's ways look. -/
theorem lwL_good {r c : Int} {S Y T : List Int} (hg : ChkG r c S Y T) {y : Int} (hy : y ∈ Y) : (lwL (stL c (r * c) S) S T y).length ≤ 100000 ∧ ∀ l ∈ lwL (stL c (r * c) S) S T y, 0 < l.length ∧ l.length ≤ 16 ∧ ∀ x ∈ l, 0 ≤ x ∧ x < 16 := by
  have hyy := hg.y y hy
  have hp := lwL_cnd hg.side hyy hg.td
  refine ⟨?_, fun l hl => ?_⟩
  · rw [hp.length_eq]
    have hm := side_m hg.side
    have h1 := flat_le (g := fun t => wyL c (r * c) S y t) (b := 2583) T (fun t _ => by
      unfold wyL
      split
      · simp
      · exact Nat.le_trans (rtL_gN hg.side S t 16 y hyy.1 hyy.2.1 (by omega)) (Nat.le_trans (gN_mono (show (r * c - y).toNat ≤ 16 by omega)) (by decide)))
    have h2 := hg.three
    have h3 := hg.len
    have h4 := Nat.mul_le_mul_right 2583 (show T.length ≤ 3 by omega)
    exact Nat.le_trans h1 (Nat.le_trans h4 (by decide))
  · obtain ⟨t, ht, hw⟩ := (mem_cnd hg.side hyy).1 (hp.mem_iff.1 hl)
    have h1 := wto_short hg.side ⟨hyy.1, hyy.2.1⟩ hw
    exact ⟨List.length_pos_iff.2 hw.ne, h1.1, h1.2⟩
theorem one_ints {w : World} {s : Nat} {x : Int} (h : w.cell? ⟨s, 0, none⟩ = some (.int .i64 x)) (hs : s < w.heap.size) : IntsAt w (some ⟨s, 0, none⟩) [x] := fun j hj => by
  obtain rfl : j = 0 := by simp at hj; exact hj
  exact ⟨s, 0, rfl, hs, h⟩
theorem fut_own {a b c : World} {row : Option Nat} (h : Fut a b) (g : b.grownBy c row) (hr : ∀ q, row = some q → a.heap.size ≤ q) : Fut a c := RowKit.Below.grown h g (RowKit.Below.size h) hr
end Go.Proofs.Ytflllkamdihfaaa
