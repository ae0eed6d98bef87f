/- rows to be read (rows_C), an append of a list that can be read (LstC.app), a slice from a place on -/
import Derived.Test.YtpgifeaejjjjnaaFB
import Derived.Test.YtpgifeaejjjjnaaEH
namespace Go.Proofs.Ytpgifeaejjjjnaa
open Go.RowKit Go.Sort
/-- what can be read as lists. -/
abbrev RetC (zss : List (List Int)) (w : World) (e : Ending) (w' : World) : Prop := ∃ l lc, e = .returned (.slice l zss.length lc) ∧ zss.length ≤ lc ∧ lc ≤ 9223372036854775807 ∧ LstC w' l zss ∧ Fut w w'
theorem rows_C (n : Nat) (hn : n ≤ 5) (m : Nat) (ba : Option Addr) (bc : Nat) (begun : List Int) (w : World) (hl : begun.length + m = n) (hI : IntsAt w ba begun) (hc1 : begun.length ≤ bc) (hc2 : bc ≤ 9223372036854775807) :
    Calls Try.prog 114 #[.int .i64 n, .slice ba begun.length bc] w (RetC (ordT n m begun) w) := by
  cases m with
  | zero =>
    have hX : LstC (w.alloc (.cells #[.slice ba begun.length bc] 28)) (some ⟨w.heap.size, 0, none⟩) [begun] := fun j hj => by
      obtain rfl : j = 0 := by simp at hj; exact hj
      refine ⟨w.heap.size, 0, ba, bc, rfl, ?_, ?_, hc1, hc2, hI.fut (Fut.alloc _ _)⟩
      · simp [go_sem]
      · simp [go_sem]; rfl
    have HX := Lib.hid hX
    obtain rfl : begun.length = n := by omega
    clear hX hl
    go_enter Try.func114, Try.ntmps114
    go_wp2
    go_ret
    exact ⟨_, 1, rfl, Nat.le_refl _, by omega, HX.out, Fut.alloc _ _⟩
  | succ m =>
    refine (rows_own n hn (m + 1) ba bc begun w hl (fun h => absurd h (Nat.succ_ne_zero _)) hI).mono fun e w' ⟨v, he, hX, F⟩ => ?_
    obtain ⟨l, lc, rfl, q1, q2, q3⟩ := hX.listsC
    exact ⟨l, lc, he, q1, q2, q3, F⟩
theorem LstC.app {w w' : World} {B : Nat} {v : Value} {zss : List (List Int)} {vals : List Value} {l : Option Addr} {lc : Nat} {zs : List Int} {g c : Nat} (h1 : w.ownsRow B 28 1 v zss.length vals) (h2 : Elems w 0 vals zss) (hI : IntsAt w' l zs) (hl : zs.length ≤ lc) (hm : lc ≤ 9223372036854775807)
    (hown : w'.ownsRow B 28 1 (.slice (some ⟨g, 0, none⟩) (zss.length + 1) c) (zss.length + 1) (vals ++ [.slice l zs.length lc])) (hg : w.grownBy w' v.ownBlock) : LstC w' (some ⟨g, 0, none⟩) (zss ++ [zs]) := by
  have h3 : Elems w' 0 vals zss := by
    have := h2.cat (vals' := []) (zss' := []) ⟨rfl, fun j hj => absurd hj (by simp)⟩ h1 hg
    simpa using this
  have hgs : g < w'.heap.size := by
    have := World.ownsRow.cells hown (g := g) rfl vals.length (.slice l zs.length lc) (by simp)
    rw [Addr.add_lit] at this
    exact World.block_lt_of_cell? _ _ this
  intro j hj
  rw [List.length_append, List.length_singleton] at hj
  rcases Nat.lt_or_ge j zss.length with hlt | hge
  · obtain ⟨u, e, hv⟩ := h3.2 j hlt
    obtain ⟨a, k, rfl, q1, q2, hJ⟩ := hv.form
    have hc := World.ownsRow.cells hown (g := g) rfl j _ (by rw [List.getElem?_append_left (by have := h3.1; omega)]; exact e)
    rw [Addr.add_lit] at hc
    rw [lth_app1 _ _ _ hlt]
    exact ⟨g, 0, a, k, rfl, hgs, hc, q1, by unfold maxLen at q2; omega, hJ⟩
  · obtain rfl : j = zss.length := by omega
    have hc := World.ownsRow.cells hown (g := g) rfl zss.length (.slice l zs.length lc) (by rw [← h3.1]; simp)
    rw [Addr.add_lit] at hc
    rw [lth_app2]
    exact ⟨g, 0, l, lc, rfl, hgs, hc, hl, hm, hI⟩
def offK (o k cap : Nat) : Nat := if cap = k then o else o + k
theorem slice_from22 (b o n cap k : Nat) (h : k ≤ n) (_h2 : n ≤ cap) (W : World) : (Instr.sliceAt 22 (.slice (some ⟨b, o, none⟩) n cap) (some (.int .i64 k)) none none).run Try.prog W = .ok (.slice (some ⟨b, offK o k cap, none⟩) (n - k) (cap - k)) W := by
  have hu : Try.prog.underlying 22 = some (.slice (Try.prog.elem 22)) := by kernel_rfl
  have hs : (sizeOf (Try.prog.elem 22)).run Try.prog W = .ok 1 W := by kernel_rfl
  rw [run_sliceAt_slice _ _ _ _ _ _ hu, run_slice_l _ _ _ _ _ hu _ _ (by omega) (by omega), hs]
  unfold offK
  simp [sliced, Result.andThen, Addr.add]
  split
  · rfl
  · split
    · subst k; rfl
    · rfl
theorem LstC.drop {w : World} {b o k cap : Nat} {zss : List (List Int)} (h : LstC w (some ⟨b, o, none⟩) zss) (hc : zss.length ≤ cap) : LstC w (some ⟨b, offK o k cap, none⟩) (zss.drop k) := fun j hj => by
  rw [List.length_drop] at hj
  obtain ⟨b', o', l, lc, e, h1, h2, h3, h4, h5⟩ := h (k + j) (by omega)
  simp only [Option.some.injEq, Addr.mk.injEq, and_true] at e
  obtain ⟨rfl, rfl⟩ := e
  have e2 : lth (zss.drop k) j = lth zss (k + j) := by rw [lth_eq, List.getElem?_drop, lth_eq]
  rw [e2]
  refine ⟨b, offK o k cap, l, lc, rfl, h1, ?_, h3, h4, h5⟩
  unfold offK
  rw [if_neg (by omega), Nat.add_assoc]
  exact h2
theorem frB_zero (b t : List (List Int)) (r : List Int) : frB 0 b t r = true := rfl
theorem frB_succ (d : Nat) (b t : List (List Int)) (r : List Int) : frB (d + 1) b t r = (frB d b t r && (!metB b d (nth r d) && !metB t d (nth r d))) := by
  unfold frB
  rw [List.range_succ, List.all_append]
  simp
theorem fs_filter {α β : Type} (p : α → Bool) (g : α → Option β) : ∀ l : List α, (l.filter p).findSome? g = l.findSome? fun x => if p x = true then g x else none
  | [] => rfl
  | a :: l => by
    rw [List.findSome?_cons, ← fs_filter p g l, List.filter_cons]
    cases hp : p a
    · simp
    · simp only [if_true]
      rw [List.findSome?_cons]
theorem flR_drop {n : Nat} {c : List Int} {t b : List (List Int)} : flR n (c :: t) b = ((ordT n (n - c.length) c).drop 0).findSome? fun r => if frB n b t r = true then flR n t (b ++ [r]) else none := by
  rw [flR, fs_filter, List.drop_zero]
theorem fs_step {β : Type} {L : List (List Int)} {f : List Int → Option β} {k : Nat} (hk : k < L.length) : (L.drop k).findSome? f = match f (lth L k) with | some z => some z | none => (L.drop (k + 1)).findSome? f := by
  rw [lth_drop _ _ hk, List.findSome?_cons]
  cases f (lth L k) <;> rfl
end Go.Proofs.Ytpgifeaejjjjnaa
