/- lists of one's own, no two in one block; a number of one written over (OwnP) -/
import Derived.Test.YtpgifeaejjjjnaaFF
import Derived.Test.YtpgifeaejjjjnaaCX
namespace Go.Proofs.Ytpgifeaejjjjnaa
open Go.RowKit Go.Sort
/-- lists of one's own, no two in one block. -/
structure OwnP (w : World) (B : Nat) (v : Value) (vals : List Value) (zss : List (List Int)) : Prop where
  own : w.ownsRow B 28 1 v zss.length vals
  len : vals.length = zss.length
  el : ∀ j, j < zss.length → ∃ u, vals[j]? = some u ∧ Owns w B u (lth zss j)
  ap : ∀ (i j : Nat) (ui uj : Value), i ≠ j → vals[i]? = some ui → vals[j]? = some uj → ∀ k, ui.ownBlock = some k → uj.ownBlock ≠ some k
theorem OwnP.nil (w : World) (B : Nat) : OwnP w B (.slice none 0 0) [] [] :=
  ⟨World.ownsRow_nil _ _ _ _, rfl, fun j hj => absurd hj (by simp), fun _ _ _ _ _ h => by simp at h⟩
theorem OwnP.fut {w w' : World} {B : Nat} {v : Value} {vals : List Value} {zss : List (List Int)} (h : OwnP w B v vals zss) (F : Fut w w') : OwnP w' B v vals zss :=
  ⟨row_fut h.own F, h.len, fun j hj => by obtain ⟨u, e, hu⟩ := h.el j hj; exact ⟨u, e, hu.fut F⟩, h.ap⟩
theorem OwnP.l {w : World} {B : Nat} {v : Value} {vals : List Value} {zss : List (List Int)} (h : OwnP w B v vals zss) : OwnL w B v zss := ⟨vals, h.own, h.len, h.el⟩
theorem OwnP.app {w w' : World} {B N : Nat} {v : Value} {vals : List Value} {zss : List (List Int)} {nv : Value} {zs : List Int} {g c : Nat} (h : OwnP w B v vals zss) (hn : Owns w B nv zs) (hf : ∀ k, nv.ownBlock = some k → N ≤ k) (ho : ∀ u ∈ vals, ∀ k, u.ownBlock = some k → k < N)
    (hown : w'.ownsRow B 28 1 (.slice (some ⟨g, 0, none⟩) (zss.length + 1) c) (zss.length + 1) (vals ++ [nv])) (hg : w.grownBy w' v.ownBlock) : OwnP w' B (.slice (some ⟨g, 0, none⟩) (zss.length + 1) c) (vals ++ [nv]) (zss ++ [zs]) := by
  have hL := OwnL.app h.own ⟨h.len, h.el⟩ hn hown hg
  refine ⟨by simpa using hown, by simp [h.len], ?_, fun i j ui uj hij hi hj k hk e => ?_⟩
  · have h3 := Elems.app ⟨h.len, h.el⟩ hn h.own hg
    exact h3.2
  · have key : ∀ a u, (vals ++ [nv])[a]? = some u → (a < vals.length ∧ vals[a]? = some u) ∨ (a = vals.length ∧ u = nv) := fun a u ha => by
      rcases Nat.lt_or_ge a vals.length with hlt | hge
      · rw [List.getElem?_append_left hlt] at ha; exact .inl ⟨hlt, ha⟩
      · rw [List.getElem?_append_right hge] at ha
        have : a - vals.length = 0 := by
          refine Classical.byContradiction fun hne => ?_
          rw [List.getElem?_eq_none (by simp; omega)] at ha
          cases ha
        rw [this] at ha
        exact .inr ⟨by omega, by simpa using ha.symm⟩
    rcases key i ui hi with ⟨h1, h2⟩ | ⟨h1, rfl⟩
    · rcases key j uj hj with ⟨h3, h4⟩ | ⟨h3, rfl⟩
      · exact h.ap i j ui uj hij h2 h4 k hk e
      · have a1 := ho ui (List.mem_of_getElem? h2) k hk
        have a2 := hf k e
        omega
    · rcases key j uj hj with ⟨h3, h4⟩ | ⟨h3, rfl⟩
      · have a1 := ho uj (List.mem_of_getElem? h4) k e
        have a2 := hf k hk
        omega
      · omega
/-- a number of a list of one's own is written over. -/
theorem OwnP.put {w : World} {B j p g n cap : Nat} {v : Value} {vals : List Value} {zss : List (List Int)} (h : OwnP w B v vals zss) (hj : j < zss.length) (hv : vals[j]? = some (.slice (some ⟨g, 0, none⟩) n cap)) (hn : (lth zss j).length = n) (x : Int) :
    OwnP (w.setCell ⟨g, p, none⟩ (.int .i64 x)) B v vals (zss.set j ((lth zss j).set p x)) := by
  obtain ⟨u, e, hu⟩ := h.el j hj
  rw [hv] at e
  cases e
  have hu' : w.ownsRow B 3 1 (.slice (some ⟨g, 0, none⟩) n cap) n ((lth zss j).map (Value.int .i64)) := by
    unfold Owns at hu
    rwa [hn] at hu
  obtain ⟨s1, s2⟩ := hu'.stored p (.int .i64 x)
  refine ⟨?_, by rw [List.length_set]; exact h.len, fun i hi => ?_, h.ap⟩
  · rw [List.length_set]
    refine World.ownsRow.kept h.own s2 ?_
    rcases own_apart hu h.own with q | q
    · simp [Value.ownBlock] at q
    · simp only [Value.ownBlock] at q
      exact .inr fun e => q e.symm
  · rw [List.length_set] at hi
    by_cases e : j = i
    · subst e
      refine ⟨_, hv, ?_⟩
      rw [lth_set_same _ _ _ hj]
      unfold Owns
      rw [List.length_set, hn, List.map_set]
      exact s1
    · obtain ⟨u, e2, hu2⟩ := h.el i hi
      refine ⟨u, e2, ?_⟩
      rw [lth_set_ne _ _ _ _ e]
      refine World.ownsRow.kept hu2 s2 ?_
      cases hb : u.ownBlock with
      | none => exact .inl rfl
      | some k => exact .inr fun q => h.ap j i _ u e hv e2 g rfl (by rw [hb, q])
end Go.Proofs.Ytpgifeaejjjjnaa
