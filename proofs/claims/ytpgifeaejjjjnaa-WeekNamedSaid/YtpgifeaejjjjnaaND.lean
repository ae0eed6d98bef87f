/- three rows that lie apart (Th) -/
import Derived.Test.YtpgifeaejjjjnaaNA
import Derived.Test.YtpgifeaejjjjnaaNB
namespace Go.Proofs.Ytpgifeaejjjjnaa
open Go.RowKit Go.Sort
/-- a row of one's own whose values are beginnings of lists. -/
structure RowV (w : World) (B : Nat) (v : Value) (xs : List Value) (zss : List (List Int)) : Prop where
  own : w.ownsRow B 28 1 v zss.length xs
  len : xs.length = zss.length
  cut : ∀ j, j < zss.length → ∃ u, xs[j]? = some u ∧ CutZ w u (lth zss j)
theorem RowV.z {w : World} {B : Nat} {v : Value} {xs : List Value} {zss : List (List Int)} (h : RowV w B v xs zss) : RowZ w B v zss := ⟨xs, h.own, h.len, h.cut⟩
theorem RowV.fut {w w' : World} {B : Nat} {v : Value} {xs : List Value} {zss : List (List Int)} (h : RowV w B v xs zss) (F : Fut w w') : RowV w' B v xs zss :=
  ⟨row_fut h.own F, h.len, fun j hj => by obtain ⟨u, e, hu⟩ := h.cut j hj; exact ⟨u, e, hu.fut F⟩⟩
theorem RowV.other {w w' : World} {B B' : Nat} {u v : Value} {n : Nat} {xs ys : List Value} {zss : List (List Int)} (h : RowV w B v xs zss) (hu : w.ownsRow B' 28 1 u n ys) (g : w.grownBy w' u.ownBlock) (hne : ∀ k, v.ownBlock = some k → u.ownBlock ≠ some k) : RowV w' B v xs zss := by
  refine ⟨World.ownsRow.kept h.own g ?_, h.len, fun j hj => by obtain ⟨z, e, hz⟩ := h.cut j hj; exact ⟨z, e, hz.kept hu g⟩⟩
  cases hv : v.ownBlock with
  | none => exact .inl rfl
  | some k => exact .inr fun e => hne k hv e.symm
theorem RowV.app {w w' : World} {B : Nat} {v : Value} {xs : List Value} {zss : List (List Int)} {nv : Value} {zs : List Int} {g c : Nat} (h : RowV w B v xs zss) (hn : CutZ w nv zs)
    (hown : w'.ownsRow B 28 1 (.slice (some ⟨g, 0, none⟩) (zss.length + 1) c) (zss.length + 1) (xs ++ [nv])) (hg : w.grownBy w' v.ownBlock) : RowV w' B (.slice (some ⟨g, 0, none⟩) (zss.length + 1) c) (xs ++ [nv]) (zss ++ [zs]) := by
  refine ⟨by simpa using hown, by simp [h.len], fun j hj => ?_⟩
  rw [List.length_append, List.length_singleton] at hj
  rcases Nat.lt_or_ge j zss.length with hlt | hge
  · obtain ⟨u, e, hu⟩ := h.cut j hlt
    exact ⟨u, by rw [List.getElem?_append_left (by have := h.len; omega)]; exact e, by rw [lth_app1 _ _ _ hlt]; exact hu.kept h.own hg⟩
  · obtain rfl : j = zss.length := by omega
    exact ⟨nv, by rw [← h.len]; simp, by rw [lth_app2]; exact hn.kept h.own hg⟩
/-- three rows of one's own that lie apart. -/
structure Th (w : World) (B : Nat) (vo vc vt : Value) (xo xc xt : List Value) (zo zc zt : List (List Int)) : Prop where
  o : RowV w B vo xo zo
  c : RowV w B vc xc zc
  t : RowV w B vt xt zt
  oc : ∀ k, vo.ownBlock = some k → vc.ownBlock ≠ some k
  ot : ∀ k, vo.ownBlock = some k → vt.ownBlock ≠ some k
  ct : ∀ k, vc.ownBlock = some k → vt.ownBlock ≠ some k
theorem Th.fut {w w' : World} {B : Nat} {vo vc vt : Value} {xo xc xt : List Value} {zo zc zt : List (List Int)} (h : Th w B vo vc vt xo xc xt zo zc zt) (F : Fut w w') : Th w' B vo vc vt xo xc xt zo zc zt :=
  ⟨h.o.fut F, h.c.fut F, h.t.fut F, h.oc, h.ot, h.ct⟩
theorem RowV.nil (w : World) (B : Nat) : RowV w B (.slice none 0 0) [] [] := ⟨World.ownsRow_nil _ _ _ _, rfl, fun j hj => absurd hj (by simp)⟩
theorem Th.nil (w : World) (B : Nat) : Th w B (.slice none 0 0) (.slice none 0 0) (.slice none 0 0) [] [] [] [] [] [] :=
  ⟨RowV.nil _ _, RowV.nil _ _, RowV.nil _ _, (fun _ h => by cases h), (fun _ h => by cases h), (fun _ h => by cases h)⟩
theorem apart_new {w : World} {B : Nat} {u v : Value} {n : Nat} {xs : List Value} {g a c : Nat} (hu : w.ownsRow B 28 1 u n xs) (hat : v.ownBlock = some g ∨ g = w.heap.size) (hne : ∀ k, u.ownBlock = some k → v.ownBlock ≠ some k) : ∀ k, u.ownBlock = some k → (Value.slice (some ⟨g, 0, none⟩) a c).ownBlock ≠ some k := by
  intro k hk e
  have e' : g = k := by simpa [Value.ownBlock] using e
  subst e'
  rcases hat with h | h
  · exact hne g hk h
  · have := (World.ownsRow.lt hu g hk).2; omega
theorem Th.appO {w w' : World} {B : Nat} {vo vc vt : Value} {xo xc xt : List Value} {zo zc zt : List (List Int)} {nv : Value} {zs : List Int} {g c : Nat} (h : Th w B vo vc vt xo xc xt zo zc zt) (hn : CutZ w nv zs)
    (hown : w'.ownsRow B 28 1 (.slice (some ⟨g, 0, none⟩) (zo.length + 1) c) (zo.length + 1) (xo ++ [nv])) (hg : w.grownBy w' vo.ownBlock) (hat : vo.ownBlock = some g ∨ g = w.heap.size) : Th w' B (.slice (some ⟨g, 0, none⟩) (zo.length + 1) c) vc vt (xo ++ [nv]) xc xt (zo ++ [zs]) zc zt :=
  have a1 := apart_new (a := zo.length + 1) (c := c) h.c.own hat (fun k hk e => h.oc k e hk)
  have a2 := apart_new (a := zo.length + 1) (c := c) h.t.own hat (fun k hk e => h.ot k e hk)
  ⟨h.o.app hn hown hg, h.c.other h.o.own hg (fun k hk e => h.oc k e hk), h.t.other h.o.own hg (fun k hk e => h.ot k e hk), fun k hk e => a1 k e hk, fun k hk e => a2 k e hk, h.ct⟩
theorem Th.appC {w w' : World} {B : Nat} {vo vc vt : Value} {xo xc xt : List Value} {zo zc zt : List (List Int)} {nv : Value} {zs : List Int} {g c : Nat} (h : Th w B vo vc vt xo xc xt zo zc zt) (hn : CutZ w nv zs)
    (hown : w'.ownsRow B 28 1 (.slice (some ⟨g, 0, none⟩) (zc.length + 1) c) (zc.length + 1) (xc ++ [nv])) (hg : w.grownBy w' vc.ownBlock) (hat : vc.ownBlock = some g ∨ g = w.heap.size) : Th w' B vo (.slice (some ⟨g, 0, none⟩) (zc.length + 1) c) vt xo (xc ++ [nv]) xt zo (zc ++ [zs]) zt :=
  have a1 := apart_new (a := zc.length + 1) (c := c) h.o.own hat h.oc
  have a2 := apart_new (a := zc.length + 1) (c := c) h.t.own hat (fun k hk e => h.ct k e hk)
  ⟨h.o.other h.c.own hg h.oc, h.c.app hn hown hg, h.t.other h.c.own hg (fun k hk e => h.ct k e hk), a1, h.ot, fun k hk e => a2 k e hk⟩
theorem Th.appT {w w' : World} {B : Nat} {vo vc vt : Value} {xo xc xt : List Value} {zo zc zt : List (List Int)} {nv : Value} {zs : List Int} {g c : Nat} (h : Th w B vo vc vt xo xc xt zo zc zt) (hn : CutZ w nv zs)
    (hown : w'.ownsRow B 28 1 (.slice (some ⟨g, 0, none⟩) (zt.length + 1) c) (zt.length + 1) (xt ++ [nv])) (hg : w.grownBy w' vt.ownBlock) (hat : vt.ownBlock = some g ∨ g = w.heap.size) : Th w' B vo vc (.slice (some ⟨g, 0, none⟩) (zt.length + 1) c) xo xc (xt ++ [nv]) zo zc (zt ++ [zs]) :=
  have a1 := apart_new (a := zt.length + 1) (c := c) h.o.own hat h.ot
  have a2 := apart_new (a := zt.length + 1) (c := c) h.c.own hat h.ct
  ⟨h.o.other h.t.own hg h.ot, h.c.other h.t.own hg h.ct, h.t.app hn hown hg, h.oc, a1, a2⟩
theorem cut_take {w : World} {l : Option Addr} {L : List Int} {c D : Nat} (h : Owns w 0 (.slice l L.length c) L) (hD : D ≤ L.length) (hm : L.length ≤ 1000) : CutZ w (.slice l D D) (L.take D) := by
  have e : (L.take D).length = D := by rw [List.length_take]; omega
  exact ⟨l, D, L, c, by rw [e], by omega, by omega, by rw [e], h⟩
theorem cut_whole {w : World} {l : Option Addr} {L : List Int} {c : Nat} (h : Owns w 0 (.slice l L.length c) L) : CutZ w (.slice l L.length c) L := by
  obtain ⟨a, c', e, h1, h2, _⟩ := h.form
  simp only [Value.slice.injEq, true_and] at e
  obtain ⟨rfl, rfl⟩ := e
  exact ⟨l, c, L, c, rfl, h1, by unfold maxLen at h2; omega, by rw [List.take_length], h⟩
end Go.Proofs.Ytpgifeaejjjjnaa
