/- three rows that lie apart, with their lengths -/
import Derived.Test.YtpgifeaejjjjnaaND
import Derived.Test.YtpgifeaejjjjnaaFO
namespace Go.Proofs.Ytpgifeaejjjjnaa
open Go.RowKit Go.Sort
theorem by1 (w : World) (v : Value) : ((w.alloc (.cells #[v] 28)).drew).cell? ⟨w.heap.size, 0, none⟩ = some v := alloc_cell w v 28
theorem by2 (w : World) (v : Value) (o : Obj) : (((w.alloc (.cells #[v] 28)).alloc o).drew).cell? ⟨w.heap.size, 0, none⟩ = some v := alloc_old _ _ (alloc_cell w v 28)
theorem by3 (w : World) (v : Value) (o : Obj) : (((w.alloc o).alloc (.cells #[v] 28)).drew).cell? ⟨w.heap.size + 1, 0, none⟩ = some v := by
  have h := alloc_cell (w.alloc o) v 28
  rw [World.size_alloc] at h
  exact h
theorem gu1 (w : World) (o : Obj) : Fut w (w.alloc o).drew := below_drewN (Fut.alloc w o) 1
theorem gu2 (w : World) (o o' : Obj) : Fut w ((w.alloc o).alloc o').drew := below_drewN ((Fut.alloc w o).trans (Fut.alloc _ o')) 1
theorem Th.rowO {w : World} {B n : Nat} {vo vc vt : Value} {xo xc xt : List Value} {zo zc zt : List (List Int)} (h : Th w B vo vc vt xo xc xt zo zc zt) (hz : zo.length = n) : w.ownsRow B 28 1 vo n xo := by subst hz; exact h.o.own
theorem Th.rowC {w : World} {B n : Nat} {vo vc vt : Value} {xo xc xt : List Value} {zo zc zt : List (List Int)} (h : Th w B vo vc vt xo xc xt zo zc zt) (hz : zc.length = n) : w.ownsRow B 28 1 vc n xc := by subst hz; exact h.c.own
theorem Th.rowT {w : World} {B n : Nat} {vo vc vt : Value} {xo xc xt : List Value} {zo zc zt : List (List Int)} (h : Th w B vo vc vt xo xc xt zo zc zt) (hz : zt.length = n) : w.ownsRow B 28 1 vt n xt := by subst hz; exact h.t.own
theorem Th.addO {w w' : World} {B n : Nat} {vo vc vt : Value} {xo xc xt : List Value} {zo zc zt : List (List Int)} {nv : Value} {zs : List Int} {g c : Nat} (h : Th w B vo vc vt xo xc xt zo zc zt) (hz : zo.length = n) (hn : CutZ w nv zs)
    (hown : w'.ownsRow B 28 1 (.slice (some ⟨g, 0, none⟩) (n + 1) c) (n + 1) (xo ++ [nv])) (hg : w.grownBy w' vo.ownBlock) (hat : vo.ownBlock = some g ∨ g = w.heap.size) : Th w' B (.slice (some ⟨g, 0, none⟩) (n + 1) c) vc vt (xo ++ [nv]) xc xt (zo ++ [zs]) zc zt := by subst hz; exact h.appO hn hown hg hat
theorem Th.addC {w w' : World} {B n : Nat} {vo vc vt : Value} {xo xc xt : List Value} {zo zc zt : List (List Int)} {nv : Value} {zs : List Int} {g c : Nat} (h : Th w B vo vc vt xo xc xt zo zc zt) (hz : zc.length = n) (hn : CutZ w nv zs)
    (hown : w'.ownsRow B 28 1 (.slice (some ⟨g, 0, none⟩) (n + 1) c) (n + 1) (xc ++ [nv])) (hg : w.grownBy w' vc.ownBlock) (hat : vc.ownBlock = some g ∨ g = w.heap.size) : Th w' B vo (.slice (some ⟨g, 0, none⟩) (n + 1) c) vt xo (xc ++ [nv]) xt zo (zc ++ [zs]) zt := by subst hz; exact h.appC hn hown hg hat
theorem Th.addT {w w' : World} {B n : Nat} {vo vc vt : Value} {xo xc xt : List Value} {zo zc zt : List (List Int)} {nv : Value} {zs : List Int} {g c : Nat} (h : Th w B vo vc vt xo xc xt zo zc zt) (hz : zt.length = n) (hn : CutZ w nv zs)
    (hown : w'.ownsRow B 28 1 (.slice (some ⟨g, 0, none⟩) (n + 1) c) (n + 1) (xt ++ [nv])) (hg : w.grownBy w' vt.ownBlock) (hat : vt.ownBlock = some g ∨ g = w.heap.size) : Th w' B vo vc (.slice (some ⟨g, 0, none⟩) (n + 1) c) xo xc (xt ++ [nv]) zo zc (zt ++ [zs]) := by subst hz; exact h.appT hn hown hg hat
theorem own_form {w : World} {B : Nat} {v : Value} {L : List Int} {n : Nat} (h : Owns w B v L) (hl : L.length = n) (hn : 1 ≤ n) : ∃ g c, v = .slice (some ⟨g, 0, none⟩) n c ∧ n ≤ c ∧ Owns w 0 (.slice (some ⟨g, 0, none⟩) L.length c) L := by
  subst hl
  have h0 := h.base (Nat.zero_le _)
  rcases h.2 with ⟨e, h1⟩ | ⟨g, cap', cur, e, _, _, hnc, _⟩
  · omega
  · subst e
    exact ⟨g, cap', rfl, hnc, h0⟩
end Go.Proofs.Ytpgifeaejjjjnaa
