/- trees by number: Tree, Valid, Depths, Asked -/
import Derived.Test.YtjapconhehdcjaaMSB
import Derived.Test.YtjapconhehdcjaaPX
namespace Go.Proofs.Ytjapconhehdcjaa
open Go.RowKit Go.Sort
/-- trees by number. -/
def catN (n : Nat) : Nat := [0, 1, 1, 2, 5, 14, 42, 132, 429][n]?.getD 0
theorem many_cat (n : Nat) (h1 : 1 ≤ n) (h8 : n ≤ 8) : m0 FA 0 (n - 1) = (catN n : Nat) := by
  have : n = 1 ∨ n = 2 ∨ n = 3 ∨ n = 4 ∨ n = 5 ∨ n = 6 ∨ n = 7 ∨ n = 8 := by omega
  rcases this with rfl | rfl | rfl | rfl | rfl | rfl | rfl | rfl <;> decide +kernel
theorem cat_pos (n : Nat) (h1 : 1 ≤ n) (h8 : n ≤ 8) : 1 ≤ catN n ∧ catN n ≤ 429 := by
  have : n = 1 ∨ n = 2 ∨ n = 3 ∨ n = 4 ∨ n = 5 ∨ n = 6 ∨ n = 7 ∨ n = 8 := by omega
  rcases this with rfl | rfl | rfl | rfl | rfl | rfl | rfl | rfl <;> decide
theorem trees_cat (n : Nat) (h1 : 1 ≤ n) (h8 : n ≤ 8) : treesE n = (catN n : Nat) ∧ kindE n = 0 := by
  unfold treesE kindE
  rw [if_pos (by omega), if_pos (by omega), Int.toNat_natCast, many_cat n h1 h8]
  exact ⟨rfl, rfl⟩
theorem trs_cat (n : Nat) (h1 : 1 ≤ n) (h8 : n ≤ 8) : (Sv.trs (n - 1)).length = catN n := by
  have e := Sv.m0_link Sv.tpeqA Sv.tpAll_ok (n - 1) 0
  rw [Nat.zero_add, many_cat n h1 h8] at e
  unfold Sv.gN at e
  rw [Sv.trs_g] at e
  omega
theorem tree_num (n q : Nat) (h1 : 1 ≤ n) (h8 : n ≤ 8) (hq : q < catN n) : ∃ t : Sv.Tr, (Sv.trs (n - 1))[q]? = some t ∧ t.size = n ∧ treeC n q = 0 ∧ treeE n q = t.lst 0 := by
  have e := Sv.lsI_link Sv.tpeqA Sv.tpAll_ok 8 (n - 1) 0 q
  rw [Nat.zero_add] at e
  have hl := trs_cat n h1 h8
  obtain ⟨t, h2, h3⟩ := Sv.lsN_get Sv.tpAll_ok 8 0 (n - 1) q (by omega) (by unfold Sv.gN; rw [Sv.trs_g, hl]; exact hq)
  rw [Sv.trs_g] at h2
  have hs := (Sv.mem_trs _ _).1 (List.mem_of_getElem? h2)
  refine ⟨t, h2, by omega, ?_, ?_⟩
  · unfold treeC
    rw [if_pos (by omega), Int.toNat_natCast, many_cat n h1 h8, if_pos (by unfold inB; simp; omega)]
  · unfold treeE
    rw [if_pos (by omega), Int.toNat_natCast, many_cat n h1 h8, if_pos (by unfold inB; simp; omega), e, h3]
theorem tree_none (n : Nat) (h1 : 1 ≤ n) (h8 : n ≤ 8) : treeC n (catN n : Nat) = 2 ∧ treeE n (catN n : Nat) = [] := by
  constructor
  · unfold treeC
    rw [if_pos (by omega), Int.toNat_natCast, many_cat n h1 h8, if_neg (by unfold inB; simp)]
  · unfold treeE
    rw [if_pos (by omega), Int.toNat_natCast, many_cat n h1 h8, if_neg (by unfold inB; simp)]
theorem cat_nth (n : Nat) (_h1 : 1 ≤ n) (h8 : n ≤ 8) : nth [0, 1, 1, 2, 5, 14, 42, 132, 429] n = (catN n : Nat) := by
  have : n = 0 ∨ n = 1 ∨ n = 2 ∨ n = 3 ∨ n = 4 ∨ n = 5 ∨ n = 6 ∨ n = 7 ∨ n = 8 := by omega
  rcases this with rfl | rfl | rfl | rfl | rfl | rfl | rfl | rfl | rfl <;> decide
theorem valid_iff (n : Nat) (h1 : 1 ≤ n) (h8 : n ≤ 8) (zs : List Int) : validE n zs = 0 ↔ ∃ t : Sv.Tr, t.size = n ∧ zs = t.lst 0 := by
  have h := Sv.rd_iff (n - 1) (by omega) zs
  have e : ((n - 1 : Nat) : Int) = (n : Int) - 1 := by omega
  rw [e, show n - 1 + 1 = n by omega] at h
  rw [← h]
  unfold validE
  rw [if_pos (by omega)]
  constructor
  · intro q
    split at q
    · assumption
    · omega
  · intro q
    rw [q]
theorem valid_shape (n : Nat) (h1 : 1 ≤ n) (h8 : n ≤ 8) (zs : List Int) (h : ¬ ∃ t : Sv.Tr, t.size = n ∧ zs = t.lst 0) : validE n zs = 5 := by
  rw [← valid_iff n h1 h8] at h
  unfold validE at h ⊢
  rw [if_pos (by omega)] at h ⊢
  split
  · rename_i e; rw [e] at h; exact absurd rfl h
  · rfl
theorem valid_tree (t : Sv.Tr) (h8 : t.size ≤ 8) : validE t.size (t.lst 0) = 0 := (valid_iff t.size (Sv.size_pos t) h8 _).2 ⟨t, rfl, rfl⟩
def castL (l : List Nat) : List Int := l.map fun (d : Nat) => (d : Int)
theorem castL_len (l : List Nat) : (castL l).length = l.length := by unfold castL; simp
theorem depths_tree (t : Sv.Tr) (h8 : t.size ≤ 8) : depthsE t.size (t.lst 0) = castL t.dep := by
  unfold depthsE
  rw [if_pos (valid_tree t h8), Int.toNat_natCast, Sv.depE_tree t t.size rfl]
  rfl
theorem asked_tree (t : Sv.Tr) (h8 : t.size ≤ 8) (k : Nat) (hk : k < t.size) : askedC t.size (t.lst 0) k = 0 ∧ askedE t.size (t.lst 0) k = Sv.pth 0 t k := by
  have hc : askedC t.size (t.lst 0) k = 0 := by
    unfold askedC
    rw [if_pos (valid_tree t h8), if_pos (by unfold inB; simp; omega)]
  refine ⟨hc, ?_⟩
  unfold askedE
  rw [if_pos hc]
  have h := Sv.ask_tree t 0 k [] (by omega) (by omega)
  rw [List.append_nil, Nat.zero_add] at h
  have e : ((t.size - 1 : Nat) : Int) = (t.size : Int) - 1 := by have := Sv.size_pos t; omega
  rw [e] at h
  exact h
theorem asked_out (t : Sv.Tr) (h8 : t.size ≤ 8) : askedC t.size (t.lst 0) t.size = 2 ∧ askedE t.size (t.lst 0) t.size = [] := by
  have hc : askedC t.size (t.lst 0) t.size = 2 := by
    unfold askedC
    rw [if_pos (valid_tree t h8), if_neg (by unfold inB; simp)]
  refine ⟨hc, ?_⟩
  unfold askedE
  rw [hc]; rfl
theorem lst_len' (t : Sv.Tr) : (t.lst 0).length = t.size - 1 := by have := Sv.lst_len 0 t; omega
end Go.Proofs.Ytjapconhehdcjaa
