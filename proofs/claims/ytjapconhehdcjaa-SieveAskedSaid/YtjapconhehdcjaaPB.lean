/- pure: lists that are read, ways, depths, trees of depths -/
import Derived.Test.YtjapconhehdcjaaPA
import Derived.Test.YtjapconhehdcjaaSX
namespace Go.Proofs.Ytjapconhehdcjaa
namespace Sv
theorem lst_mem : ∀ (t : Tr) (a : Nat), ∀ z ∈ t.lst a, (a : Int) ≤ z ∧ z + 1 < ((a + t.size : Nat) : Int)
  | .leaf, _, z, h => by simp [Tr.lst] at h
  | .node l r, a, z, h => by
    have h1 := size_pos l
    have h2 := size_pos r
    rw [Tr.lst] at h
    rw [Tr.size]
    rcases List.mem_cons.1 h with rfl | h
    · omega
    · rcases List.mem_append.1 h with h | h
      · have := lst_mem l a z h; omega
      · have := lst_mem r (a + l.size) z h; omega
/-- a list that is read is a tree's. -/
theorem rd_lst : ∀ (d a m : Nat) (t : Tr) (r : List Int), t.size = m + 1 → m < d → rdI d (a : Int) ((a + m : Nat) : Int) (t.lst a ++ r) = some r
  | 0, _, _, _, _, _, h => absurd h (by omega)
  | d + 1, a, m, .leaf, r, hs, _ => by
    have : m = 0 := by rw [Tr.size] at hs; omega
    subst this
    rw [Tr.lst, List.nil_append]
    cases r <;> rw [rdI, if_pos (by omega)]
  | d + 1, a, m, .node x y, r, hs, hd => by
    have h1 := size_pos x
    have h2 := size_pos y
    rw [Tr.size] at hs
    rw [Tr.lst, List.cons_append, rdI, if_neg (by omega), if_pos (by omega), List.append_assoc]
    have e1 := rd_lst d a (x.size - 1) x (y.lst (a + x.size) ++ r) (by omega) (by omega)
    rw [show ((a + (x.size - 1) : Nat) : Int) = ((a + x.size - 1 : Nat) : Int) by omega] at e1
    rw [e1]
    have e2 := rd_lst d (a + x.size) (y.size - 1) y r (by omega) (by omega)
    rw [show ((a + x.size + (y.size - 1) : Nat) : Int) = ((a + m : Nat) : Int) by omega] at e2
    show rdI d (((a + x.size - 1 : Nat) : Int) + 1) _ _ = _
    rw [show ((a + x.size - 1 : Nat) : Int) + 1 = ((a + x.size : Nat) : Int) by omega]
    exact e2
theorem rd_ok : ∀ (d a m : Nat) (zs r : List Int), rdI d (a : Int) ((a + m : Nat) : Int) zs = some r → ∃ t : Tr, t.size = m + 1 ∧ zs = t.lst a ++ r
  | 0, _, _, _, _, h => by simp [rdI] at h
  | d + 1, a, m, [], r, h => by
    rw [rdI] at h
    by_cases hm : m = 0
    · subst hm
      rw [if_pos (by omega)] at h
      injection h with h
      exact ⟨.leaf, rfl, by rw [← h]; rfl⟩
    · rw [if_neg (by omega)] at h; cases h
  | d + 1, a, m, s :: q, r, h => by
    rw [rdI] at h
    by_cases hm : m = 0
    · subst hm
      rw [if_pos (by omega)] at h
      injection h with h
      exact ⟨.leaf, rfl, by rw [← h]; rfl⟩
    · rw [if_neg (by omega)] at h
      by_cases hs : (a : Int) ≤ s ∧ s < ((a + m : Nat) : Int)
      · rw [if_pos hs] at h
        obtain ⟨k, rfl⟩ : ∃ k : Nat, s = ((a + k : Nat) : Int) := ⟨(s - a).toNat, by omega⟩
        have hk : k < m := by omega
        cases e : rdI d (a : Int) ((a + k : Nat) : Int) q with
        | none => rw [e] at h; cases h
        | some q' =>
          rw [e] at h
          obtain ⟨x, hx, rfl⟩ := rd_ok d a k q q' e
          have h2 : rdI d (((a + k + 1 : Nat) : Int)) ((a + k + 1 + (m - k - 1) : Nat) : Int) q' = some r := by
            rw [show a + k + 1 + (m - k - 1) = a + m by omega]
            exact h
          obtain ⟨y, hy, rfl⟩ := rd_ok d (a + k + 1) (m - k - 1) q' r h2
          refine ⟨.node x y, by rw [Tr.size]; omega, ?_⟩
          rw [Tr.lst, hx, List.cons_append, List.append_assoc, show a + (k + 1) - 1 = a + k by omega, show a + (k + 1) = a + k + 1 by omega]
      · rw [if_neg hs] at h; cases h
theorem lst_inj : ∀ (t u : Tr) (a : Nat), t.size = u.size → t.lst a = u.lst a → t = u := fun t u a hs h => by
  -- read both
  have key : ∀ (t u : Tr) (a : Nat) (r r' : List Int), t.size = u.size → t.lst a ++ r = u.lst a ++ r' → t = u ∧ r = r' := by
    intro t
    induction t with
    | leaf =>
      intro u a r r' hs h
      cases u with
      | leaf => exact ⟨rfl, h⟩
      | node x y => have := size_pos x; have := size_pos y; rw [Tr.size, Tr.size] at hs; omega
    | node x y ihx ihy =>
      intro u a r r' hs h
      cases u with
      | leaf => have := size_pos x; have := size_pos y; rw [Tr.size, Tr.size] at hs; omega
      | node x' y' =>
        have h1 := size_pos x
        have h2 := size_pos x'
        rw [Tr.lst, Tr.lst, List.cons_append, List.cons_append, List.append_assoc, List.append_assoc] at h
        injection h with e1 e2
        have e3 : x.size = x'.size := by omega
        obtain ⟨rfl, e4⟩ := ihx x' a _ _ e3 e2
        rw [Tr.size, Tr.size] at hs
        obtain ⟨rfl, e5⟩ := ihy y' (a + x.size) _ _ (by omega) e4
        exact ⟨rfl, e5⟩
  exact (key t u a [] [] hs (by rw [List.append_nil, List.append_nil]; exact h)).1
/-- the sieves that lead to a kind. -/
def pth : Nat → Tr → Nat → List Int
  | _, .leaf, _ => []
  | a, .node l r, k => ((a + l.size - 1 : Nat) : Int) :: (if k < a + l.size then pth a l k else pth (a + l.size) r k)
theorem ask_none (k x : Int) : ∀ zs : List Int, askI k x x zs = []
  | [] => rfl
  | s :: zs => by rw [askI, if_neg (by omega)]; exact ask_none k x zs
theorem ask_skip (k x y : Int) (r : List Int) : ∀ zs : List Int, (∀ z ∈ zs, z < x) → askI k x y (zs ++ r) = askI k x y r
  | [], _ => rfl
  | s :: zs, h => by
    have := h s (by simp)
    rw [List.cons_append, askI, if_neg (by omega)]
    exact ask_skip k x y r zs fun z hz => h z (by simp [hz])
theorem ask_tree : ∀ (t : Tr) (a k : Nat) (r : List Int), a ≤ k → k < a + t.size → askI (k : Int) (a : Int) ((a + t.size - 1 : Nat) : Int) (t.lst a ++ r) = pth a t k
  | .leaf, a, k, r, _, _ => by
    rw [Tr.size, show a + 1 - 1 = a by omega, pth]; exact ask_none _ _ _
  | .node x y, a, k, r, h1, h2 => by
    have e1 := size_pos x
    have e2 := size_pos y
    rw [Tr.size] at h2 ⊢
    rw [Tr.lst, List.cons_append, askI, if_pos (by omega), pth, List.append_assoc]
    by_cases hk : k < a + x.size
    · rw [if_pos (by omega), if_pos hk, ask_tree x a k _ h1 hk]
    · rw [if_neg (by omega), if_neg hk, ask_skip _ _ _ _ _ (fun z hz => by have := lst_mem x a z hz; omega),
        show ((a + x.size - 1 : Nat) : Int) + 1 = ((a + x.size : Nat) : Int) by omega, show a + (x.size + y.size) - 1 = a + x.size + y.size - 1 by omega]
      rw [ask_tree y (a + x.size) k r (by omega) (by omega)]
theorem pth_len : ∀ (t : Tr) (a k : Nat), a ≤ k → k < a + t.size → t.dep[k - a]? = some (pth a t k).length
  | .leaf, a, k, h1, h2 => by
    rw [Tr.size] at h2
    rw [show k - a = 0 by omega]; rfl
  | .node x y, a, k, h1, h2 => by
    rw [Tr.size] at h2
    rw [Tr.dep, pth, List.length_cons, List.getElem?_map]
    by_cases hk : k < a + x.size
    · rw [if_pos hk, List.getElem?_append_left (by rw [dep_len]; omega), pth_len x a k h1 hk]; rfl
    · rw [if_neg hk, List.getElem?_append_right (by rw [dep_len]; omega), dep_len, show k - a - x.size = k - (a + x.size) by omega, pth_len y (a + x.size) k (by omega) (by omega)]; rfl
/-- the depths that the program tells are the tree's. -/
theorem depE_tree (t : Tr) (n : Nat) (hn : t.size = n) : depE n (t.lst 0) = t.dep.map fun (d : Nat) => (d : Int) := by
  refine List.ext_getElem? fun j => ?_
  unfold depE
  rw [List.getElem?_map, List.getElem?_map]
  by_cases hj : j < n
  · rw [List.getElem?_range hj]
    have h1 := ask_tree t 0 j [] (by omega) (by omega)
    have h2 := pth_len t 0 j (by omega) (by omega)
    rw [Nat.sub_zero] at h2
    rw [h2]
    show some (dep1 n (t.lst 0) j) = some _
    unfold dep1
    rw [List.append_nil, Nat.zero_add, show ((t.size - 1 : Nat) : Int) = (n : Int) - 1 by have := size_pos t; omega] at h1
    rw [show ((0 : Nat) : Int) = 0 from rfl] at h1
    rw [h1]
  · rw [List.getElem?_eq_none (by rw [List.length_range]; omega), List.getElem?_eq_none (by rw [dep_len]; omega)]; rfl
theorem mem_lists {n : Nat} {zs : List Int} : zs ∈ (trs n).map (Tr.lst 0) ↔ ∃ t : Tr, t.size = n + 1 ∧ zs = t.lst 0 := by
  rw [List.mem_map]
  constructor
  · rintro ⟨t, h, rfl⟩; exact ⟨t, (mem_trs n t).1 h, rfl⟩
  · rintro ⟨t, h, rfl⟩; exact ⟨t, (mem_trs n t).2 h, rfl⟩
theorem rd_iff (n : Nat) (hn : n < 8) (zs : List Int) : rdI 8 0 (n : Int) zs = some [] ↔ ∃ t : Tr, t.size = n + 1 ∧ zs = t.lst 0 := by
  constructor
  · intro h
    obtain ⟨t, h1, h2⟩ := rd_ok 8 0 n zs [] (by rw [Nat.zero_add]; exact h)
    exact ⟨t, h1, by rw [h2, List.append_nil]⟩
  · rintro ⟨t, h1, rfl⟩
    have := rd_lst 8 0 n t [] h1 hn
    rw [Nat.zero_add, List.append_nil] at this
    exact this
structure Prt where
  last : Int
  depth : Int
  tree : List Int
/-- two parts of one sieve. -/
def Prt.join (q p : Prt) : Prt := ⟨p.last, q.depth - 1, q.last :: (q.tree ++ p.tree)⟩
/-- the parts, the last one first. -/
def push : List Prt → Prt → List Prt
  | [], p => [p]
  | q :: s, p => if q.depth = p.depth then push s (q.join p) else p :: q :: s
def runM : List Prt → Nat → List Int → List Prt
  | s, _, [] => s
  | s, k, d :: ds => runM (push s ⟨(k : Int), d, []⟩) (k + 1) ds
def madeO (ds : List Int) : Option (List Int) :=
  match runM [] 0 ds with
  | [p] => if p.depth = 0 then some p.tree else none
  | _ => none
/-- the parts are trees of the kinds up to k, whose depths are these. -/
def Cov : List Prt → Nat → List Int → Prop
  | [], k, ds => k = 0 ∧ ds = []
  | p :: s, k, ds => ∃ (t : Tr) (a : Nat) (es : List Int), p.last = ((a + t.size - 1 : Nat) : Int) ∧ k = a + t.size ∧ p.tree = t.lst a ∧ ds = es ++ t.dep.map (fun (x : Nat) => (x : Int) + p.depth) ∧ Cov s a es
theorem cov_push : ∀ (s : List Prt) (p : Prt) (t : Tr) (a : Nat) (es : List Int), p.last = ((a + t.size - 1 : Nat) : Int) → p.tree = t.lst a → Cov s a es → Cov (push s p) (a + t.size) (es ++ t.dep.map (fun (x : Nat) => (x : Int) + p.depth))
  | [], p, t, a, es, h1, h2, h3 => ⟨t, a, es, h1, rfl, h2, rfl, h3⟩
  | q :: s, p, t, a, es, h1, h2, h3 => by
    rw [push]
    by_cases hq : q.depth = p.depth
    · rw [if_pos hq]
      obtain ⟨u, b, fs, e1, rfl, e3, rfl, e5⟩ := h3
      have hu := size_pos u
      have ht := size_pos t
      have := cov_push s (q.join p) (.node u t) b fs (by show p.last = _; rw [h1, Tr.size, Nat.add_assoc]) (by show q.last :: _ = _; rw [Tr.lst, e1, e3, h2]) e5
      rw [Tr.size, ← Nat.add_assoc] at this
      refine Eq.mp ?_ this
      congr 1
      rw [List.append_assoc, Tr.dep, List.map_append, List.map_append]
      congr 1
      show List.map _ (List.map _ _) ++ List.map _ (List.map _ _) = _
      rw [List.map_map, List.map_map]
      congr 1
      · refine List.map_congr_left fun x _ => ?_
        show ((x + 1 : Nat) : Int) + (q.depth - 1) = _
        omega
      · refine List.map_congr_left fun x _ => ?_
        show ((x + 1 : Nat) : Int) + (q.depth - 1) = _
        omega
    · rw [if_neg hq]
      exact ⟨t, a, es, h1, rfl, h2, rfl, h3⟩
theorem cov_run : ∀ (ds : List Int) (s : List Prt) (k : Nat) (es : List Int), Cov s k es → Cov (runM s k ds) (k + ds.length) (es ++ ds)
  | [], s, k, es, h => by rw [runM, List.append_nil]; exact h
  | d :: ds, s, k, es, h => by
    rw [runM]
    have h1 := cov_push s ⟨(k : Int), d, []⟩ .leaf k es (by show (k : Int) = _; rw [Tr.size]; omega) rfl h
    have h2 := cov_run ds _ (k + 1) _ h1
    rw [List.length_cons, show k + (ds.length + 1) = k + 1 + ds.length by omega]
    refine Eq.mp ?_ h2
    congr 1
    rw [List.append_assoc]
    congr 1
    show [((0 : Nat) : Int) + d] ++ ds = d :: ds
    simp
theorem made_some {ds zs : List Int} (h : madeO ds = some zs) : ∃ t : Tr, t.size = ds.length ∧ ds = t.dep.map (fun (x : Nat) => (x : Int)) ∧ zs = t.lst 0 := by
  unfold madeO at h
  have hc := cov_run ds [] 0 [] ⟨rfl, rfl⟩
  rw [Nat.zero_add, List.nil_append] at hc
  split at h
  · rename_i p e
    rw [e] at hc
    obtain ⟨t, a, es, h1, h2, h3, h4, rfl, rfl⟩ := hc
    split at h
    · rename_i hd
      injection h with h
      rw [Nat.zero_add] at h2
      refine ⟨t, h2.symm, ?_, by rw [← h, h3]⟩
      rw [h4, List.nil_append, hd]
      refine List.map_congr_left fun x _ => by omega
    · cases h
  · cases h
theorem run_tree : ∀ (t : Tr) (S : List Prt) (k : Nat) (d : Int) (ds : List Int), (∀ q ∈ S.head?, q.depth ≤ d) → runM S k (t.dep.map (fun (x : Nat) => (x : Int) + d) ++ ds) = runM (push S ⟨((k + t.size - 1 : Nat) : Int), d, t.lst k⟩) (k + t.size) ds
  | .leaf, S, k, d, ds, h => by
    show runM (push S ⟨(k : Int), ((0 : Nat) : Int) + d, []⟩) (k + 1) ds = _
    rw [Tr.size, show k + 1 - 1 = k by omega, show ((0 : Nat) : Int) + d = d by omega]; rfl
  | .node l r, S, k, d, ds, h => by
    have hl := size_pos l
    have hr := size_pos r
    rw [Tr.dep, List.map_map, List.map_append, List.append_assoc]
    have e : ∀ L : List Nat, L.map ((fun (x : Nat) => (x : Int) + d) ∘ fun x => x + 1) = L.map fun (x : Nat) => (x : Int) + (d + 1) := fun L => List.map_congr_left fun x _ => by
      show ((x + 1 : Nat) : Int) + d = _
      omega
    rw [e, e, run_tree l S k (d + 1) _ (fun q hq => by have := h q hq; omega)]
    have hp : push S ⟨((k + l.size - 1 : Nat) : Int), d + 1, l.lst k⟩ = ⟨((k + l.size - 1 : Nat) : Int), d + 1, l.lst k⟩ :: S := by
      cases S with
      | nil => rfl
      | cons q S =>
        have := h q (by simp)
        rw [push, if_neg (by show ¬ q.depth = d + 1; omega)]
    rw [hp, run_tree r _ (k + l.size) (d + 1) _ (fun q hq => by simp at hq; rw [← hq]; exact Int.le_refl _)]
    rw [push, if_pos rfl, Tr.size, Tr.lst, Nat.add_assoc]
    congr 2
    unfold Prt.join
    congr 1
    show d + 1 - 1 = d
    omega
theorem made_tree (t : Tr) : madeO (t.dep.map fun (x : Nat) => (x : Int)) = some (t.lst 0) := by
  unfold madeO
  have h := run_tree t [] 0 0 [] (by simp)
  rw [List.append_nil, Nat.zero_add, show (t.dep.map fun (x : Nat) => (x : Int) + 0) = t.dep.map fun (x : Nat) => (x : Int) from List.map_congr_left fun x _ => by omega] at h
  rw [h, push, runM]
  rfl
theorem dep_inj {t u : Tr} (h : t.dep = u.dep) : t = u := by
  have h1 := made_tree t
  rw [h, made_tree u] at h1
  injection h1 with h1
  exact lst_inj t u 0 (by rw [← dep_len, ← dep_len, h]) h1.symm
end Sv
end Go.Proofs.Ytjapconhehdcjaa
