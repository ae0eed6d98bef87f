/- what the laws of lane share: signed_ok2, count_ok3, table_ok2 -/
import Derived.Test.YtflllkamdihfaaaLHA
import Derived.Test.YtflllkamdihfaaaLGD
import Derived.Test.YtflllkamdihfaaaLGE
import Derived.Test.YtflllkamdihfaaaLGC
import Derived.Test.YtflllkamdihfaaaLGA
import Derived.Test.YtflllkamdihfaaaLBJ
import Derived.Test.YtflllkamdihfaaaLCD
import Derived.Test.YtflllkamdihfaaaLMC
import Derived.Test.YtflllkamdihfaaaLMB
import Derived.Test.YtflllkamdihfaaaLMA
import Derived.Test.YtflllkamdihfaaaLBG
import Derived.Deep.DeepCutAuto
namespace Go.Proofs.Ytflllkamdihfaaa
open Go.RowKit Go.Sort
theorem own_pos {w : World} {B n : Nat} {a : Option Addr} {cap : Nat} {L : List Int} (h : Owns w B (.slice a n cap) L) (hn : n = L.length) (h0 : 0 < n) : ∃ g c, Value.slice a n cap = .slice (some ⟨g, 0, none⟩) n c ∧ n ≤ c ∧ IntsAt w (some ⟨g, 0, none⟩) L := by
  subst hn
  rcases h.2 with ⟨_, h1⟩ | ⟨g, c, cur, e, _, _, hc, _⟩
  · omega
  · refine ⟨g, c, e, hc, ?_⟩
    rw [e] at h
    exact Owns.at h rfl
theorem two_cell {w : World} {B : Nat} {t : TypeId} {x y : Value} (h : w.heap[B]? = some (.cells #[x, y] t)) : w.cell? ⟨B, 0, none⟩ = some x ∧ w.cell? ⟨B, 1, none⟩ = some y ∧ w.frozen? ⟨B, 0, none⟩ = false ∧ w.frozen? ⟨B, 1, none⟩ = false := by
  refine ⟨?_, ?_, ?_, ?_⟩
  · unfold World.cell?; rw [h]; rfl
  · unfold World.cell?; rw [h]; rfl
  · unfold World.frozen?; rw [h]; rfl
  · unfold World.frozen?; rw [h]; rfl
theorem two_set0 {w : World} {B : Nat} {t : TypeId} {x y : Value} (u : Value) (h : w.heap[B]? = some (.cells #[x, y] t)) : (w.setCell ⟨B, 0, none⟩ u).heap[B]? = some (.cells #[u, y] t) := by
  rw [setCell_eq_setRow w B 0 _ t (0, 0) u h, setRow_heap _ _ _ _ _ _ h]; rfl
theorem two_set1 {w : World} {B : Nat} {t : TypeId} {x y : Value} (u : Value) (h : w.heap[B]? = some (.cells #[x, y] t)) : (w.setCell ⟨B, 1, none⟩ u).heap[B]? = some (.cells #[x, u] t) := by
  rw [setCell_eq_setRow w B 1 _ t (0, 0) u h, setRow_heap _ _ _ _ _ _ h]; rfl
theorem boxP_heap {w : World} {B : Nat} {r c : Int} {a : Option Addr} {n cap : Nat} {t : TypeId} (h : w.heap[B]? = some (.cells #[.int .i64 r, .int .i64 c, .slice a n cap] t)) : BoxP w B r c a n cap := boxP_of h
/-- the rows of those corners in a column that are chosen and open. -/
def selL (b : Nat → Bool) (f : Nat → Int) (S : List Int) (i : Nat) : List Int := ((List.range i).filter fun q => b q && !S.contains (f q)).map f
theorem sel_succ (b : Nat → Bool) (f : Nat → Int) (S : List Int) (i : Nat) : selL b f S (i + 1) = selL b f S i ++ (if (b i && !S.contains (f i)) = true then [f i] else []) := by
  unfold selL
  rw [List.range_succ, List.filter_append, List.map_append]
  congr 1
  by_cases h : (b i && !S.contains (f i)) = true
  · rw [if_pos h, List.filter_cons_of_pos (p := fun q => b q && !S.contains (f q)) h]; rfl
  · rw [if_neg h, List.filter_cons_of_neg (p := fun q => b q && !S.contains (f q)) h]; rfl
theorem sel_len (b : Nat → Bool) (f : Nat → Int) (S : List Int) (i : Nat) : (selL b f S i).length ≤ i := by
  unfold selL; rw [List.length_map]; exact Nat.le_trans (List.length_filter_le _ _) (by simp)
theorem sel_mem {b : Nat → Bool} {f : Nat → Int} {S : List Int} {i : Nat} {x : Int} (h : x ∈ selL b f S i) : ∃ q, q < i ∧ x = f q ∧ x ∉ S := by
  unfold selL at h
  obtain ⟨q, hq, rfl⟩ := List.mem_map.1 h
  obtain ⟨h1, h2⟩ := List.mem_filter.1 hq
  rw [List.mem_range] at h1
  simp only [Bool.and_eq_true, Bool.not_eq_true'] at h2
  exact ⟨q, h1, rfl, fun q2 => by have := h2.2; simp at this; exact this q2⟩
theorem sel_asc (b : Nat → Bool) {f : Nat → Int} (hf : ∀ p q, p < q → f p < f q) (S : List Int) (i : Nat) : (selL b f S i).Pairwise (· < ·) := by
  unfold selL
  rw [List.pairwise_map]
  exact (List.pairwise_lt_range.filter _).imp (fun h => hf _ _ h)
def shB8 (q n : Nat) : Bool := bits BinOp.and IntKind.u8 ((q : Int) / 2 ^ n) 1 == 1
theorem straight_ok {r c : Nat} (h1 : 1 ≤ r ∧ r ≤ 4) (h2 : 1 ≤ c ∧ c ≤ 4) (bb b1 b2 : Nat → Bool) (k : Nat) (hk : 1 ≤ k) (hk3 : k ≤ 3) (hY : k ≤ (selL b1 (fun q => (q : Int) * c) (shL bb (r * c)) r).length) (hT : k ≤ (selL b2 (fun q => ((q : Int) + 1) * c - 1) (shL bb (r * c)) r).length) :
    chkP (r : Int) (c : Int) (shL bb (r * c)) ((selL b1 (fun q => (q : Int) * c) (shL bb (r * c)) r).take k) ((selL b2 (fun q => ((q : Int) + 1) * c - 1) (shL bb (r * c)) r).take k) = 0 ∧
    sgnV (r : Int) (c : Int) (shL bb (r * c)) ((selL b1 (fun q => (q : Int) * c) (shL bb (r * c)) r).take k) ((selL b2 (fun q => ((q : Int) + 1) * c - 1) (shL bb (r * c)) r).take k) = ((famL (c : Int) ((r : Int) * (c : Int)) (shL bb (r * c)) ((selL b1 (fun q => (q : Int) * c) (shL bb (r * c)) r).take k) ((selL b2 (fun q => ((q : Int) + 1) * c - 1) (shL bb (r * c)) r).take k)).length : Int) := by
  have hc0 : (1 : Int) ≤ c := by omega
  have hs : Side (r : Int) (c : Int) ((r : Int) * (c : Int)) := ⟨by omega, by omega, by omega, by omega, rfl⟩
  have mono1 : ∀ p q : Nat, p < q → (p : Int) * c < (q : Int) * c := fun p q h => Int.mul_lt_mul_of_pos_right (by omega) (by omega)
  have mono2 : ∀ p q : Nat, p < q → ((p : Int) + 1) * c - 1 < ((q : Int) + 1) * c - 1 := fun p q h => by
    have : ((p : Int) + 1) * c < ((q : Int) + 1) * c := Int.mul_lt_mul_of_pos_right (by omega) (by omega)
    omega
  have aY := (sel_asc b1 (f := fun q => (q : Int) * c) mono1 (shL bb (r * c)) r).sublist (List.take_sublist k _)
  have aT := (sel_asc b2 (f := fun q => ((q : Int) + 1) * c - 1) mono2 (shL bb (r * c)) r).sublist (List.take_sublist k _)
  have mY : ∀ x ∈ (selL b1 (fun q => (q : Int) * c) (shL bb (r * c)) r).take k, (0 ≤ x ∧ x < (r : Int) * c ∧ x ∉ shL bb (r * c)) ∧ x % (c : Int) = 0 := fun x hx => by
    obtain ⟨q, hq, rfl, hn⟩ := sel_mem (List.mem_of_mem_take hx)
    have h3 : (q : Int) * c < (r : Int) * c := Int.mul_lt_mul_of_pos_right (by omega) (by omega)
    have h4 : 0 ≤ (q : Int) * c := Int.mul_nonneg (by omega) (by omega)
    exact ⟨⟨h4, h3, hn⟩, by simp⟩
  have mT : ∀ x ∈ (selL b2 (fun q => ((q : Int) + 1) * c - 1) (shL bb (r * c)) r).take k, (0 ≤ x ∧ x < (r : Int) * c ∧ x ∉ shL bb (r * c)) ∧ x % (c : Int) = c - 1 := fun x hx => by
    obtain ⟨q, hq, rfl, hn⟩ := sel_mem (List.mem_of_mem_take hx)
    have h3 : ((q : Int) + 1) * c ≤ (r : Int) * c := Int.mul_le_mul_of_nonneg_right (by omega) (by omega)
    have h4 : 1 * (c : Int) ≤ ((q : Int) + 1) * c := Int.mul_le_mul_of_nonneg_right (by omega) (by omega)
    refine ⟨⟨by omega, by omega, hn⟩, ?_⟩
    have e : ((q : Int) + 1) * c - 1 = (c - 1) + (q : Int) * c := by rw [Int.add_mul]; omega
    rw [e, Int.add_mul_emod_self_right]
    exact Int.emod_eq_of_lt (by omega) (by omega)
  have hg : ChkG (r : Int) (c : Int) (shL bb (r * c)) ((selL b1 (fun q => (q : Int) * c) (shL bb (r * c)) r).take k) ((selL b2 (fun q => ((q : Int) + 1) * c - 1) (shL bb (r * c)) r).take k) :=
    ⟨hs, by rw [List.length_take, List.length_take]; omega, by rw [List.length_take]; omega, by rw [List.length_take]; omega, fun x hx => (mY x hx).1, fun x hx => (mT x hx).1, aY.imp (fun h => by omega), aT.imp (fun h => by omega)⟩
  have hck := chk_good hg (fun x hx => by
    obtain ⟨n, rfl, h3, _⟩ := sh_mem.1 hx
    exact ⟨by omega, by rw [← Int.natCast_mul]; omega⟩) (sh_asc _ _)
  exact ⟨hck, straight hck aY aT (fun y hy => (mY y hy).2) (fun t ht => (mT t ht).2)⟩
theorem signed_ok2 {r c : Int} {a : Option Addr} {cap : Nat} {S : List Int} {ya : Option Addr} {yc : Nat} {Y : List Int} {ta : Option Addr} {tc : Nat} {T : List Int} {w : World} (h : InPQ w a S ya yc Y ta tc T) (hc : chkP r c S Y T = 0) {n p q : Nat} (hn : S.length = n) (hp : Y.length = p) (hq : T.length = q) {k : Int} (hk : sgnV r c S Y T = k) :
    Calls Try.prog 23 #[parV r c a n cap, plaV ya p yc ta q tc] w fun e w' => e = .returned (.tuple #[.int .i64 k, .int .i64 0]) ∧ Fut w w' := by
  subst hn hp hq hk
  have := signed_any r c a cap S ya yc Y ta tc T w h
  rw [hc] at this
  exact this
theorem count_ok3 {r c : Int} {a : Option Addr} {cap : Nat} {S : List Int} {ya : Option Addr} {yc : Nat} {Y : List Int} {ta : Option Addr} {tc : Nat} {T : List Int} {w : World} (h : InPQ w a S ya yc Y ta tc T) (hc : chkP r c S Y T = 0) {n p q : Nat} (hn : S.length = n) (hp : Y.length = p) (hq : T.length = q) {k : Nat} (hk : (famL c (r * c) S Y T).length = k) :
    Calls Try.prog 25 #[parV r c a n cap, plaV ya p yc ta q tc] w fun e w' => e = .returned (.tuple #[.int .i64 (k : Nat), .int .i64 0]) ∧ Fut w w' := by
  subst hp hq
  exact count_ok2 h hc hn hk
theorem sgn_le {r c : Int} {S Y T : List Int} (hc : chkP r c S Y T = 0) : -1688849860263936 ≤ sgnV r c S Y T ∧ sgnV r c S Y T ≤ 1688849860263936 := by
  have hg := chk_all hc
  have h := (det_le Y.length (tabL r c S Y T) (tab_good hc).2.2.2).1
  have hk : detK Y.length ≤ 1688849860263936 := by
    have h1 := hg.one
    have h3 := hg.three
    rcases (by omega : Y.length = 1 ∨ Y.length = 2 ∨ Y.length = 3) with e | e | e <;> rw [e] <;> decide
  unfold sgnV
  rw [if_pos hc]
  omega
theorem table_ok2 {r c : Int} {a : Option Addr} {cap : Nat} {S : List Int} {ya : Option Addr} {yc : Nat} {Y : List Int} {ta : Option Addr} {tc : Nat} {T : List Int} {w : World} (h : InPQ w a S ya yc Y ta tc T) (hc : chkP r c S Y T = 0) {n p q : Nat} (hn : S.length = n) (hp : Y.length = p) (hq : T.length = q) {tb : List (List Int)} (hk : tabL r c S Y T = tb) :
    Calls Try.prog 18 #[parV r c a n cap, plaV ya p yc ta q tc] w (TupLC 0 tb w) := by
  subst hn hp hq hk
  have := table_any r c a cap S ya yc Y ta tc T w h
  rw [hc] at this
  exact this
end Go.Proofs.Ytflllkamdihfaaa
