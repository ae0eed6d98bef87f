/- Layers 1 and 2: what corners claim for a round. -/
import Derived.Test.YtimddkofcejijaaWC
import Derived.Test.YtimddkofcejijaaEB
import Derived.Test.YtimddkofcejijaaRT
namespace Go.Proofs.Ytimddkofcejijaa
open Go.RowKit Go.Sort
namespace Tp
def kL (K : Nat → Nat) (m : Nat) : List Int := (List.range m).map fun i => (K i : Int)
theorem kL_len (K : Nat → Nat) (m : Nat) : (kL K m).length = m := by unfold kL; simp
theorem kL_nth {K : Nat → Nat} {m i : Nat} (h : i < m) : nth (kL K m) i = (K i : Int) := by
  rw [nth_eq]; unfold kL
  rw [List.getElem?_map, List.getElem?_range h]; rfl
theorem oth_sum {ss : List (Int × Int)} {i x : Nat} (h : touches (en1 ss) (en2 ss) i x) : ((oth (en1 ss) (en2 ss) i x : Nat) : Int) = (en1 ss i : Int) + en2 ss i - x := by
  unfold oth
  rcases h with h | h
  · rw [if_pos h]; omega
  · by_cases e : en1 ss i = x
    · rw [if_pos e]; omega
    · rw [if_neg e]; omega
theorem oth_lt {ss : List (Int × Int)} {c i x : Nat} (hg : GoodS ss c) (hi : i < ss.length) (h : touches (en1 ss) (en2 ss) i x) : oth (en1 ss) (en2 ss) i x < c ∧ x < c := by
  have := good_str hg hi
  unfold oth
  rcases h with h | h
  · rw [if_pos h]; omega
  · by_cases e : en1 ss i = x
    · rw [if_pos e]; omega
    · rw [if_neg e]; omega
abbrev ints' (r : List Nat) : List Int := r.map fun (i : Nat) => (i : Int)
theorem goE_wk {ss : List (Int × Int)} {c : Nat} (hg : GoodS ss c) : ∀ (r : List Nat) (x y : Nat), wk (en1 ss) (en2 ss) x r = some y → (∀ i ∈ r, i < ss.length) → goE ss (ints' r) x = (0, (y : Int))
  | [], x, y, h, _ => by simp [wk] at h; subst h; rfl
  | i :: r, x, y, h, hm => by
    have hi := hm i (List.mem_cons_self ..)
    unfold wk at h
    split at h
    · rename_i ht
      have ih := goE_wk hg r _ y h fun j hj => hm j (List.mem_cons_of_mem _ hj)
      obtain ⟨g1, g2, g3, g4⟩ := good_str hg hi
      show (if inB ss.length (i : Int) then _ else _) = _
      have hb : inB ss.length (i : Int) = true := by unfold inB; simp; exact hi
      rw [if_pos hb]
      show (if (endsM (str ss (i : Int).toNat)).testBit (x : Int).toNat then goE ss (ints' r) ((str ss (i : Int).toNat).1 + (str ss (i : Int).toNat).2 - x) else (12, 0)) = _
      rw [Int.toNat_natCast, Int.toNat_natCast, if_pos (touch_bit.2 ht), g3, g4, ← oth_sum ht]
      exact ih
    · cases h
theorem cnt_cast (r : List Nat) (i : Nat) : (ints' r).count (i : Int) = r.count i := by
  induction r with
  | nil => rfl
  | cons k r ih =>
    show ((k : Int) :: ints' r).count (i : Int) = _
    rw [List.count_cons, List.count_cons, ih]
    by_cases e : k = i
    · subst e; simp
    · have : ((k : Int) == (i : Int)) = false := by rw [beq_eq_false_iff_ne]; omega
      rw [this, show (k == i) = false by simpa using e]
theorem oft_kL {m : Nat} {K : Nat → Nat} {r : List Nat} (h : ∀ i, i < m → r.count i = K i) : oftL m (ints' r) = kL K m := by
  unfold oftL kL
  refine List.map_congr_left fun i hi => ?_
  rw [cnt_cast, h i (List.mem_range.1 hi)]
/-- a whole way is a round. -/
theorem goes_full {ss : List (Int × Int)} {n : Nat} {K : Nat → Nat} {r : List Nat} (hc : chkM n ss = 0) (h : wk (en1 ss) (en2 ss) 0 r = some 0) (hm : ∀ i ∈ r, i < ss.length) (hK : ∀ i, i < ss.length → r.count i = K i ∧ 0 < K i) :
    goesE n ss (ints' r) = 0 ∧ goesR n ss (ints' r) = kL K ss.length := by
  obtain ⟨_, _, _, _, hp, _⟩ := chk_good hc
  have hE : goesE n ss (ints' r) = 0 := by
    unfold goesE
    have h1 := goE_wk (c := n) hp r 0 0 h hm
    have h1' : goE ss (ints' r) 0 = (0, 0) := h1
    rw [hc, if_pos rfl, h1', if_pos rfl, if_pos rfl, oft_kL (fun i hi => (hK i hi).1), if_neg]
    intro hh
    rw [List.contains_iff_mem] at hh
    unfold kL at hh
    obtain ⟨i, hi, e⟩ := List.mem_map.1 hh
    have := (hK i (List.mem_range.1 hi)).2
    omega
  refine ⟨hE, ?_⟩
  unfold goesR
  rw [hE, if_pos rfl, oft_kL (fun i hi => (hK i hi).1)]
section
variable {e1 e2 : Nat → Nat} {m : Nat}
/-- how often one comes to a corner. -/
def pas (e1 e2 : Nat → Nat) : Nat → List Nat → Nat → Nat
  | _, [], _ => 0
  | x, i :: t, v => ind (oth e1 e2 i x) v + pas e1 e2 (oth e1 e2 i x) t v
theorem pas_le (v : Nat) : ∀ (t : List Nat) (x : Nat), pas e1 e2 x t v ≤ t.length
  | [], _ => Nat.le_refl _
  | i :: t, x => by
    have := pas_le v t (oth e1 e2 i x)
    unfold pas ind
    rw [List.length_cons]
    split <;> omega
theorem pas_app (v : Nat) : ∀ (t : List Nat) (x y i : Nat), wk e1 e2 x t = some y → pas e1 e2 x (t ++ [i]) v = pas e1 e2 x t v + ind (oth e1 e2 i y) v
  | [], x, y, i, h => by
    have : x = y := by simpa [wk] using h
    subst this
    simp [pas]
  | j :: t, x, y, i, h => by
    unfold wk at h
    by_cases ht : touches e1 e2 j x
    · rw [if_pos ht] at h
      have ih := pas_app v t _ y i h
      show ind (oth e1 e2 j x) v + pas e1 e2 (oth e1 e2 j x) (t ++ [i]) v = ind (oth e1 e2 j x) v + pas e1 e2 (oth e1 e2 j x) t v + _
      rw [ih]; omega
    · rw [if_neg ht] at h; cases h
theorem pas_dg (hne : ∀ i, i < m → e1 i ≠ e2 i) (v : Nat) : ∀ (t : List Nat) (x y : Nat), wk e1 e2 x t = some y → (∀ i ∈ t, i < m) → dg e1 e2 m (fun i => t.count i) v + ind y v = 2 * pas e1 e2 x t v + ind x v
  | [], x, y, h, _ => by
    have : x = y := by simpa [wk] using h
    subst this
    have h2 : dg e1 e2 m (fun i => ([] : List Nat).count i) v = 0 := sm_zero m fun i _ => by simp
    rw [h2]; simp [pas]
  | i :: t, x, y, h, hm => by
    have hi := hm i (List.mem_cons_self ..)
    unfold wk at h
    by_cases ht : touches e1 e2 i x
    · rw [if_pos ht] at h
      have ih := pas_dg hne v t _ y h (fun j hj => hm j (List.mem_cons_of_mem _ hj))
      have h1 := dg_less (e1 := e1) (e2 := e2) (K := fun j => (i :: t).count j) hi (by simp) v
      have h2 : less1 (fun j => (i :: t).count j) i = fun j => t.count j := by
        funext j
        unfold less1
        by_cases e : j = i
        · subst e; rw [if_pos rfl]; simp
        · rw [if_neg e]
          show (i :: t).count j = t.count j
          rw [List.count_cons, if_neg (by simpa using fun e' : i = j => e e'.symm)]; omega
      rw [h2, ind_oth (hne i hi) ht v] at h1
      rw [h1]
      show _ = 2 * (ind (oth e1 e2 i x) v + pas e1 e2 (oth e1 e2 i x) t v) + _
      omega
    · rw [if_neg ht] at h; cases h
theorem sm_ge {f : Nat → Nat} {i : Nat} : ∀ m, i < m → f i ≤ sm m f
  | m + 1, h => by
    rw [sm_succ]
    by_cases e : i = m
    · subst e; omega
    · have := sm_ge (f := f) (i := i) m (by omega)
      omega
theorem pas_sum {n : Nat} (hlt : ∀ i x, i < m → touches e1 e2 i x → oth e1 e2 i x < n) : ∀ (t : List Nat) (x y : Nat), wk e1 e2 x t = some y → (∀ i ∈ t, i < m) → sm n (fun v => pas e1 e2 x t v) = t.length
  | [], _, _, _, _ => sm_zero n fun _ _ => rfl
  | i :: t, x, y, h, hm => by
    unfold wk at h
    by_cases ht : touches e1 e2 i x
    · rw [if_pos ht] at h
      have ih := pas_sum hlt t _ y h (fun j hj => hm j (List.mem_cons_of_mem _ hj))
      have h1 : sm n (fun v => pas e1 e2 x (i :: t) v) = sm n (fun v => ind (oth e1 e2 i x) v + pas e1 e2 (oth e1 e2 i x) t v) := rfl
      rw [h1, sm_add, ih]
      have h2 : sm n (fun v => ind (oth e1 e2 i x) v) = sm n (fun v => if v = oth e1 e2 i x then 1 else 0) := sm_congr n fun v _ => by
        unfold ind
        by_cases e : oth e1 e2 i x = v
        · rw [if_pos e, if_pos e.symm]
        · rw [if_neg e, if_neg fun h => e h.symm]
      rw [h2, sm_one, if_pos (hlt i x (hm i (List.mem_cons_self ..)) ht), List.length_cons]; omega
    · rw [if_neg ht] at h; cases h
end
theorem sum_sm (f : Nat → Nat) : ∀ n, (kL f n).sum = ((sm n f : Nat) : Int)
  | 0 => rfl
  | n + 1 => by
    have ih := sum_sm f n
    unfold kL at ih ⊢
    rw [List.range_succ, List.map_append, List.sum_append, ih, sm_succ]
    simp
theorem sm_dbl (f : Nat → Nat) : ∀ n, sm n (fun v => 2 * f v) = 2 * sm n f
  | 0 => rfl
  | n + 1 => by rw [sm_succ, sm_succ, sm_dbl f n]; omega
/-- a change of one number. -/
theorem kL_set {f g : Nat → Nat} {n x : Nat} {u : Int} (hx : (g x : Int) = u) (hg : ∀ v, v < n → v ≠ x → g v = f v) : (kL f n).set x u = kL g n := by
  refine List.ext_getElem (by rw [List.length_set, kL_len, kL_len]) fun j h1 h2 => ?_
  rw [List.length_set, kL_len] at h1
  have hgl : ∀ (q : Nat → Nat) (h : j < (kL q n).length), (kL q n)[j] = (q j : Int) := fun q h => by simp [kL]
  rw [List.getElem_set, hgl, hgl]
  by_cases e : x = j
  · subst e; rw [if_pos rfl]; exact hx.symm
  · rw [if_neg e, hg j h1 (fun h => e h.symm)]
/-- what corners claim by the first streets. -/
def cl (ss : List (Int × Int)) (K : Nat → Nat) (k v : Nat) : Nat := sm k fun i => K i * (ind (en1 ss i) v + ind (en2 ss i) v)
theorem cl_succ (ss : List (Int × Int)) (K : Nat → Nat) (k v : Nat) : cl ss K (k + 1) v = cl ss K k v + K k * (ind (en1 ss k) v + ind (en2 ss k) v) := rfl
theorem cl_le {ss : List (Int × Int)} {K : Nat → Nat} {v : Nat} (hK : ∀ i, i < ss.length → K i ≤ 2) : ∀ k, k ≤ ss.length → cl ss K k v ≤ 4 * k
  | 0, _ => Nat.le_refl _
  | k + 1, h => by
    have := cl_le hK (v := v) k (by omega)
    have h2 := hK k (by omega)
    rw [cl_succ]
    have h3 : ind (en1 ss k) v + ind (en2 ss k) v ≤ 2 := by unfold ind; split <;> split <;> omega
    have h4 : K k * (ind (en1 ss k) v + ind (en2 ss k) v) ≤ 2 * 2 := Nat.mul_le_mul h2 h3
    omega
theorem asc8 : ∀ c : Fin 9, ∀ S : Fin 256, S.val < 2 ^ c.val → ascE c.val (listM S.val) (-1) = 0 := by decide +kernel
theorem setM8 : ∀ S : Fin 256, setM (listM S.val) = S.val := by decide +kernel
theorem sm_two {K : Nat → Nat} : ∀ m, (∀ i, i < m → K i ≤ 2) → sm m K ≤ 2 * m
  | 0, _ => Nat.le_refl _
  | m + 1, h => by
    have := sm_two m fun i hi => h i (by omega)
    have := h m (by omega)
    rw [sm_succ]; omega
/-- the round of the law: a whole way, and what it makes of claims. -/
theorem round_facts {n : Nat} {ss : List (Int × Int)} (hn2 : 2 ≤ n) (hn5 : n ≤ 5) (hl : ss.length ≤ 8) (hM : MadeP n ss) (hc : chkM n ss = 0) :
    ∃ (r : List Nat) (K : Nat → Nat), twE n ss (fewM ss) = 0 ∧ roundL n ss (fewM ss) = ints' r ∧ wk (en1 ss) (en2 ss) 0 r = some 0 ∧ (∀ i ∈ r, i < ss.length) ∧ r.length ≤ 2 * ss.length ∧
      (∀ i, i < ss.length → 1 ≤ K i ∧ K i ≤ 2) ∧ goesE n ss (ints' r) = 0 ∧ goesR n ss (ints' r) = kL K ss.length ∧
      (∀ v, cl ss K ss.length v = 2 * pas (en1 ss) (en2 ss) 0 r v) ∧ Cl.chk (r.length : Int) (kL (cl ss K ss.length) n) = 0 ∧ (kL (cl ss K ss.length) n).sum = 2 * (r.length : Int) := by
  obtain ⟨S, hS, hfew, hen, _⟩ := few_set ss
  have h256 : 2 ^ ss.length ≤ 256 := Nat.le_trans (Nat.pow_le_pow_right (by decide) hl) (by decide)
  have hset : setM (listM S) = S := setM8 ⟨S, by omega⟩
  obtain ⟨_, _, _, _, hp, _⟩ := chk_good hc
  have hg : GoodS ss n := hp
  have htw : twE n ss (fewM ss) = 0 := by
    rw [hfew]
    unfold twE
    have ha := asc8 ⟨ss.length, by omega⟩ ⟨S, by omega⟩ hS
    dsimp only at ha
    rw [hc, ha, hset, hen]; simp
  have hround : roundL n ss (fewM ss) = roundM ss n S := by
    unfold roundL
    rw [if_pos htw, hfew, hset, Int.toNat_natCast]
  obtain ⟨r, hr, hrr⟩ := round_first (fuel := sm ss.length (leftK (2 ^ ss.length - 1) S) + 1) hc hS hen (Nat.lt_succ_self _)
  obtain ⟨w1, w2, w3⟩ := goF_full _ _ _ _ hr
  have hK : ∀ i, i < ss.length → 1 ≤ leftK (2 ^ ss.length - 1) S i ∧ leftK (2 ^ ss.length - 1) S i ≤ 2 := fun i hi => by
    unfold leftK
    rw [Nat.testBit_two_pow_sub_one, decide_eq_true hi, if_pos rfl]
    split <;> omega
  have hgo := goes_full (K := leftK (2 ^ ss.length - 1) S) hc w1 w2 (fun i hi => ⟨w3 i hi, (hK i hi).1⟩)
  have hne : ∀ i, i < ss.length → en1 ss i ≠ en2 ss i := fun i hi => by have := good_str hg hi; omega
  have hcl : ∀ v, cl ss (leftK (2 ^ ss.length - 1) S) ss.length v = 2 * pas (en1 ss) (en2 ss) 0 r v := fun v => by
    have h1 := pas_dg hne v r 0 0 w1 w2
    have h2 : dg (en1 ss) (en2 ss) ss.length (fun i => r.count i) v = cl ss (leftK (2 ^ ss.length - 1) S) ss.length v := by
      unfold dg cl
      exact sm_congr _ fun i hi => by
        show r.count i * _ = _
        rw [w3 i hi]
    omega
  have hlen : r.length ≤ 2 * ss.length := by
    rw [len_count r w2]
    exact sm_two _ fun i hi => by rw [w3 i hi]; exact (hK i hi).2
  have hsum : (kL (cl ss (leftK (2 ^ ss.length - 1) S) ss.length) n).sum = 2 * (r.length : Int) := by
    rw [sum_sm]
    have h1 : sm n (cl ss (leftK (2 ^ ss.length - 1) S) ss.length) = sm n (fun v => 2 * pas (en1 ss) (en2 ss) 0 r v) := sm_congr n fun v _ => hcl v
    rw [h1, sm_dbl, pas_sum (n := n) (fun i x hi ht => (oth_lt hg hi ht).1) r 0 0 w1 w2]; omega
  refine ⟨r, _, htw, by rw [hround, hrr], w1, w2, hlen, hK, hgo.1, hgo.2, hcl, ?_, hsum⟩
  unfold Cl.chk
  rw [kL_len, if_neg (by omega), if_neg (by omega), hsum]
  have h1 : (kL (cl ss (leftK (2 ^ ss.length - 1) S) ss.length) n).all Cl.isClaimB = true := by
    rw [List.all_eq_true]
    intro z hz
    unfold kL at hz
    obtain ⟨v, hv, rfl⟩ := List.mem_map.1 hz
    have hvn := List.mem_range.1 hv
    have hup := cl_le (v := v) (fun i hi => (hK i hi).2) ss.length (Nat.le_refl _)
    have hlo : 1 ≤ cl ss (leftK (2 ^ ss.length - 1) S) ss.length v := by
      have hd := Tl.deg_pos hn2 hM hvn
      unfold Tl.degI at hd
      obtain ⟨p, hpm, hph⟩ := List.countP_pos_iff.1 hd
      obtain ⟨i, hi, rfl⟩ := List.getElem_of_mem hpm
      have hgi := good_str hg hi
      have e : ss[i] = str ss i := by rw [str_eq, List.getElem?_eq_getElem hi]; rfl
      rw [e] at hph
      unfold Tl.hasC at hph
      rw [hgi.2.2.1, hgi.2.2.2, Bool.or_eq_true, beq_iff_eq, beq_iff_eq] at hph
      refine Nat.le_trans ?_ (sm_ge (f := fun i => leftK (2 ^ ss.length - 1) S i * (ind (en1 ss i) v + ind (en2 ss i) v)) (i := i) ss.length hi)
      have h2 := (hK i hi).1
      have h3 : 1 ≤ ind (en1 ss i) v + ind (en2 ss i) v := by
        unfold ind
        rcases hph with h | h
        · rw [if_pos (by omega)]; omega
        · rw [if_pos (show en2 ss i = v by omega)]; omega
      exact Nat.mul_le_mul h2 h3
    unfold Cl.isClaimB
    exact decide_eq_true (by omega)
  rw [h1, decide_eq_true (by omega), decide_eq_true (by omega)]; rfl
end Tp
end Go.Proofs.Ytimddkofcejijaa
