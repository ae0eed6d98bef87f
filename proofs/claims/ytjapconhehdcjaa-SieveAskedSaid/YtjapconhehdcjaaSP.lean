/- what the tables hold, by the loads alone -/
import Derived.Test.YtjapconhehdcjaaSO
import Derived.Deep.DeepCutAuto
import Derived.Deep.AppendLies
namespace Go.Proofs.Ytjapconhehdcjaa
open Go.RowKit Go.Sort
theorem manyE_congr {m m' : Nat → Nat → Int} {a b : Nat} {L : List Int} (hL : ∀ l ∈ L, (a : Int) ≤ l ∧ l < b) (h : ∀ K, a ≤ K → K < b → m a K = m' a K ∧ m (K + 1) b = m' (K + 1) b) : manyE m a b L = manyE m' a b L := by
  unfold manyE
  congr 2
  refine List.map_congr_left fun k hk => ?_
  obtain ⟨h1, h2⟩ := hL k hk
  obtain ⟨K, rfl⟩ : ∃ K : Nat, k = K := ⟨k.toNat, by omega⟩
  unfold mulE
  rw [Int.toNat_natCast, (h K (by omega) (by omega)).1, (h K (by omega) (by omega)).2]
/-- the least questions of a span. -/
def fI (zs : List Int) : Nat → Nat → Nat → Int
  | 0, _, _ => 0
  | d + 1, a, b => (bst (fun k => spS zs (a, b) + fI zs d a k + fI zs d (k + 1) b) a (b - a)).1
theorem fI_fuel (zs : List Int) : ∀ d d' a b, b - a < d → b - a < d' → fI zs d a b = fI zs d' a b
  | 0, _, _, _, h, _ => absurd h (by omega)
  | _, 0, _, _, _, h => absurd h (by omega)
  | d + 1, d' + 1, a, b, h, h' => by
    rw [fI, fI]
    congr 1
    refine bst_congr _ fun j hj => ?_
    show spS zs (a, b) + fI zs d a (a + j) + fI zs d (a + j + 1) b = _
    rw [fI_fuel zs d d' a (a + j) (by omega) (by omega), fI_fuel zs d d' (a + j + 1) b (by omega) (by omega)]
def f0 (zs : List Int) (a b : Nat) : Int := fI zs (b - a + 1) a b
theorem bT_congr {zs : List Int} {f f' : Nat → Nat → Int} {a b : Nat} (h : ∀ K, a ≤ K → K < b → f a K = f' a K ∧ f (K + 1) b = f' (K + 1) b) : bT zs f (a, b) = bT zs f' (a, b) := by
  unfold bT
  refine bst_congr _ fun j hj => ?_
  unfold qG
  simp only at hj ⊢
  rw [(h (a + j) (by omega) (by omega)).1, (h (a + j) (by omega) (by omega)).2]
theorem f0_eq (zs : List Int) (a b : Nat) : f0 zs a b = (bT zs (f0 zs) (a, b)).1 := by
  have e : bT zs (f0 zs) (a, b) = bT zs (fI zs (b - a)) (a, b) := bT_congr fun K h1 h2 => ⟨fI_fuel zs _ _ _ _ (by omega) (by omega), fI_fuel zs _ _ _ _ (by omega) (by omega)⟩
  rw [e]
  unfold f0
  rw [fI]
  rfl
/-- the best tops of a span. -/
def F0 (zs : List Int) (a b : Nat) : List Int := (bT zs (f0 zs) (a, b)).2
theorem F0_in (zs : List Int) (a b : Nat) (h : a ≤ b) : ∀ l ∈ F0 zs a b, (a : Int) ≤ l ∧ l < b := bT_in zs (f0 zs) (a, b) h
theorem F0_len (zs : List Int) (a b : Nat) : (F0 zs a b).length ≤ b - a := bT_len zs (f0 zs) (a, b)
/-- how many trees a table of tops has. -/
def mI (F : Nat → Nat → List Int) : Nat → Nat → Nat → Int
  | 0, _, _ => 0
  | d + 1, a, b => manyE (mI F d) a b (F a b)
theorem mI_fuel {F : Nat → Nat → List Int} (hF : ∀ a b, a ≤ b → ∀ l ∈ F a b, (a : Int) ≤ l ∧ l < b) : ∀ d d' a b, a ≤ b → b - a < d → b - a < d' → mI F d a b = mI F d' a b
  | 0, _, _, _, _, h, _ => absurd h (by omega)
  | _, 0, _, _, _, _, h => absurd h (by omega)
  | d + 1, d' + 1, a, b, hab, h, h' => by
    rw [mI, mI]
    exact manyE_congr (hF a b hab) fun K h1 h2 => ⟨mI_fuel hF d d' a K h1 (by omega) (by omega), mI_fuel hF d d' (K + 1) b (by omega) (by omega) (by omega)⟩
def m0 (F : Nat → Nat → List Int) (a b : Nat) : Int := mI F (b - a + 1) a b
theorem m0_eq {F : Nat → Nat → List Int} (hF : ∀ a b, a ≤ b → ∀ l ∈ F a b, (a : Int) ≤ l ∧ l < b) {a b : Nat} (hab : a ≤ b) : m0 F a b = manyE (m0 F) a b (F a b) := by
  have e : manyE (m0 F) a b (F a b) = manyE (mI F (b - a)) a b (F a b) := manyE_congr (hF a b hab) fun K h1 h2 => ⟨mI_fuel hF _ _ _ _ h1 (by omega) (by omega), mI_fuel hF _ _ _ _ (by omega) (by omega) (by omega)⟩
  rw [e]
  unfold m0
  rw [mI]
theorem done_f {zs : List Int} {n : Nat} (hn : n ≤ 8) {F : Nat → Nat → List Int} {mn f : Nat → Nat → Int} (h : DoneB zs F mn f (spansL n)) : ∀ d a b, a ≤ b → b < n → b - a < d → f a b = f0 zs a b
  | 0, _, _, _, _, hd => absurd hd (by omega)
  | d + 1, a, b, hab, hb, hd => by
    rw [(h (a, b) (mem_spans hn hab hb)).1, f0_eq, bT_congr fun K h1 h2 => ⟨done_f hn h d a K h1 (by omega) (by omega), done_f hn h d (K + 1) b (by omega) hb (by omega)⟩]
theorem done_F {zs : List Int} {n : Nat} (hn : n ≤ 8) {F : Nat → Nat → List Int} {mn f : Nat → Nat → Int} (h : DoneB zs F mn f (spansL n)) (a b : Nat) (hab : a ≤ b) (hb : b < n) : F a b = F0 zs a b := by
  rw [(h (a, b) (mem_spans hn hab hb)).2.1]
  unfold F0
  rw [bT_congr fun K h1 h2 => ⟨done_f hn h 9 a K h1 (by omega) (by omega), done_f hn h 9 (K + 1) b (by omega) hb (by omega)⟩]
theorem done_m {zs : List Int} {n : Nat} (hn : n ≤ 8) {F : Nat → Nat → List Int} {mn f : Nat → Nat → Int} (h : DoneB zs F mn f (spansL n)) : ∀ d a b, a ≤ b → b < n → b - a < d → mn a b = m0 (F0 zs) a b
  | 0, _, _, _, _, hd => absurd hd (by omega)
  | d + 1, a, b, hab, hb, hd => by
    have h1 := (h (a, b) (mem_spans hn hab hb)).2.2
    have h2 := (h (a, b) (mem_spans hn hab hb)).2.1
    simp only at h1 h2
    rw [h1, ← h2, done_F hn h a b hab hb, m0_eq (F0_in zs) hab]
    exact manyE_congr (F0_in zs a b hab) fun K h3 h4 => ⟨done_m hn h d a K h3 (by omega) (by omega), done_m hn h d (K + 1) b (by omega) hb (by omega)⟩
/-- all sieves may be at the top. -/
def FA (a b : Nat) : List Int := svP a (b - a)
theorem FA_in (a b : Nat) (h : a ≤ b) : ∀ l ∈ FA a b, (a : Int) ≤ l ∧ l < b := svT_in (a, b) h
theorem all_F {n : Nat} (hn : n ≤ 8) {F : Nat → Nat → List Int} {mn : Nat → Nat → Int} (h : DoneP F mn svT (spansL n)) (a b : Nat) (hab : a ≤ b) (hb : b < n) : F a b = FA a b := (h (a, b) (mem_spans hn hab hb)).1
theorem all_m {n : Nat} (hn : n ≤ 8) {F : Nat → Nat → List Int} {mn : Nat → Nat → Int} (h : DoneP F mn svT (spansL n)) : ∀ d a b, a ≤ b → b < n → b - a < d → mn a b = m0 FA a b
  | 0, _, _, _, _, hd => absurd hd (by omega)
  | d + 1, a, b, hab, hb, hd => by
    have h1 : mn a b = manyE mn a b (FA a b) := (h (a, b) (mem_spans hn hab hb)).2
    rw [h1, m0_eq FA_in hab]
    exact manyE_congr (FA_in a b hab) fun K h3 h4 => ⟨all_m hn h d a K h3 (by omega) (by omega), all_m hn h d (K + 1) b (by omega) hb (by omega)⟩
theorem goI_congr {m m' : Nat → Nat → Int} {k k' : Nat → Nat → Int → List Int} {a b : Nat} (h : ∀ K, a ≤ K → K < b → m a K = m' a K ∧ m (K + 1) b = m' (K + 1) b ∧ (∀ q, k a K q = k' a K q) ∧ (∀ q, k (K + 1) b q = k' (K + 1) b q)) : ∀ (ts : List Int), (∀ t ∈ ts, (a : Int) ≤ t ∧ t < b) → ∀ q, goI m k a b ts q = goI m' k' a b ts q
  | [], _, q => by rw [goI, goI]
  | t :: ts, ht, q => by
    obtain ⟨h1, h2⟩ := ht t (by simp)
    obtain ⟨K, rfl⟩ : ∃ K : Nat, t = K := ⟨t.toNat, by omega⟩
    obtain ⟨e1, e2, e3, e4⟩ := h K (by omega) (by omega)
    rw [goI, goI, Int.toNat_natCast, e1, e2, e3, e4, goI_congr h ts (fun t q => ht t (by simp [q]))]
theorem lsI_congr {F F' : Nat → Nat → List Int} {m m' : Nat → Nat → Int} {n : Nat} (hF : ∀ a b, a ≤ b → b < n → F a b = F' a b) (hm : ∀ a b, a ≤ b → b < n → m a b = m' a b) (hi : ∀ a b, a ≤ b → ∀ l ∈ F' a b, (a : Int) ≤ l ∧ l < b) : ∀ d a b, a ≤ b → b < n → ∀ q, lsI F m d a b q = lsI F' m' d a b q
  | 0, _, _, _, _, _ => rfl
  | d + 1, a, b, hab, hb, q => by
    rw [lsI, lsI, hF a b hab hb]
    exact goI_congr (fun K h1 h2 => ⟨hm a K h1 (by omega), hm (K + 1) b (by omega) hb, fun q => lsI_congr hF hm hi d a K h1 (by omega) q, fun q => lsI_congr hF hm hi d (K + 1) b (by omega) hb q⟩) _ (hi a b hab) q
end Go.Proofs.Ytjapconhehdcjaa
