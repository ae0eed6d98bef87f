/- Layer 1: twice the claims, the same parts. -/
import Derived.Test.YtdnbdaegahcoeaaMadeA
namespace Go.Proofs.Ytdnbdaegahcoeaa
open Go.RowKit Go.Sort
/-- a call that hands back n numbers in a slice, and no error. -/
abbrev SlN (n : Nat) (w : World) (zs : List Int) (e : Ending) (w' : World) : Prop := ∃ l cap, e = .returned (.tuple #[.slice l n cap, .int .i64 0]) ∧ IntsAt w' l zs ∧ Fut w w'
theorem own_slN {n : Nat} {w : World} {f : List Int} {zs : List Int} {P : Program} {k : Nat} {args : Array Value} (hf : f = zs) (hl : zs.length = n)
    (h : Calls P k args w fun e w' => ∃ v, e = .returned (.tuple #[v, .int .i64 0]) ∧ Owns w' w.heap.size v f ∧ RowKit.Below w.heap.size w w') : Calls P k args w (SlN n w zs) := by
  refine h.mono ?_
  rintro e w' ⟨v, rfl, hO, hB⟩
  rw [hf] at hO
  obtain ⟨l, cap, rfl, hA, hF⟩ := own_out hl hO hB
  exact ⟨l, cap, rfl, hA, hF⟩
/-- twice each claim. -/
abbrev dbl (zs : List Int) : List Int := zs.map (2 * ·)
theorem dbl_sum : ∀ zs : List Int, (dbl zs).sum = 2 * zs.sum
  | [] => rfl
  | z :: zs => by have := dbl_sum zs; simp only [dbl, List.map_cons, List.sum_cons] at *; omega
theorem dbl_nth (zs : List Int) (k : Nat) : nth (dbl zs) k = 2 * nth zs k := by
  rw [nth_eq, nth_eq, List.getElem?_map]; cases zs[k]? <;> simp
theorem dbl_K (zs : List Int) : (fun i => K (dbl zs) i / 2) = K zs := by
  funext i; unfold K; rw [dbl_nth]; omega
/-- what is drawn with 500: one to five claims of at most 500. -/
def Half5 (x : Int) (zs : List Int) : Prop := 1 ≤ zs.length ∧ zs.length ≤ 5 ∧ (∀ c ∈ zs, 1 ≤ c ∧ c ≤ 500) ∧ 0 ≤ x ∧ x ≤ zs.sum
theorem half_chk {x : Int} {zs : List Int} (h : Half5 x zs) : chk x zs = 0 := by
  obtain ⟨h1, h2, h3, h4, h5⟩ := h
  have : zs.all isClaimB = true := by
    rw [List.all_eq_true]; intro c hc; have := h3 c hc; simp [isClaimB]; omega
  simp [chk, this, show zs ≠ [] from fun h => by simp [h] at h1, show ¬ 5 < zs.length by omega, h4, h5]
theorem dbl_chk {x y : Int} {zs : List Int} (h : Half5 x zs) (hy : 0 ≤ y) (hy' : y ≤ 2 * zs.sum) : chk y (dbl zs) = 0 := by
  obtain ⟨h1, h2, h3, h4, h5⟩ := h
  have : (dbl zs).all isClaimB = true := by
    rw [List.all_eq_true]; intro c hc; obtain ⟨d, hd, rfl⟩ := List.mem_map.1 hc; have := h3 d hd; simp [isClaimB]; omega
  have hl : (dbl zs).length = zs.length := by simp
  unfold chk
  rw [hl, if_neg (by omega), if_neg (by omega), this, dbl_sum]
  simp [hy, hy']
theorem list5_len (f : Fin 5 → Int) (n : Nat) (h : n ≤ 5) : ((list5 f).take n).length = n := by simp [list5]; omega
theorem list5_nth (f : Fin 5 → Int) (n : Nat) (h : n ≤ 5) (i : Nat) (hi : i < n) : nth ((list5 f).take n) i = f ⟨i, by omega⟩ := by
  rw [nth_eq, List.getElem?_take, if_pos hi]
  match i, (show i < 5 by omega) with
  | 0, _ => rfl
  | 1, _ => rfl
  | 2, _ => rfl
  | 3, _ => rfl
  | 4, _ => rfl
def spG (x : Int) (zs : List Int) : List Int := (list5 (lev (K zs) zs.length (x * 120))).take zs.length
def spL (x : Int) (zs : List Int) : List Int := (list5 (fun i => K zs i - lev (K zs) zs.length (zs.sum * 120 - x * 120) i)).take zs.length
def spH (x : Int) (zs : List Int) : List Int := (list5 (fun i => K zs i + (K zs i - lev (K zs) zs.length (zs.sum * 120 - x * 120) i))).take zs.length
theorem sp_nth (x : Int) (zs : List Int) (h : zs.length ≤ 5) (i : Nat) (hi : i < zs.length) : nth (spH x zs) i = 120 * nth zs i + nth (spL x zs) i := by
  unfold spH spL
  rw [list5_nth _ _ h i hi, list5_nth _ _ h i hi]
  have : K zs ⟨i, by omega⟩ = nth zs i * 120 := rfl
  omega
theorem idx_sum (zs : List Int) (h : zs.length ≤ 5) (h3 : ∀ c ∈ zs, 1 ≤ c ∧ c ≤ 500) : zs.sum * 120 = ((idxL zs.length).map fun i => min (K zs i) 1000000).sum := by
  match zs, h with
  | [], _ => rfl
  | [a], _ => simp [idxL, K, nth_eq] at *; omega
  | [a, b], _ => simp [idxL, K, nth_eq] at *; omega
  | [a, b, c], _ => simp [idxL, K, nth_eq] at *; omega
  | [a, b, c, d], _ =>
    have e0 : K [a, b, c, d] 0 = a * 120 := rfl
    have e1 : K [a, b, c, d] 1 = b * 120 := rfl
    have e2 : K [a, b, c, d] 2 = c * 120 := rfl
    have e3 : K [a, b, c, d] 3 = d * 120 := rfl
    simp [idxL, e0, e1, e2, e3] at *; omega
  | [a, b, c, d, e], _ =>
    have e0 : K [a, b, c, d, e] 0 = a * 120 := rfl
    have e1 : K [a, b, c, d, e] 1 = b * 120 := rfl
    have e2 : K [a, b, c, d, e] 2 = c * 120 := rfl
    have e3 : K [a, b, c, d, e] 3 = d * 120 := rfl
    have e4 : K [a, b, c, d, e] 4 = e * 120 := rfl
    simp [idxL, e0, e1, e2, e3, e4] at *; omega
  | a :: b :: c :: d :: e :: f :: zs, h => exact absurd h (by simp)
theorem idx_mem : ∀ (n : Fin 6) (i : Fin 5), i.val < n.val → i ∈ idxL n.val := by decide
theorem full_lev (zs : List Int) (h : zs.length ≤ 5) (h3 : ∀ c ∈ zs, 1 ≤ c ∧ c ≤ 500) (i : Nat) (hi : i < zs.length) : lev (K zs) zs.length (zs.sum * 120) ⟨i, by omega⟩ = K zs ⟨i, by omega⟩ := by
  rw [lev_eq (K zs) zs.length h (zs.sum * 120) 1000000 (by decide) (idx_sum zs h h3)]
  have hm : (⟨i, by omega⟩ : Fin 5) ∈ idxL zs.length := idx_mem ⟨zs.length, by omega⟩ ⟨i, by omega⟩ hi
  rw [if_pos hm]
  have : zs[i] ∈ zs := List.getElem_mem hi
  have hb := h3 _ this
  have e : K zs ⟨i, by omega⟩ = zs[i] * 120 := by show nth zs i * 120 = _; rw [nth_eq, List.getElem?_eq_getElem hi]; rfl
  rw [e]; omega
theorem take_ext (f g : Fin 5 → Int) (n : Nat) (hn : n ≤ 5) (h : ∀ i, (hi : i < n) → f ⟨i, by omega⟩ = g ⟨i, by omega⟩) : (list5 f).take n = (list5 g).take n := by
  match n, hn with
  | 0, _ => rfl
  | 1, _ => simp [list5]; exact h 0 (by omega)
  | 2, _ => simp [list5]; exact ⟨h 0 (by omega), h 1 (by omega)⟩
  | 3, _ => simp [list5]; exact ⟨h 0 (by omega), h 1 (by omega), h 2 (by omega)⟩
  | 4, _ => simp [list5]; exact ⟨h 0 (by omega), h 1 (by omega), h 2 (by omega), h 3 (by omega)⟩
  | 5, _ => simp [list5]; exact ⟨h 0 (by omega), h 1 (by omega), h 2 (by omega), h 3 (by omega), h 4 (by omega)⟩
theorem sp_div (x : Int) (zs : List Int) (l : Option Addr) (cap : Nat) (w : World) (h : Half5 x zs) (hA : IntsAt w l (dbl zs)) : Calls Try.prog 17 #[.int .i64 x, .slice l zs.length cap] w (SlN zs.length w (spG x zs)) := by
  have hl : (dbl zs).length = zs.length := by simp
  have hk : ∀ i, K zs i = K zs i := fun _ => rfl
  have := divide_lo x l cap (dbl zs) (K zs) w (dbl_K zs).symm hA (dbl_chk h h.2.2.2.1 (by have := h.2.2.2.2; have := h.2.2.2.1; omega)) (by rw [K_sum h.2.1]; have := h.2.2.2.2; omega)
  rw [hl] at this
  exact own_slN rfl (list5_len _ _ h.2.1) this
theorem sp_gain (x : Int) (zs : List Int) (l : Option Addr) (cap : Nat) (w : World) (h : Half5 x zs) (hA : IntsAt w l zs) : Calls Try.prog 19 #[.int .i64 x, .slice l zs.length cap] w (SlN zs.length w (spG x zs)) :=
  own_slN rfl (list5_len _ _ h.2.1) (gains_ok x l cap zs w hA (half_chk h))
theorem sp_loss (x : Int) (zs : List Int) (l : Option Addr) (cap : Nat) (w : World) (h : Half5 x zs) (hA : IntsAt w l zs) : Calls Try.prog 21 #[.int .i64 x, .slice l zs.length cap] w (SlN zs.length w (spL x zs)) :=
  own_slN rfl (list5_len _ _ h.2.1) (losses_ok x l cap zs w hA (half_chk h))
theorem sp_div2 (x : Int) (zs : List Int) (l : Option Addr) (cap : Nat) (w : World) (h : Half5 x zs) (hA : IntsAt w l (dbl zs)) : Calls Try.prog 17 #[.int .i64 (zs.sum + x), .slice l zs.length cap] w (SlN zs.length w (spH x zs)) := by
  have hl : (dbl zs).length = zs.length := by simp
  have h' := h
  obtain ⟨h1, h2, h3, h4, h5⟩ := h'
  have hc := dbl_chk (y := zs.sum + x) h (by omega) (by omega)
  by_cases hx : x = 0
  · have := divide_lo (zs.sum + x) l cap (dbl zs) (K zs) w (dbl_K zs).symm hA hc (by rw [K_sum h2]; omega)
    rw [hl] at this
    refine own_slN ?_ (list5_len _ _ h2) this
    refine take_ext _ _ _ h2 (fun i hi => ?_)
    subst hx
    rw [show (zs.sum + 0) * 120 = zs.sum * 120 by omega, show zs.sum * 120 - 0 * 120 = zs.sum * 120 by omega, full_lev zs h2 h3 i hi]
    omega
  · have := divide_hi (zs.sum + x) l cap (dbl zs) (K zs) w (dbl_K zs).symm hA hc (by rw [K_sum h2]; omega)
    rw [hl] at this
    refine own_slN ?_ (list5_len _ _ h2) this
    refine take_ext _ _ _ h2 (fun i hi => ?_)
    rw [dbl_sum, show 2 * zs.sum * 120 - (zs.sum + x) * 120 = zs.sum * 120 - x * 120 by omega]
    have : K (dbl zs) ⟨i, by omega⟩ = K zs ⟨i, by omega⟩ + K zs ⟨i, by omega⟩ := by unfold K; rw [dbl_nth]; omega
    omega
theorem sp_same (l c : Option Addr) (cap dap n : Nat) (zs : List Int) (w : World) (hl : zs.length = n) (hn : n ≤ 5) (h : IntsAt w l zs) (hc : IntsAt w c zs) : Calls Try.prog 23 #[.slice l n cap, .slice c n dap] w fun e w' => e = .returned (.bool true) ∧ Fut w w' := by
  have := same_any l c cap dap zs zs w (by omega) (by omega) h hc
  rw [hl] at this
  refine this.mono ?_
  rintro e w' ⟨rfl, q, rfl⟩
  exact ⟨by simp [sameB], Fut.drewN _ _⟩
end Go.Proofs.Ytdnbdaegahcoeaa
