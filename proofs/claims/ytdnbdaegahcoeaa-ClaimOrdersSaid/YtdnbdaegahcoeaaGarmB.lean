/- Layer 1: divisions that are drawn, proofs of them, and the rule alone at one. -/
import Derived.Test.YtdnbdaegahcoeaaSpreadW
import Derived.Test.YtdnbdaegahcoeaaOneW
namespace Go.Proofs.Ytdnbdaegahcoeaa
open Go.RowKit Go.Sort
theorem div_vld {x : Int} {zs gs : List Int} (h : Full5 x zs) (hg : IsDiv zs x gs) : vld x zs gs = 0 := by
  rw [vld_of (full_chk h) hg.1]
  have : (List.range gs.length).all (partB zs gs) = true := by
    rw [List.all_eq_true]
    intro k hk
    have := hg.2.1 k (List.mem_range.1 hk)
    simp [partB]; omega
  rw [if_pos this, if_pos (by rw [hg.2.2]; omega)]
theorem one_self (zs gs : List Int) (i : Nat) : oneB zs gs i i = true := by
  unfold oneB garF; rw [decide_eq_true_eq]; omega
theorem prv_at {x : Int} {zs gs : List Int} (h : Full5 x zs) (hg : IsDiv zs x gs) (i j : Nat) (hi : i < zs.length) (hj : j < zs.length) : prv x zs gs i j = if i = j then 6 else if oneB zs gs i j then 14 else 0 := by
  unfold prv
  rw [if_neg (by simp [div_vld h hg]), if_neg (by omega), Int.toNat_natCast, Int.toNat_natCast, atB_one]
  by_cases e : i = j
  · rw [if_pos e, if_pos (by omega)]
  · rw [if_neg e, if_neg (by omega)]
theorem prv_none {x : Int} {zs gs : List Int} (h : Full5 x zs) (hg : IsDiv zs x gs) : prv x zs gs 0 zs.length = 2 := by
  unfold prv
  rw [if_neg (by simp [div_vld h hg]), if_pos (by omega)]
theorem sum_set0 (gs : List Int) (y : Int) (h : 0 < gs.length) : (gs.set 0 y).sum = gs.sum - nth gs 0 + y := by
  match gs, h with
  | a :: t, _ => simp [nth_eq]; omega
theorem nth_set0 (gs : List Int) (y : Int) (h : 0 < gs.length) (k : Nat) : nth (gs.set 0 y) k = if k = 0 then y else nth gs k := by
  match gs, h with
  | a :: t, _ =>
    match k with
    | 0 => simp [nth_eq]
    | k + 1 => simp [nth_eq]
theorem vld_more {x : Int} {zs gs : List Int} (h : Full5 x zs) (hg : IsDiv zs x gs) : vld x zs (gs.set 0 (nth gs 0 + 1)) = if nth gs 0 + 1 > 120 * nth zs 0 then 1 else 17 := by
  have h1 := h.1
  have hl : (gs.set 0 (nth gs 0 + 1)).length = zs.length := by rw [List.length_set]; exact hg.1
  have g0 := hg.2.1 0 (by rw [hg.1]; omega)
  rw [vld_of (full_chk h) hl, sum_set0 _ _ (by rw [hg.1]; omega)]
  by_cases e : nth gs 0 + 1 > 120 * nth zs 0
  · rw [if_pos e]
    have : (List.range (gs.set 0 (nth gs 0 + 1)).length).all (partB zs (gs.set 0 (nth gs 0 + 1))) = false := by
      rw [List.all_eq_false]
      refine ⟨0, List.mem_range.2 (by omega), ?_⟩
      rw [partB, nth_set0 _ _ (by rw [hg.1]; omega)]
      simp; omega
    rw [this]; simp
  · rw [if_neg e]
    have : (List.range (gs.set 0 (nth gs 0 + 1)).length).all (partB zs (gs.set 0 (nth gs 0 + 1))) = true := by
      rw [List.all_eq_true]
      intro k hk
      have hk' := List.mem_range.1 hk
      rw [hl] at hk'
      have := hg.2.1 k (by rw [hg.1]; omega)
      rw [partB, nth_set0 _ _ (by rw [hg.1]; omega)]
      by_cases e0 : k = 0
      · subst e0; simp; omega
      · rw [if_neg e0]; simp; omega
    rw [this, if_pos rfl, if_neg (by rw [hg.2.2]; omega)]
theorem vld_short {x : Int} {zs gs : List Int} (h : Full5 x zs) (hl : gs.length = zs.length - 1) : vld x zs gs = 5 := by
  have := h.1
  unfold vld
  rw [if_neg (by simp [full_chk h]), if_pos (by omega)]
/-- a list of one's own: its first number can be written. -/
theorem own_set0 {w : World} {B : Nat} {v : Value} {zs : List Int} (h : Owns w B v zs) (h0 : 0 < zs.length) :
    ∃ g cap, v = .slice (some ⟨g, 0, none⟩) zs.length cap ∧ B ≤ g ∧ g < w.heap.size ∧ w.cell? ⟨g, 0, none⟩ = some (.int .i64 (nth zs 0)) ∧ w.frozen? ⟨g, 0, none⟩ = false ∧ zs.length ≤ cap ∧
      ∀ y, IntsAt (w.setCell ⟨g, 0, none⟩ (.int .i64 y)) (some ⟨g, 0, none⟩) (zs.set 0 y) := by
  obtain ⟨_, h | ⟨g, cap, cur, rfl, hb, hg, hnc, _, hcs, htake⟩⟩ := h
  · exfalso
    obtain ⟨_, h1⟩ := h
    omega
  · have hlt := (Array.getElem?_eq_some_iff.1 hg).1
    have hcell : ∀ j, j < zs.length → cur[j]? = some (.int .i64 (nth zs j)) := fun j hj => by
      have e : (zs.map (Value.int .i64))[j]? = some (.int .i64 (nth zs j)) := by rw [nth_eq]; simp [hj]
      rw [← htake, List.getElem?_take, if_pos (by omega)] at e
      simpa using e
    refine ⟨g, cap, rfl, hb, hlt, ?_, frozen_of_row w g 0 _ _ hg, hnc, fun y => ?_⟩
    · rw [cell_of_row w g 0 _ _ _ hg]; exact hcell 0 h0
    · intro j hj
      rw [List.length_set] at hj
      refine ⟨g, 0, rfl, by simpa [World.setCell] using hlt, ?_⟩
      have hg' : (w.setCell ⟨g, 0, none⟩ (.int .i64 y)).heap[g]? = some (.cells (cur.setIfInBounds 0 (.int .i64 y)) 3 (0, 0)) := by
        have h' : w.heap[g] = .cells cur 3 (0, 0) := (Array.getElem?_eq_some_iff.1 hg).2
        show (w.heap.modify g _)[g]? = _
        rw [Array.getElem?_eq_getElem (by simpa using hlt), Array.getElem_modify_self, h']; rfl
      rw [show (0 + j) = j by omega, cell_of_row _ g j _ _ _ hg', nth_set0 _ _ h0]
      rw [Array.getElem?_setIfInBounds]
      by_cases e : j = 0
      · subst e
        rw [if_pos rfl, if_pos rfl, if_pos (by
          have := hcell 0 h0
          exact (Array.getElem?_eq_some_iff.1 this).1)]
      · rw [if_neg (fun e' => e e'.symm), if_neg e]; exact hcell j hj
/-- five numbers in a box. -/
abbrev Box5 (w : World) (B : Nat) (a b c d e : Int) : Prop := w.cell? ⟨B, 0, none⟩ = some (.int .u32 a) ∧ w.cell? ⟨B, 1, none⟩ = some (.int .u32 b) ∧ w.cell? ⟨B, 2, none⟩ = some (.int .u32 c) ∧ w.cell? ⟨B, 3, none⟩ = some (.int .u32 d) ∧ w.cell? ⟨B, 4, none⟩ = some (.int .u32 e)
theorem box5_new (w w1 : World) (o : Obj) (a b c d e : Int) (h : Fut ((w.alloc o).alloc (.cells #[.int .u32 a, .int .u32 b, .int .u32 c, .int .u32 d, .int .u32 e] 42)) w1) : Box5 w1 (w.heap.size + 1) a b c d e := by
  have hc : ∀ j, w1.cell? ⟨w.heap.size + 1, j, none⟩ = #[Value.int .u32 a, .int .u32 b, .int .u32 c, .int .u32 d, .int .u32 e][j]? := fun j => by
    rw [RowKit.Below.cell h (p := ⟨w.heap.size + 1, j, none⟩) (by simp)]
    exact World.cell?_alloc_at _ _ _ _ (by simp)
  exact ⟨hc 0, hc 1, hc 2, hc 3, hc 4⟩
theorem div_gt {x : Int} {zs gs : List Int} (h : Full5 x zs) (hg : IsDiv zs x gs) (k : Nat) (hk : k < gs.length) : Gt (nth gs k) := by
  have h1 := hg.2.1 k hk
  have h2 := full_nth h k
  constructor <;> omega
theorem box5_fut {w w1 : World} {B : Nat} {a b c d e : Int} (h : Box5 w B a b c d e) (F : Fut w w1) : Box5 w1 B a b c d e := by
  have hb : B < w.heap.size := World.block_lt_of_cell? w _ h.1
  have hc : ∀ o, w1.cell? ⟨B, o, none⟩ = w.cell? ⟨B, o, none⟩ := fun o => RowKit.Below.cell F (p := ⟨B, o, none⟩) hb
  obtain ⟨h0, h1, h2, h3, h4⟩ := h
  exact ⟨by rw [hc]; exact h0, by rw [hc]; exact h1, by rw [hc]; exact h2, by rw [hc]; exact h3, by rw [hc]; exact h4⟩
theorem why_len (x : Int) (a c : Option Addr) (cap dap : Nat) (zs gs : List Int) (w : World) (h5 : zs.length ≤ 5) (hl : gs.length = zs.length) (hA : IntsAt w a zs) (hG : IntsAt w c gs) (hv : vld x zs gs = 0) :
    Calls Try.prog 32 #[.int .i64 x, .slice a zs.length cap, .slice c zs.length dap] w fun e w' => e = .returned (whyV (whyL zs gs)) ∧ Fut w w' := by
  have := why_ok x a c cap dap zs gs w (by omega) (by omega) hA hG hv
  rw [hl] at this; exact this
theorem vld_len (x : Int) (a c : Option Addr) (cap dap : Nat) (zs gs : List Int) (w : World) (h5 : zs.length ≤ 5) (hl : gs.length = zs.length) (hA : IntsAt w a zs) (hG : IntsAt w c gs) :
    Calls Try.prog 34 #[.int .i64 x, .slice a zs.length cap, .slice c zs.length dap] w fun e w' => e = .returned (.int .i64 (vld x zs gs)) ∧ Fut w w' := by
  have := valid_any x a c cap dap zs gs w (by omega) (by omega) hA hG
  rw [hl] at this; exact this
theorem same_len (a c : Option Addr) (cap dap n : Nat) (xs ys : List Int) (w : World) (h5 : n ≤ 5) (hx : xs.length = n) (hy : ys.length = n) (hA : IntsAt w a xs) (hC : IntsAt w c ys) :
    Calls Try.prog 23 #[.slice a n cap, .slice c n dap] w fun e w' => e = .returned (.bool (sameB xs ys)) ∧ Fut w w' := by
  have := same_any a c cap dap xs ys w (by omega) (by omega) hA hC
  rw [hx, hy] at this
  refine this.mono ?_
  rintro e w' ⟨rfl, q, rfl⟩
  exact ⟨rfl, Fut.drewN _ _⟩
theorem rows_mem (n : Nat) : ∀ m, m ≤ n → ∀ i j, n - m ≤ i → i < j → j < n → (i, j) ∈ rowsF n m
  | 0, _, i, j, h1, h2, h3 => absurd h1 (by omega)
  | m + 1, hm, i, j, h1, h2, h3 => by
    unfold rowsF
    rw [List.mem_append]
    by_cases e : i = n - m - 1
    · left
      rw [List.mem_map]
      refine ⟨j, ?_, by rw [e]⟩
      rw [List.mem_range'_1]; omega
    · exact .inr (rows_mem n m (by omega) i j (by omega) h2 h3)
theorem fnd_none {zs gs : List Int} (h : fnd zs gs (rowsF zs.length zs.length) = none) (i j : Nat) (hi : i < j) (hj : j < zs.length) : oneB zs gs i j = true := by
  unfold fnd at h
  rw [List.find?_eq_none] at h
  have := h _ (rows_mem zs.length zs.length (Nat.le_refl _) i j (by omega) hi hj)
  simpa using this
theorem fnd_some {zs gs : List Int} {p : Nat × Nat} (h : fnd zs gs (rowsF zs.length zs.length) = some p) : (p.1 < zs.length ∧ p.2 < zs.length) ∧ oneB zs gs p.1 p.2 = false := by
  unfold fnd at h
  have h1 := List.mem_of_find?_eq_some h
  have h2 := List.find?_some h
  exact ⟨rowsF_mem (Nat.le_refl _) h1, by simpa using h2⟩
theorem rule_none {x : Int} {zs : List Int} (h : Full5 x zs) : whyL zs (gD x zs) = none := by
  rw [fnd_why]
  cases e : fnd zs (gD x zs) (rowsF zs.length zs.length) with
  | none => rfl
  | some p =>
    obtain ⟨⟨h1, h2⟩, h3⟩ := fnd_some e
    rw [rule_one x zs h _ _ h1 h2] at h3
    cases h3
theorem none_rule {x : Int} {zs gs : List Int} (h : Full5 x zs) (hg : IsDiv zs x gs) (e : whyL zs gs = none) : gs = gD x zs := by
  rw [fnd_why] at e
  exact one_same zs gs (gD x zs) x (fun k => (full_nth h k).1) hg (fd_isDiv h).1 (fun i j hi hj => fnd_none e i j hi hj) (fun i j hi hj => rule_one x zs h i j (by omega) hj)
theorem some_rule {x : Int} {zs gs : List Int} {p : Nat × Nat} (h : Full5 x zs) (e : whyL zs gs = some p) : gs ≠ gD x zs := by
  intro h'
  rw [h', rule_none h] at e
  cases e
end Go.Proofs.Ytdnbdaegahcoeaa
