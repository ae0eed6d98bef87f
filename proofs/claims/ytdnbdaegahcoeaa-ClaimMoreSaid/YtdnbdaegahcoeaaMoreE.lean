/- Layer 1: a penny more, half of all, and houses in a drawn order. -/
import Derived.Test.YtdnbdaegahcoeaaRankB
import Derived.Test.YtdnbdaegahcoeaaRowNA
import Derived.Test.YtdnbdaegahcoeaaRankW
import Derived.Test.YtdnbdaegahcoeaaGarmB
import Derived.Test.YtdnbdaegahcoeaaX
import Derived.Shelf.Slices.Delete
namespace Go.Proofs.Ytdnbdaegahcoeaa
open Go.RowKit Go.Sort
theorem min_sum_le (m : Fin 5 → Int) (L M : Int) (h : L ≤ M) : ∀ o : List (Fin 5), (o.map fun i => min (m i) L).sum ≤ (o.map fun i => min (m i) M).sum
  | [] => by simp
  | i :: o => by have := min_sum_le m L M h o; simp only [List.map_cons, List.sum_cons]; omega
theorem lev_mono (m : Fin 5 → Int) (n : Nat) (hn : n ≤ 5) (hm : ∀ i, 0 ≤ m i ∧ 60 ∣ m i) (p q : Int) (hp : 0 ≤ p) (hd : 60 ∣ p) (hd' : 60 ∣ q) (hpq : p ≤ q) (hs : q ≤ ((idxL n).map m).sum) (j : Fin 5) : lev m n p j ≤ lev m n q j := by
  obtain ⟨L, h0, h1, h2⟩ := lev_level m n hn hm p hp hd (by omega)
  obtain ⟨M, k0, k1, k2⟩ := lev_level m n hn hm q (by omega) hd' hs
  rcases Int.lt_or_le M L with h | h
  · have := min_sum_le m M L (by omega) (idxL n)
    have e : p = q := by omega
    rw [e]; exact Int.le_refl _
  · rw [h2, k2]
    split
    · omega
    · exact Int.le_refl _
theorem inF_mono (m : Fin 5 → Int) (hm : ∀ i, 0 ≤ m i) (o : List (Fin 5)) (hnd : o.Nodup) (x y : Int) (hx : 0 ≤ x) (h : x ≤ y) (j : Fin 5) (hj : j ∈ o) : inF m o x (fun _ => 0) j ≤ inF m o y (fun _ => 0) j := by
  obtain ⟨l1, l2, rfl⟩ := List.append_of_mem hj
  have hj2 : j ∉ l2 := fun h => (List.nodup_cons.1 (List.nodup_append.1 hnd).2.1).1 h
  rw [inF_get m hm j l2 hj2 l1 x _ hx, inF_get m hm j l2 hj2 l1 y _ (by omega)]
  omega
theorem addAll_mono (m : Fin 5 → Int) (hm : ∀ i, 0 ≤ m i) (n : Nat) (hn : n ≤ 5) (x y : Int) (hx : 0 ≤ x) (h : x ≤ y) (j : Fin 5) (hj : j ∈ idxL n) : addAll m x (vis n (idxL n) 0) (fun _ => 0) j ≤ addAll m y (vis n (idxL n) 0) (fun _ => 0) j := by
  rw [addAll_eq, addAll_eq]
  have hp := vis_perm ⟨n, by omega⟩
  simp only at hp
  have key : ∀ l : List (List (Fin 5)), (∀ o ∈ l, o.Perm (idxL n)) → (l.map fun o => inF m o x (fun _ => 0) j).sum ≤ (l.map fun o => inF m o y (fun _ => 0) j).sum := by
    intro l hl
    induction l with
    | nil => simp
    | cons o l ih =>
      have hpo := hl o (List.mem_cons_self ..)
      have h1 := inF_mono m hm o (hpo.nodup_iff.2 (idxL_nodup n)) x y hx h j (hpo.mem_iff.2 hj)
      have h2 := ih (fun o ho => hl o (List.mem_cons_of_mem _ ho))
      simp only [List.map_cons, List.sum_cons]
      omega
  have := key _ hp
  omega
theorem full_more {x : Int} {zs : List Int} (h : Full5 x zs) (hx : x < zs.sum) : Full5 (x + 1) zs := ⟨h.1, h.2.1, h.2.2.1, by have := h.2.2.2; omega, by omega⟩
theorem more_dk {x : Int} {zs : List Int} (h : Full5 x zs) (hx : x < zs.sum) (c i : Nat) (hi : i < zs.length) : nth (DkL x zs c) i ≤ nth (DkL (x + 1) zs c) i := by
  have h5 := h.2.1
  have hx0 := h.2.2.2
  have hm : (⟨i, by omega⟩ : Fin 5) ∈ idxL zs.length := idx_mem ⟨zs.length, by omega⟩ ⟨i, by omega⟩ hi
  have hqs := Q_idx_sum zs h5
  have hks := K_idx_sum zs h5
  have hQ : ∀ i, 0 ≤ Q zs i ∧ 60 ∣ Q zs i := fun i => (Q_bd zs (full_nth h) i).1
  have hK := K_bd zs (full_nth h)
  match c with
  | 0 =>
    show nth (gD x zs) i ≤ nth (gD (x + 1) zs) i
    rw [nth_gD x zs h5 i hi, nth_gD _ zs h5 i hi]
    unfold dvF
    by_cases hc : 2 * x ≤ zs.sum
    · rw [if_pos hc]
      by_cases hc' : 2 * (x + 1) ≤ zs.sum
      · rw [if_pos hc']
        exact lev_mono (Q zs) zs.length h5 hQ _ _ (by omega) ⟨x * 2, by omega⟩ ⟨(x + 1) * 2, by omega⟩ (by omega) (by omega) _
      · rw [if_neg hc']
        have h1 := lev_bd (Q zs) zs.length h5 hQ (x * 120) (by omega) ⟨x * 2, by omega⟩ (by omega) ⟨i, by omega⟩
        have h2 := lev_bd (Q zs) zs.length h5 hQ (zs.sum * 120 - (x + 1) * 120) (by omega) ⟨zs.sum * 2 - (x + 1) * 2, by omega⟩ (by omega) ⟨i, by omega⟩
        have := Q_two zs ⟨i, by omega⟩
        omega
    · rw [if_neg hc, if_neg (by omega)]
      have := lev_mono (Q zs) zs.length h5 hQ (zs.sum * 120 - (x + 1) * 120) (zs.sum * 120 - x * 120) (by omega) ⟨zs.sum * 2 - (x + 1) * 2, by omega⟩ ⟨zs.sum * 2 - x * 2, by omega⟩ (by omega) (by omega) ⟨i, by omega⟩
      omega
  | 1 =>
    show nth (spG x zs) i ≤ nth (spG (x + 1) zs) i
    rw [nth_spG x zs h5 i hi, nth_spG _ zs h5 i hi]
    exact lev_mono (K zs) zs.length h5 hK _ _ (by omega) ⟨x * 2, by omega⟩ ⟨(x + 1) * 2, by omega⟩ (by omega) (by omega) _
  | 2 =>
    show nth (spL x zs) i ≤ nth (spL (x + 1) zs) i
    rw [nth_spL x zs h5 i hi, nth_spL _ zs h5 i hi]
    have := lev_mono (K zs) zs.length h5 hK (zs.sum * 120 - (x + 1) * 120) (zs.sum * 120 - x * 120) (by omega) ⟨zs.sum * 2 - (x + 1) * 2, by omega⟩ ⟨zs.sum * 2 - x * 2, by omega⟩ (by omega) (by omega) ⟨i, by omega⟩
    omega
  | c + 3 =>
    show nth (gA x zs) i ≤ nth (gA (x + 1) zs) i
    rw [nth_gA x zs h5 i hi, nth_gA _ zs h5 i hi]
    have hr := addAll_mono (K zs) (fun a => (K120 zs (full_nth h) a).1) zs.length h5 (x * 120) ((x + 1) * 120) (by omega) (by omega) ⟨i, by omega⟩ hm
    rw [avgP_mul (K zs) zs.length h5 (x * 120) (fun a => (K120 zs (full_nth h) a).2) ⟨x, by omega⟩, avgP_mul (K zs) zs.length h5 ((x + 1) * 120) (fun a => (K120 zs (full_nth h) a).2) ⟨x + 1, by omega⟩] at hr
    have hf := (fct_dvd ⟨zs.length, by omega⟩).2
    simp only at hf
    exact Int.le_of_mul_le_mul_right hr (show 0 < (fct zs.length : Int) by omega)
/-- the division in an order. -/
def oL (x : Int) (zs : List Int) (ds : List (Fin 5)) : List Int := (list5 (inF (K zs) ds (x * 120) (fun _ => 0))).take zs.length
theorem oL_isDiv {x : Int} {zs : List Int} (h : Full5 x zs) (ds : List (Fin 5)) (hp : ds.Perm (idxL zs.length)) : IsDiv zs x (oL x zs ds) := by
  have h5 := h.2.1
  have hx := h.2.2.2
  have hK0 := fun a => (K120 zs (full_nth h) a).1
  have hnd := hp.nodup_iff.2 (idxL_nodup zs.length)
  refine isDiv_of zs x _ h5 (fun j hj => inF_pos (K zs) hK0 ds hnd (x * 120) (by omega) _ j (hp.mem_iff.2 hj)) ?_
  rw [← perm_sum (hp.map _), inF_sum (K zs) hK0 ds (x * 120) _ hnd (by omega), perm_sum (hp.map (K zs)), K_idx_sum zs h5]
  omega
theorem more_oL {x : Int} {zs : List Int} (h : Full5 x zs) (ds : List (Fin 5)) (hp : ds.Perm (idxL zs.length)) (i : Nat) (hi : i < zs.length) : nth (oL x zs ds) i ≤ nth (oL (x + 1) zs ds) i := by
  have h5 := h.2.1
  have hx := h.2.2.2
  have hm : (⟨i, by omega⟩ : Fin 5) ∈ idxL zs.length := idx_mem ⟨zs.length, by omega⟩ ⟨i, by omega⟩ hi
  unfold oL
  rw [list5_nth _ _ h5 i hi, list5_nth _ _ h5 i hi]
  exact inF_mono (K zs) (fun a => (K120 zs (full_nth h) a).1) ds (hp.nodup_iff.2 (idxL_nodup zs.length)) _ _ (by omega) (by omega) _ (hp.mem_iff.2 hm)
theorem half_nth {zs : List Int} (h : Full5 (zs.sum / 2) zs) (he : zs.sum % 2 = 0) (i : Nat) (hi : i < zs.length) : nth (gD (zs.sum / 2) zs) i = 60 * nth zs i ∧ nth (gA (zs.sum / 2) zs) i = 60 * nth zs i := by
  obtain ⟨h1, h2, _⟩ := dual_nth h i hi
  have e : zs.sum - zs.sum / 2 = zs.sum / 2 := by omega
  rw [e] at h1 h2
  omega
theorem once_perm : ∀ n : Fin 6, ∀ ds ∈ vis n.val (idxL n.val) 0, onceE n.val (valL ds) = 0 := by decide +kernel
theorem own_row2 {w : World} {B : Nat} {v : Value} {zs : List Int} (h : Owns w B v zs) (h0 : 0 < zs.length) :
    ∃ g cap, v = .slice (some ⟨g, 0, none⟩) zs.length cap ∧ B ≤ g ∧ g < w.heap.size ∧ RowN w g zs ∧ zs.length ≤ cap ∧ cap ≤ 9223372036854775807 := by
  obtain ⟨g, cap, e, h1, h2, h3⟩ := own_row h h0
  refine ⟨g, cap, e, h1, h2, h3, ?_⟩
  obtain ⟨_, h | ⟨g', cap', cur, e', hb, hg, hnc, hm, _, _⟩⟩ := h
  · exfalso; obtain ⟨_, h4⟩ := h; omega
  · rw [e] at e'
    injection e' with _ _ e3
    unfold maxLen at hm
    rw [e3]; exact ⟨hnc, by omega⟩
theorem RowN.holds {w : World} {g : Nat} {zs : List Int} (h : RowN w g zs) : Holds (Value.int .i64) w g 0 zs.toArray := fun j hj => by
  have hj' : j < zs.length := by simpa using hj
  refine ⟨?_, by rw [Nat.zero_add]; exact h.2 j⟩
  rw [Nat.zero_add, h.1 j hj', nth_eq, List.getElem?_eq_getElem hj']
  simp [hj']
theorem RowN.put {w : World} {g : Nat} {zs ys : List Int} (h : RowN w g zs) (hl : ys.length = zs.length) : RowN (putRow (Value.int .i64) w g 0 ys.toArray) g ys := by
  refine ⟨fun j hj => ?_, fun j => by rw [frozen?_putRow]; exact h.2 j⟩
  have := cell?_putRow (Value.int .i64) w g 0 zs.toArray ys.toArray h.holds (by simpa using hl) j (by simpa using hj)
  rw [Nat.zero_add] at this
  rw [this, nth_eq, List.getElem?_eq_getElem hj]
  simp [hj]
theorem RowN.part {w : World} {g : Nat} {zs ys : List Int} (h : RowN w g (zs ++ ys)) : RowN w g zs := by
  refine ⟨fun j hj => ?_, h.2⟩
  have := h.1 j (by rw [List.length_append]; omega)
  rw [this, nth_eq, nth_eq, List.getElem?_append_left hj]
theorem below_put {w w0 : World} {B blk : Nat} (h : RowKit.Below B w0 w) (hb : B ≤ blk) (d : Array Int) : RowKit.Below B w0 (putRow (Value.int .i64) w blk 0 d) :=
  h.trans ⟨rfl, rfl, rfl, by simp, fun k hk => by
    show (w.heap.modify blk _)[k]? = _
    rw [Array.getElem?_modify, if_neg (by omega)]⟩
theorem own_put {w : World} {B blk : Nat} {v : Value} {n : Nat} {xs : List Value} (h : w.ownsRow B 3 1 v n xs) (hb : blk < B) (d : Array Int) : (putRow (Value.int .i64) w blk 0 d).ownsRow B 3 1 v n xs := by
  refine h.kept (row := some blk) ⟨rfl, rfl, rfl, by simp, fun k hk hne => ?_⟩ ?_
  · show (w.heap.modify blk _)[k]? = _
    rw [Array.getElem?_modify, if_neg (fun e => hne (by rw [e]))]
  · cases e : v.ownBlock with
    | none => exact .inl rfl
    | some k => exact .inr (fun e' => by injection e' with e'; have := (h.lt k e).1; omega)
def dRen : Go.Shelf.Ren := ⟨fun | 23 => 50 | n => n, fun n => n, fun n => n⟩
theorem dLay : Lays2.n23 Try.prog dRen :=
  { mixed := (by kernel_rfl)
    f23 := Try.func50.trans (congrArg some (by kernel_rfl))
    t0 := Try.underlying0
    a0 := Try.isAgg0
    z0 := Try.sizeOf0
    v0 := Try.zeroValue0
    t3 := Try.underlying3
    a3 := Try.isAgg3
    z3 := Try.sizeOf3
    v3 := Try.zeroValue3
    t4 := Try.underlying4
    a4 := Try.isAgg4
    z4 := Try.sizeOf4
    v4 := Try.zeroValue4
    t22 := Try.underlying22
    a22 := Try.isAgg22
    z22 := Try.sizeOf22
    v22 := Try.zeroValue22
    i3 := by kernel_rfl }
/-- one element is taken out of a row. -/
theorem del_any (g cap k : Nat) (zs : List Int) (w : World) (hR : RowN w g zs) (hc : zs.length ≤ cap) (hm : cap ≤ 9223372036854775807) (hk : k < zs.length) :
    Calls Try.prog 50 #[.slice (some ⟨g, 0, none⟩) zs.length cap, .int .i64 k, .int .i64 ((k : Int) + 1)] w fun e w' =>
      e = .returned (.slice (some ⟨g, 0, none⟩) (zs.length - 1) cap) ∧ RowN w' g (zs.take k ++ zs.drop (k + 1)) ∧ (∀ B, B ≤ g → RowKit.Below B w w') ∧ ∀ (B : Nat) v n xs, w.ownsRow B 3 1 v n xs → g < B → w'.ownsRow B 3 1 v n xs := by
  have h := Any.slices_Delete_int dLay g 0 cap k (k + 1) zs w hR.holds hc hm (by omega) (by omega)
  rw [show ((k + 1 : Nat) : Int) = (k : Int) + 1 by omega] at h
  refine h.mono ?_
  rintro e w' ⟨rfl, q, rfl⟩
  have ha : Sort.ahead w q = w.drewN q := rfl
  rw [ha]
  have hd : RowN (w.drewN q) g zs := hR
  refine ⟨by rw [show k + 1 - k = 1 by omega], ?_, fun B hB => below_put (below_drewN (RowKit.Below.refl _ _) q) hB _, fun B v n xs ho hB => own_put (w := w.drewN q) ho hB _⟩
  have := hd.put (ys := zs.take k ++ zs.drop (k + 1) ++ List.replicate (k + 1 - k) 0) (by simp; omega)
  exact this.part
theorem once_ok (n : Nat) : ∀ (ds : List (Fin 5)) (g : Fin 5 → Bool), ds.Nodup → (∀ d ∈ ds, d.val < n ∧ g d = false) → onceF n (valL ds) g = 0
  | [], _, _, _ => rfl
  | d :: ds, g, hnd, h => by
    rw [List.nodup_cons] at hnd
    obtain ⟨h1, h2⟩ := h d (List.mem_cons_self ..)
    show onceF n ((d.val : Int) :: valL ds) g = 0
    unfold onceF
    have hd : 0 ≤ (d.val : Int) ∧ (d.val : Int) < n ∧ (d.val : Int).toNat < 5 := ⟨by omega, by omega, by omega⟩
    have e : (⟨(d.val : Int).toNat, hd.2.2⟩ : Fin 5) = d := Fin.ext (by simp)
    rw [dif_pos hd, e, if_neg (by simp [h2])]
    refine once_ok n ds _ hnd.2 fun c hc => ?_
    obtain ⟨h3, h4⟩ := h c (List.mem_cons_of_mem _ hc)
    refine ⟨h3, ?_⟩
    show (if c = d then true else g c) = false
    rw [if_neg (fun e : c = d => hnd.1 (e ▸ hc))]; exact h4
theorem once_perm' {n : Nat} {ds : List (Fin 5)} (hn : n ≤ 5) (hp : ds.Perm (idxL n)) : onceE n (valL ds) = 0 := by
  unfold onceE
  rw [if_neg (by rw [valL_length, hp.length_eq, idxL_length _ hn]; simp)]
  refine once_ok n ds _ (hp.nodup_iff.2 (idxL_nodup n)) fun d hd => ⟨?_, rfl⟩
  have := hp.mem_iff.1 hd
  revert this
  have : ∀ (n : Fin 6) (d : Fin 5), d ∈ idxL n.val → d.val < n.val := by decide
  exact this ⟨n, by omega⟩ d
set_option maxRecDepth 100000 in
set_option maxHeartbeats 400000 in
theorem made_own (n a b c d e x m : Int) (cs : List Int) (k : Nat) (w : World) (hcs : cs = [a, b, c, d, e]) (hn : 0 ≤ n ∧ n ≤ 255) (hm : 1 ≤ m ∧ m ≤ 1000) (hk : 1 + n % 5 = (k : Int)) (hc : ∀ j, 0 ≤ nth cs j ∧ nth cs j ≤ 65535) (hx : 0 ≤ x ∧ x ≤ 65535) :
    Calls Try.prog 38 #[qv n a b c d e x, .int .i64 m] w fun e w' => ∃ g cap, e = .returned (.tuple #[.int .i64 (x % (((cs.map (dr m)).take k).sum + 1)), .slice (some ⟨g, 0, none⟩) k cap]) ∧ RowN w' g ((cs.map (dr m)).take k) ∧ w.heap.size ≤ g ∧ Fut w w' := by
  have hk5 : k ≤ 5 := by omega
  obtain ⟨i0, hi, hz0, hz1, hz2⟩ := info_parts info3
  have hsl := slice5 k hk5
  have HC : ∀ w1, RowKit.Below (w.heap.size + 1) (w.alloc (.cells #[.int .u8 n, .int .u16 a, .int .u16 b, .int .u16 c, .int .u16 d, .int .u16 e, .int .u16 x] 40)) w1 → ∀ j, j < 5 → w1.cell? ⟨w.heap.size, 1 + j, none⟩ = some (.int .u16 (nth cs j)) := by
    intro w1 hb j hj
    rw [hb.cell (p := ⟨w.heap.size, 1 + j, none⟩) (by simp), World.cell?_alloc_at _ _ _ _ rfl, hcs]
    match j, hj with
    | 0, _ => rfl
    | 1, _ => rfl
    | 2, _ => rfl
    | 3, _ => rfl
    | 4, _ => rfl
  have HL : (cs.map (dr m)).length = 5 := by rw [hcs]; rfl
  go_enter Try.func38, Try.ntmps38
  go_wp2
  go_loopw [6, 17] (fun v i wr => ∃ j : Nat, j ≤ k ∧ i = .int .i64 j ∧ wr.ownsRow (w.heap.size + 1) 3 1 v j (((cs.map (dr m)).take j).map (Value.int .i64)) ∧ RowKit.Below (w.heap.size + 1) (w.alloc (.cells #[.int .u8 n, .int .u16 a, .int .u16 b, .int .u16 c, .int .u16 d, .int .u16 e, .int .u16 x] 40)) wr)
    (fun _ i _ => k - (intOf i).toNat)
  case atStart => exact ⟨0, Nat.zero_le _, rfl, World.ownsRow_nil _ _ _ _, RowKit.Below.refl _ _⟩
  case round =>
    obtain ⟨j, hj, rfl, hown, hnx⟩ := hrel
    have hcj := hc j
    have hsz := hnx.size
    by_cases hlt : j < k
    · have hcx := HC _ hnx j (by omega)
      have HN := Lib.hid (take_succ' (cs.map (dr m)) j (by omega))
      have HD : Hid (nth (cs.map (dr m)) j = 1 + nth cs j % m) := Lib.hid (by rw [nth_eq, nth_eq, List.getElem?_map]; simp [show j < cs.length by rw [List.length_map] at HL; omega, dr])
      have HH := Lib.hid HL
      clear HC hc hcs HL
      generalize nth cs j = y at *
      simp at hsz
      have hy1 := Int.emod_nonneg y (show m ≠ 0 by omega)
      have hy2 := Int.emod_lt_of_pos y (show 0 < m by omega)
      go_wp2_with (first
        | (at_builtin; refine wpList_append_own _ rfl _ _ 22 rfl (w.heap.size + 1) 3 i0 (.int .i64 0) 1 8 Try.underlying22 hi hz0 hz1 hz2 rfl (by decide) _ _ _ rfl (hown.alloc _) ⟨wr.heap.size, 0, none⟩ 1 1 [.int .i64 (1 + y % m)] rfl rfl ?c1 ?c2 ?c3 ?c4 ?c5 ?_)
        | go_in)
      case c1 =>
        intro i u hj
        match i, hj with
        | 0, hj => simp at hj; subst hj; simp [Addr.add]
      case c2 => intro u hu; simp at hu; subst hu; rfl
      case c3 => unfold maxLen; omega
      case c4 => omega
      case c5 => simp; omega
      · intro v' w1 hown' hgrow _
        have HO : Hid (w1.ownsRow (w.heap.size + 1) 3 1 v' (j + 1) (((cs.map (dr m)).take (j + 1)).map (Value.int .i64))) := Lib.hid (by rw [HN.out, HD.out]; simpa using hown')
        have HB : Hid (RowKit.Below (w.heap.size + 1) (w.alloc (.cells #[.int .u8 n, .int .u16 a, .int .u16 b, .int .u16 c, .int .u16 d, .int .u16 e, .int .u16 x] 40)) w1) := Lib.hid ((hnx.alloc (by omega) _).grown hgrow (by simp; omega) (fun i hi => by have := (hown.lt i hi).1; omega))
        clear hown' hgrow hown hnx hcx
        go_wp2
        go_roundw
        case rel => exact ⟨j + 1, by omega, by go_num, HO.out, HB.out⟩
        case measure => simp [intOf]; omega
    · obtain rfl : j = k := by omega
      have hx6 : wr.cell? ⟨w.heap.size, 6, none⟩ = some (.int .u16 x) := by
        rw [hnx.cell (p := ⟨w.heap.size, 6, none⟩) (by simp), World.cell?_alloc_at _ _ _ _ rfl]; rfl
      have hlen : ((cs.map (dr m)).take j).length = j := by rw [List.length_take, HL]; omega
      have hO : Owns wr (w.heap.size + 1) u6 ((cs.map (dr m)).take j) := by unfold Owns; rw [hlen]; exact hown
      have hS : Small ((cs.map (dr m)).take j) := by
        refine ⟨by omega, fun i => ?_⟩
        rw [nth_eq, List.getElem?_take]
        by_cases hi : i < j
        · rw [if_pos hi, List.getElem?_map]
          have h1 := hc i
          rw [nth_eq] at h1
          rcases cs[i]? with _ | y
          · simp
          · have hy1 := Int.emod_nonneg y (show m ≠ 0 by omega)
            have hy2 := Int.emod_lt_of_pos y (show 0 < m by omega)
            simp [dr]; omega
        · rw [if_neg hi]; simp
      have hB : RowKit.Below w.heap.size w wr := ((RowKit.Below.refl _ _).alloc (Nat.le_refl _) _).trans (hnx.mono (by omega))
      have hsum := take_sum _ hS.2 _ (Nat.le_refl _)
      rw [List.take_length] at hsum
      have hsl5 : ((((cs.map (dr m)).take j).length : Nat) : Int) ≤ 5 := by omega
      generalize hzs : (cs.map (dr m)).take j = zs at *
      have HZ := Lib.hid hzs
      have HJ := Lib.hid hlen
      clear hzs
      obtain ⟨g, cap, rfl, hgb, _, hR⟩ := own_row hO (by omega)
      have hA := hR.ints
      have HO := Lib.hid hR
      have hgb' : w.heap.size ≤ g := by omega
      have HB := Lib.hid hB
      have HF : ∀ q, Calls Try.prog 44 #[.slice (some ⟨g, 0, none⟩) zs.length cap] (wr.drewN q) fun e w' => e = .returned (.int .i64 zs.sum) ∧ w' = wr.drewN q := fun q => (refsum_any (some ⟨g, 0, none⟩) cap zs (wr.drewN q) hS (hA.fut (Fut.drewN _ _))).mono fun _ _ h => ⟨h.1, h.2.symm⟩
      have HF := Lib.hid HF
      clear hO hB hA hR hgb hS hown hnx HC hcs HL hcj hc hsl hlen
      have hs1 := hsum.1
      have hs2 : zs.sum ≤ 10000 := by omega
      have hw1 : IntKind.i64.wrap (zs.sum + 1) = zs.sum + 1 := IntWalk.i64_in _ ⟨by omega, by omega⟩
      have hw2 : IntKind.i64.wrap x = x := IntWalk.i64_in _ ⟨by omega, by omega⟩
      have h0 : zs.sum + 1 ≠ 0 := by omega
      have hr0 := Int.emod_nonneg x h0
      have hr1 := Int.emod_lt_of_pos x (show 0 < zs.sum + 1 by omega)
      have hw3 : IntKind.i64.wrap (x % (zs.sum + 1)) = x % (zs.sum + 1) := IntWalk.i64_in _ ⟨by omega, by omega⟩
      have htm : x.tmod (zs.sum + 1) = x % (zs.sum + 1) := Int.tmod_eq_emod_of_nonneg (by omega)
      go_wp2
      go_quiet (first | (go_at_call 44; refine Calls.quiet_of_same (HF.out _)))
      go_wp2
      go_ret2
      rw [HZ.out]
      exact ⟨g, cap, by rw [← HJ.out]; rfl, HO.out, hgb', below_drewN HB.out _⟩
theorem od_len (x : Int) (a c : Option Addr) (cap dap : Nat) (zs : List Int) (ds : List (Fin 5)) (w : World) (h : Full5 x zs) (hp : ds.Perm (idxL zs.length)) (hA : IntsAt w a zs) (hG : IntsAt w c (valL ds)) :
    Calls Try.prog 28 #[.int .i64 x, .slice a zs.length cap, .slice c zs.length dap] w (SlN zs.length w (oL x zs ds)) := by
  have hl : ds.length = zs.length := by rw [hp.length_eq, idxL_length _ h.2.1]
  have := order_ok x a c cap dap zs ds w hA hG (full_chk h) (once_perm' h.2.1 hp)
  rw [hl] at this
  exact own_slN rfl (list5_len _ _ h.2.1) this
theorem all_len (x : Int) (zs : List Int) (n : Nat) (l : Option Addr) (cap : Nat) (w : World) (h : Full5 x zs) (hl : zs.length = n) (hA : IntsAt w l zs) : Calls Try.prog 45 #[.int .i64 x, .slice l n cap] w fun e w' =>
    ∃ (ad : Nat → Option Addr) (cp : Nat → Nat), e = .returned (.tuple #[sl4 ad cp n, .bool true]) ∧ (∀ k, IntsAt w' (ad k) (DkL x zs k)) ∧ Fut w w' := by
  subst hl; exact all_any x zs l cap w h hA
theorem rs_len {x : Int} (zs : List Int) (n : Nat) (a : Option Addr) (cap : Nat) (w : World) (h : Full5 x zs) (hl : zs.length = n) (hA : IntsAt w a zs) : Calls Try.prog 44 #[.slice a n cap] w fun e w' => e = .returned (.int .i64 zs.sum) ∧ w = w' := by
  subst hl; exact refsum_any a cap zs w (full_small h) hA
end Go.Proofs.Ytdnbdaegahcoeaa
