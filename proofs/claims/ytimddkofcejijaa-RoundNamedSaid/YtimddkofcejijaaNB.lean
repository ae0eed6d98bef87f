/- Layer 2: RoundNamed's own parts: an element taken out of a row; orders of corners; a turn of the streets. -/
import Derived.Test.YtimddkofcejijaaNA
import Derived.Test.YtimddkofcejijaaRX
import Derived.Test.YtimddkofcejijaaRQ
import Derived.Test.YtimddkofcejijaaSG
import Derived.Test.YtimddkofcejijaaSL
import Derived.Test.YtimddkofcejijaaEG
import Derived.Test.YtimddkofcejijaaRU
import Derived.Shelf.Slices.Delete
namespace Go.Proofs.Ytimddkofcejijaa
open Go.RowKit Go.Sort
namespace Nm
theorem below_drewN {w w0 : World} {B : Nat} (h : RowKit.Below B w0 w) (n : Nat) : RowKit.Below B w0 (w.drewN n) := h.trans ⟨rfl, rfl, rfl, Nat.le_refl _, fun _ _ => rfl⟩
/-- a row that the call has made, and reads as these numbers. -/
def RowN (w : World) (g : Nat) (zs : List Int) : Prop := (∀ j, j < zs.length → w.cell? ⟨g, j, none⟩ = some (.int .i64 (nth zs j))) ∧ ∀ j, w.frozen? ⟨g, j, none⟩ = false
theorem RowN.below {w w' : World} {B g : Nat} {zs : List Int} (h : RowN w g zs) (hb : RowKit.Below B w w') (hg : g < B) : RowN w' g zs :=
  ⟨fun j hj => (hb.cell (p := ⟨g, j, none⟩) hg).trans (h.1 j hj), fun j => (hb.frozen (p := ⟨g, j, none⟩) hg).trans (h.2 j)⟩
theorem RowN.holds {w : World} {g : Nat} {zs : List Int} (h : RowN w g zs) : Holds (Value.int .i64) w g 0 zs.toArray := fun j hj => by
  have hj' : j < zs.length := by simpa using hj
  refine ⟨?_, by rw [Nat.zero_add]; exact h.2 j⟩
  rw [Nat.zero_add, h.1 j hj', nth_eq, List.getElem?_eq_getElem hj']
  simp [hj']
theorem RowN.put {w : World} {g : Nat} {zs ys : List Int} (h : RowN w g zs) (hl : ys.length = zs.length) : RowN (putRow (Value.int .i64) w g 0 ys.toArray) g ys := by
  refine ⟨fun j hj => ?_, fun j => by rw [frozen?_putRow]; exact h.2 j⟩
  have := cell?_putRow (Value.int .i64) w g 0 zs.toArray ys.toArray h.holds (by simpa using hl) j (by simpa using hj)
  rw [Nat.zero_add] at this
  rw [this, nth_eq, List.getElem?_eq_getElem hj]
  simp [hj]
theorem RowN.part {w : World} {g : Nat} {zs ys : List Int} (h : RowN w g (zs ++ ys)) : RowN w g zs := by
  refine ⟨fun j hj => ?_, h.2⟩
  have := h.1 j (by rw [List.length_append]; omega)
  rw [this, nth_eq, nth_eq, List.getElem?_append_left hj]
theorem below_put {w w0 : World} {B blk : Nat} (h : RowKit.Below B w0 w) (hb : B ≤ blk) (d : Array Int) : RowKit.Below B w0 (putRow (Value.int .i64) w blk 0 d) :=
  h.trans ⟨rfl, rfl, rfl, by simp, fun k hk => by
    show (w.heap.modify blk _)[k]? = _
    rw [Array.getElem?_modify, if_neg (by omega)]⟩
theorem own_put {w : World} {B blk : Nat} {v : Value} {n : Nat} {xs : List Value} (h : w.ownsRow B 3 1 v n xs) (hb : blk < B) (d : Array Int) : (putRow (Value.int .i64) w blk 0 d).ownsRow B 3 1 v n xs := by
  refine h.kept (row := some blk) ⟨rfl, rfl, rfl, by simp, fun k hk hne => ?_⟩ ?_
  · show (w.heap.modify blk _)[k]? = _
    rw [Array.getElem?_modify, if_neg (fun e => hne (by rw [e]))]
  · cases e : v.ownBlock with
    | none => exact .inl rfl
    | some k => exact .inr (fun e' => by injection e' with e'; have := (h.lt k e).1; omega)
theorem row_form {w : World} {B size : Nat} {e : TypeId} {v : Value} {n : Nat} {xs : List Value} (h : w.ownsRow B e size v n xs) : ∃ a c, v = .slice a n c := by
  rcases h.2 with ⟨rfl, h0⟩ | ⟨g, cap, cur, rfl, _⟩
  · exact ⟨none, 0, by rw [h0]⟩
  · exact ⟨_, _, rfl⟩
theorem row_ints {w : World} {B : Nat} {v : Value} {n : Nat} {zs : List Int} (h : w.ownsRow B 3 1 v n (zs.map (.int .i64))) (hl : zs.length = n) (h0 : 0 < n) :
    ∃ g cap, v = .slice (some ⟨g, 0, none⟩) n cap ∧ B ≤ g ∧ g < w.heap.size ∧ RowN w g zs ∧ n ≤ cap ∧ cap ≤ 9223372036854775807 := by
  obtain ⟨_, h | ⟨g, cap, cur, rfl, hb, hg, hnc, hm, hcs, htake⟩⟩ := h
  · exfalso
    obtain ⟨_, h1⟩ := h
    omega
  · have hlt := (Array.getElem?_eq_some_iff.1 hg).1
    unfold maxLen at hm
    refine ⟨g, cap, rfl, hb, hlt, ⟨fun j hj => ?_, fun j => frozen_of_row w g j _ _ hg⟩, hnc, by omega⟩
    have e : (zs.map (Value.int .i64))[j]? = some (.int .i64 (nth zs j)) := by rw [nth_eq]; simp [hj]
    rw [← htake, List.getElem?_take, if_pos (by omega)] at e
    rw [cell_of_row w g j _ _ _ hg]
    simpa using e
def dRen : Go.Shelf.Ren := ⟨fun | 23 => 42 | n => n, fun | 22 => 25 | n => n, fun n => n⟩
open Go.Shelf in
theorem dLay : Lays2.n23 Try.prog dRen :=
  { mixed := (by kernel_rfl)
    f23 := Try.func42.trans (congrArg some (by kernel_rfl))
    t0 := Try.underlying0
    a0 := Try.isAgg0
    z0 := Try.sizeOf0
    v0 := Try.zeroValue0
    t3 := Try.underlying3
    a3 := Try.isAgg3
    z3 := Try.sizeOf3
    v3 := Try.zeroValue3
    t4 := Try.underlying4
    a4 := Try.isAgg4
    z4 := Try.sizeOf4
    v4 := Try.zeroValue4
    t22 := Try.underlying25
    a22 := Try.isAgg25
    z22 := Try.sizeOf25
    v22 := Try.zeroValue25
    i3 := by kernel_rfl }
open Go.Shelf in
/-- one element is taken out of a row. -/
theorem del_any (g cap k : Nat) (zs : List Int) (w : World) (hR : RowN w g zs) (hc : zs.length ≤ cap) (hm : cap ≤ 9223372036854775807) (hk : k < zs.length) :
    Calls Try.prog 42 #[.slice (some ⟨g, 0, none⟩) zs.length cap, .int .i64 k, .int .i64 ((k : Int) + 1)] w fun e w' =>
      e = .returned (.slice (some ⟨g, 0, none⟩) (zs.length - 1) cap) ∧ RowN w' g (zs.take k ++ zs.drop (k + 1)) ∧ (∀ B, B ≤ g → RowKit.Below B w w') ∧ w.heap.size ≤ w'.heap.size ∧ ∀ (B : Nat) v n xs, w.ownsRow B 3 1 v n xs → g < B → w'.ownsRow B 3 1 v n xs := by
  have h := Any.slices_Delete_int dLay g 0 cap k (k + 1) zs w hR.holds hc hm (by omega) (by omega)
  rw [show ((k + 1 : Nat) : Int) = (k : Int) + 1 by omega] at h
  refine h.mono ?_
  rintro e w' ⟨rfl, q, rfl⟩
  have ha : Sort.ahead w q = w.drewN q := rfl
  rw [ha]
  have hd : RowN (w.drewN q) g zs := hR
  have hb0 : RowKit.Below g w (putRow (Value.int .i64) (w.drewN q) g 0 (zs.take k ++ zs.drop (k + 1) ++ List.replicate (k + 1 - k) 0).toArray) := below_put (below_drewN (RowKit.Below.refl _ _) q) (Nat.le_refl _) _
  refine ⟨by rw [show k + 1 - k = 1 by omega], ?_, fun B hB => below_put (below_drewN (RowKit.Below.refl _ _) q) hB _, ?_, fun B v n xs ho hB => own_put (w := w.drewN q) ho hB _⟩
  · have := hd.put (ys := zs.take k ++ zs.drop (k + 1) ++ List.replicate (k + 1 - k) 0) (by simp; omega)
    exact this.part
  · exact hb0.size
def ints (n : Nat) : List Int := (List.range n).map fun (k : Nat) => (k : Int)
theorem ints_succ (n : Nat) : (ints (n + 1)).map (Value.int .i64) = (ints n).map (Value.int .i64) ++ [.int .i64 (n : Int)] := by
  unfold ints; rw [List.range_succ]; simp
theorem ints_len (n : Nat) : (ints n).length = n := by unfold ints; simp
theorem perm_out (tl L : List Int) (k : Nat) (hk : k < L.length) : ((tl ++ [nth L k]) ++ (L.take k ++ L.drop (k + 1))).Perm (tl ++ L) := by
  have e : L = L.take k ++ nth L k :: L.drop (k + 1) := by
    have h1 : L[k] = nth L k := by rw [nth_eq, List.getElem?_eq_getElem hk]; rfl
    have h2 := List.take_append_drop k L
    rw [List.drop_eq_getElem_cons hk, h1] at h2
    exact h2.symm
  rw [List.append_assoc]
  refine List.Perm.append_left tl ?_
  conv => rhs; rw [e]
  rw [List.singleton_append]
  exact List.perm_middle.symm
/-- numbers of corners that are an order: there and back. -/
theorem perm_iso {n : Nat} {tl : List Int} (h : tl.Perm (ints n)) : ∃ U : Nat → Nat, (∀ c, c < n → 0 ≤ nth tl c ∧ nth tl c < n ∧ U (nth tl c).toNat = c) ∧ (∀ c, c < n → U c < n ∧ (nth tl (U c)).toNat = c) := by
  have hl : tl.length = n := by rw [h.length_eq, ints_len]
  have hnd : tl.Nodup := h.nodup_iff.2 (by
    unfold ints
    refine List.Pairwise.map _ (fun a b (h : a ≠ b) => ?_) List.nodup_range
    intro e
    exact h (by omega))
  have hm : ∀ x : Int, x ∈ tl ↔ 0 ≤ x ∧ x < n := fun x => by
    rw [h.mem_iff]
    unfold ints
    rw [List.mem_map]
    constructor
    · rintro ⟨k, hk, rfl⟩; have := List.mem_range.1 hk; omega
    · rintro ⟨h1, h2⟩; exact ⟨x.toNat, List.mem_range.2 (by omega), by omega⟩
  have hn : ∀ c (hc : c < tl.length), nth tl c = tl[c] := fun c hc => by rw [nth_eq, List.getElem?_eq_getElem hc]; rfl
  refine ⟨fun c => tl.idxOf (c : Int), fun c hc => ?_, fun c hc => ?_⟩
  · have hc' : c < tl.length := by omega
    have hmem := (hm (nth tl c)).1 (by rw [hn c hc']; exact List.getElem_mem hc')
    refine ⟨hmem.1, hmem.2, ?_⟩
    have e : (((nth tl c).toNat : Nat) : Int) = nth tl c := by omega
    show tl.idxOf ((nth tl c).toNat : Int) = c
    rw [e, hn c hc']
    exact hnd.idxOf_getElem c hc'
  · have hc' : (c : Int) ∈ tl := (hm c).2 ⟨by omega, by omega⟩
    have hlt := List.idxOf_lt_length_iff.2 hc'
    refine ⟨(by omega : tl.idxOf (c : Int) < n), ?_⟩
    show (nth tl (tl.idxOf (c : Int))).toNat = c
    rw [hn _ hlt, List.getElem_idxOf]
    omega
theorem turn_back {L t : Nat} (h : 0 < L) : (∀ i, i < L → (i + t) % L < L ∧ ((i + t) % L + (L - t % L)) % L = i) ∧ (∀ i, i < L → (i + (L - t % L)) % L < L ∧ ((i + (L - t % L)) % L + t) % L = i) := by
  have hr := Nat.mod_lt t h
  have hd := Nat.div_add_mod t L
  have key : ∀ i, i < L → (i + t + (L - t % L)) % L = i := fun i hi => by
    have e : i + t + (L - t % L) = i + L * (t / L + 1) := by rw [Nat.mul_add]; omega
    rw [e, Nat.add_mul_mod_self_left, Nat.mod_eq_of_lt hi]
  refine ⟨fun i hi => ⟨Nat.mod_lt _ h, ?_⟩, fun i hi => ⟨Nat.mod_lt _ h, ?_⟩⟩
  · rw [Nat.mod_add_mod]; exact key i hi
  · rw [Nat.mod_add_mod, show i + (L - t % L) + t = i + t + (L - t % L) by omega]; exact key i hi
/-- the streets with other numbers of the corners, in another order. -/
def nmP (tl : List Int) (p : Int × Int) : Int × Int := (min (nth tl p.1.toNat) (nth tl p.2.toNat), max (nth tl p.1.toNat) (nth tl p.2.toNat))
def nmL (tl : List Int) (ss : List (Int × Int)) (t k : Nat) : List (Int × Int) := (List.range k).map fun i => nmP tl (str ss ((i + t) % ss.length))
theorem nmL_succ (tl : List Int) (ss : List (Int × Int)) (t k : Nat) : nmL tl ss t (k + 1) = nmL tl ss t k ++ [nmP tl (str ss ((k + t) % ss.length))] := by
  unfold nmL; rw [List.range_succ]; simp
theorem nmL_len (tl : List Int) (ss : List (Int × Int)) (t k : Nat) : (nmL tl ss t k).length = k := by unfold nmL; simp
theorem named_iso {n : Nat} {ss : List (Int × Int)} {tl : List Int} (h : tl.Perm (ints n)) (t : Nat) (hg : ∀ p ∈ ss, 0 ≤ p.1 ∧ p.1 < p.2 ∧ p.2 < (n : Int)) :
    (∃ T U σ τ, IsoP n ss (nmL tl ss t ss.length) T U σ τ) ∧ ∀ p ∈ nmL tl ss t ss.length, 0 ≤ p.1 ∧ p.1 < p.2 ∧ p.2 < (n : Int) := by
  obtain ⟨U, h1, h2⟩ := perm_iso h
  constructor
  · by_cases hL : 0 < ss.length
    · obtain ⟨s1, s2⟩ := turn_back (t := t) hL
      refine ⟨fun c => (nth tl c).toNat, U, fun i => (i + t) % ss.length, fun i => (i + (ss.length - t % ss.length)) % ss.length, nmL_len _ _ _ _, fun c hc => ⟨by have := h1 c hc; omega, (h1 c hc).2.2⟩, h2, s1, s2, fun i hi => ?_⟩
      have e : str (nmL tl ss t ss.length) i = nmP tl (str ss ((i + t) % ss.length)) := by
        rw [str_eq]; unfold nmL; rw [List.getElem?_map, List.getElem?_range hi]; rfl
      rw [e]
      unfold nmP
      dsimp only
      rcases Int.le_total (nth tl (str ss ((i + t) % ss.length)).1.toNat) (nth tl (str ss ((i + t) % ss.length)).2.toNat) with hle | hle
      · left; rw [Int.min_eq_left hle, Int.max_eq_right hle]; exact ⟨rfl, rfl⟩
      · right; rw [Int.min_eq_right hle, Int.max_eq_left hle]; exact ⟨rfl, rfl⟩
    · have h0 : ss.length = 0 := by omega
      exact ⟨fun c => (nth tl c).toNat, U, id, id, nmL_len _ _ _ _, fun c hc => ⟨by have := h1 c hc; omega, (h1 c hc).2.2⟩, h2, fun i hi => by omega, fun i hi => by omega, fun i hi => by omega⟩
  · intro p hp
    unfold nmL at hp
    obtain ⟨i, hi, rfl⟩ := List.mem_map.1 hp
    have hi := List.mem_range.1 hi
    have hm := hg _ (str_mem ss ((i + t) % ss.length) (Nat.mod_lt _ (by omega)))
    have ha := h1 (str ss ((i + t) % ss.length)).1.toNat (by omega)
    have hb := h1 (str ss ((i + t) % ss.length)).2.toNat (by omega)
    have hne : nth tl (str ss ((i + t) % ss.length)).1.toNat ≠ nth tl (str ss ((i + t) % ss.length)).2.toNat := fun e => by
      have h3 := ha.2.2
      rw [e, hb.2.2] at h3
      omega
    unfold nmP
    dsimp only
    omega
end Nm
end Go.Proofs.Ytimddkofcejijaa
