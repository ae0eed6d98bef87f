/- Layer 2: Odd. -/
import Derived.Test.YtimddkofcejijaaRI
namespace Go.Proofs.Ytimddkofcejijaa
open Go.RowKit Go.Sort
theorem nil_ints (w : World) (a : Option Addr) : IntsAt w a [] := fun j hj => absurd hj (by simp)
theorem Owns.ints {w : World} {B : Nat} {v : Value} {zs : List Int} (h : Owns w B v zs) : ∃ a cap, v = .slice a zs.length cap ∧ IntsAt w a zs := by
  obtain ⟨_, h | ⟨g, cap, cur, rfl, _, hg, _, _, _, htake⟩⟩ := h
  · obtain ⟨rfl, h0⟩ := h
    exact ⟨none, 0, by rw [h0], fun j hj => by omega⟩
  · refine ⟨_, cap, rfl, fun j hj => ⟨g, 0, rfl, (Array.getElem?_eq_some_iff.1 hg).1, ?_⟩⟩
    rw [cell_of_row w g _ cur 3 (0, 0) hg, Nat.zero_add]
    have e : (zs.map (Value.int .i64))[j]? = some (.int .i64 (nth zs j)) := by rw [nth_eq]; simp [hj]
    rw [← e, ← htake, List.getElem?_take]
    simp; omega
theorem list_sl (s : Nat) (w : World) (hs : s < 65536) : Calls Try.prog 56 #[sv s] w fun e w' => ∃ l cap, e = .returned (.slice l (listM s).length cap) ∧ IntsAt w' l (listM s) ∧ Fut w w' :=
  (list_any' s w hs).mono fun _ _ ⟨_, e, hO, F⟩ => by
    obtain ⟨l, cap, rfl, hI⟩ := hO.ints
    exact ⟨l, cap, e, hI, F⟩
/-- a list of numbers and an error. -/
abbrev TupL (r : Int) (L : List Int) (w : World) (e : Ending) (w' : World) : Prop := ∃ l cap, e = .returned (.tuple #[.slice l L.length cap, .int .i64 r]) ∧ IntsAt w' l L ∧ Fut w w'
theorem chk_good {c : Int} {ss : List (Int × Int)} (h : chkM c ss = 0) : 1 ≤ c ∧ c ≤ 6 ∧ ss.length ≤ 9 ∧ SmL ss ∧ (∀ p ∈ ss, 0 ≤ p.1 ∧ p.1 < p.2 ∧ p.2 < c) ∧ reachM ss (2 ^ ss.length - 1) c.toNat 1 = 2 ^ c.toNat - 1 := by
  unfold chkM at h
  split at h
  · omega
  split at h
  · omega
  split at h
  · rename_i h1 h2 h3
    split at h
    · rename_i h4
      exact ⟨by omega, by omega, by omega, st_small (by omega) h3, fun p hp => stE_ok (stL_ok h3 p hp), h4⟩
    · omega
  · rename_i h3; exact absurd h h3
theorem chk_std {c : Int} {ss : List (Int × Int)} (h : chkM c ss ≠ 0) : (chkM c ss == 0) = false ∧ (chkM c ss != 0) = true := ⟨beq_eq_false_iff_ne.2 h, bne_iff_ne.2 h⟩
set_option maxRecDepth 100000 in
set_option maxHeartbeats 1000000 in
theorem oddf_err (c : Int) (a : Option Addr) (cap : Nat) (ss : List (Int × Int)) (w : World) (hS : StrAt w a ss) (h : chkM c ss ≠ 0) :
    Calls Try.prog 15 #[mapV c a ss.length cap] w (TupL (chkM c ss) [] w) := by
  have HC := Lib.hid (fun W (F : Fut w W) => check_any' c a cap ss W (hS.fut F))
  obtain ⟨_, h2⟩ := chk_std h
  clear hS h
  generalize chkM c ss = r at *
  go_enter Try.func15, Try.ntmps15
  go_wp2_with fail
  refine (HC.out _ (Fut.alloc _ _)).mono ?_
  rintro _ w1 ⟨rfl, F⟩
  go_wp2
  go_ret2
  exact ⟨_, _, rfl, nil_ints _ _, (Fut.alloc _ _).trans F⟩
set_option maxRecDepth 100000 in
set_option maxHeartbeats 1000000 in
theorem oddf_ok (c : Int) (a : Option Addr) (cap : Nat) (ss : List (Int × Int)) (w : World) (hS : StrAt w a ss) (h : chkM c ss = 0) :
    Calls Try.prog 15 #[mapV c a ss.length cap] w (TupL 0 (listM (oddM ss (2 ^ ss.length - 1))) w) := by
  have HC := Lib.hid (fun W (F : Fut w W) => check_any' c a cap ss W (hS.fut F))
  rw [h] at HC
  obtain ⟨_, _, h9, hp, _, _⟩ := chk_good h
  have H1 := Lib.hid (fun W (F : Fut w W) => odd_any c a cap ss (2 ^ ss.length - 1) W (hS.fut F) (by omega) hp (mask_lt (by omega)))
  have H2 := Lib.hid (fun W => all_any c a ss.length cap W (by omega))
  have hol := oddM_lt hp (2 ^ ss.length - 1)
  have H3 := Lib.hid (fun W => list_sl (oddM ss (2 ^ ss.length - 1)) W hol)
  clear hS h hp
  generalize oddM ss (2 ^ ss.length - 1) = o at *
  generalize 2 ^ ss.length - 1 = m at *
  go_enter Try.func15, Try.ntmps15
  go_wp2_with fail
  have hB := BoxM.new w c a ss.length cap 24
  have hF : Fut w (w.alloc (.cells #[.int .i64 c, .slice a ss.length cap] 24)) := Fut.alloc _ _
  generalize w.alloc (.cells #[.int .i64 c, .slice a ss.length cap] 24) = W1 at *
  generalize w.heap.size = B at *
  refine (HC.out _ hF).mono ?_
  rintro _ w1 ⟨rfl, F⟩
  have HF : Hid (Fut w w1.drew) := Lib.hid ((hF.trans F).trans (Fut.drewN _ 1))
  have HBD : Hid (BoxM w1.drew B c a ss.length cap) := Lib.hid ((hB.fut F).fut (Fut.drewN _ 1))
  obtain ⟨hb, b0, b1⟩ := hB.fut F
  clear hB hF F
  go_wp2_with fail
  go_region_held3 (fun w' => w'.cell? ⟨B, 0, none⟩ = some (.int .i64 c) ∧ w'.cell? ⟨B, 1, none⟩ = some (.slice a ss.length cap)) (first | exact ⟨a0, a1⟩ | exact ⟨b0', b1'⟩ | exact ⟨d0', d1'⟩ | go_keep)
    (first
      | (go_at_call 55; (with_reducible refine (H2.out _).mono ?_); rintro _ wa ⟨rfl, Fa⟩; have ga := HBD.out.fut Fa; obtain ⟨ha, a0, a1⟩ := ga)
      | (go_at_call 54; (with_reducible refine (H1.out _ (HF.out.trans Fa)).mono ?_); rintro _ wb ⟨rfl, Fb⟩; have gb := BoxM.fut ⟨ha, a0, a1⟩ Fb; obtain ⟨hb', b0', b1'⟩ := gb)
      | (go_at_call 56; (with_reducible refine (H3.out _).mono ?_); rintro _ wd ⟨l, cl, rfl, hI, Fd⟩; have gd := BoxM.fut ⟨hb', b0', b1'⟩ Fd; obtain ⟨hd', d0', d1'⟩ := gd))
  have HI := Lib.hid hI
  clear hI
  go_wp2
  go_ret2
  exact ⟨_, _, rfl, HI.out, ((HF.out.trans Fa).trans Fb).trans Fd⟩
end Go.Proofs.Ytimddkofcejijaa
