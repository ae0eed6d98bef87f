/- Layer 1: the reference's rule, gains and losses. -/
import Derived.Test.YtdnbdaegahcoeaaRuleC
namespace Go.Proofs.Ytdnbdaegahcoeaa
open Go.RowKit Go.Sort
abbrev NilE (r : Int) (w : World) (e : Ending) (w' : World) : Prop := e = .returned (.tuple #[.slice none 0 0, .int .i64 r]) ∧ w = w'
theorem rdiv_err (x : Int) (a : Option Addr) (cap : Nat) (zs : List Int) (w : World) (hl : zs.length ≤ 9223372036854775807) (hA : IntsAt w a zs) (hc : chk x zs ≠ 0) :
    Calls Try.prog 18 #[.int .i64 x, .slice a zs.length cap] w (NilE (chk x zs) w) := by
  have HC := Lib.hid (rchk_any x a cap zs w hl hA)
  have e1 : (chk x zs == 0) = false := by rw [beq_eq_false_iff_ne]; exact hc
  have e2 : (chk x zs != 0) = true := by rw [bne, e1]; rfl
  generalize chk x zs = r at *
  clear hA hc
  go_enter Try.func18, Try.ntmps18
  go_wp2_with fail
  refine HC.out.mono ?_
  rintro _ _ ⟨rfl, rfl⟩
  go_wp2
  go_ret2
  exact ⟨rfl, rfl⟩
theorem rgain_err (x : Int) (a : Option Addr) (cap : Nat) (zs : List Int) (w : World) (hl : zs.length ≤ 9223372036854775807) (hA : IntsAt w a zs) (hc : chk x zs ≠ 0) :
    Calls Try.prog 20 #[.int .i64 x, .slice a zs.length cap] w (NilE (chk x zs) w) := by
  have HC := Lib.hid (rchk_any x a cap zs w hl hA)
  have e1 : (chk x zs == 0) = false := by rw [beq_eq_false_iff_ne]; exact hc
  have e2 : (chk x zs != 0) = true := by rw [bne, e1]; rfl
  generalize chk x zs = r at *
  clear hA hc
  go_enter Try.func20, Try.ntmps20
  go_wp2_with fail
  refine HC.out.mono ?_
  rintro _ _ ⟨rfl, rfl⟩
  go_wp2
  go_ret2
  exact ⟨rfl, rfl⟩
theorem rloss_err (x : Int) (a : Option Addr) (cap : Nat) (zs : List Int) (w : World) (hl : zs.length ≤ 9223372036854775807) (hA : IntsAt w a zs) (hc : chk x zs ≠ 0) :
    Calls Try.prog 22 #[.int .i64 x, .slice a zs.length cap] w (NilE (chk x zs) w) := by
  have HC := Lib.hid (rchk_any x a cap zs w hl hA)
  have e1 : (chk x zs == 0) = false := by rw [beq_eq_false_iff_ne]; exact hc
  have e2 : (chk x zs != 0) = true := by rw [bne, e1]; rfl
  generalize chk x zs = r at *
  clear hA hc
  go_enter Try.func22, Try.ntmps22
  go_wp2_with fail
  refine HC.out.mono ?_
  rintro _ _ ⟨rfl, rfl⟩
  go_wp2
  go_ret2
  exact ⟨rfl, rfl⟩
theorem rgain_ok (x : Int) (zs : List Int) (l : Option Addr) (cap : Nat) (w : World) (h : Full5 x zs) (hA : IntsAt w l zs) : Calls Try.prog 20 #[.int .i64 x, .slice l zs.length cap] w (SlN zs.length w (spG x zs)) := by
  obtain ⟨M, hM, e, hs⟩ := spG_list h
  rw [e]
  have HC := Lib.hid (rchk_any x l cap zs w (by have := h.2.1; omega) hA)
  rw [full_chk h] at HC
  have hx : 0 ≤ x ∧ x ≤ 5000 := by have := full_sum h; have := h.2.2.2; omega
  have HK := Lib.hid h
  have HS := Lib.hid hs
  clear e hs h
  go_enter Try.func20, Try.ntmps20
  go_wp2_with fail
  refine HC.out.mono ?_
  rintro _ _ ⟨rfl, rfl⟩
  go_wp2_with fail
  refine (tm_len 120 x l cap zs _ (by decide) HK.out hA).mono ?_
  rintro _ v1 ⟨l1, c1, rfl, h1, F1⟩
  go_wp2_with fail
  refine (cp_len (120 * x) M x 120 l1 c1 zs _ (by decide) HK.out hM HS.out h1).mono ?_
  rintro _ v2 ⟨l2, c2, rfl, h2, F⟩
  replace F1 := F1.trans F
  clear F
  go_wp2_with fail
  go_ret2
  exact ⟨l2, c2, rfl, h2, F1⟩
theorem rloss_ok (x : Int) (zs : List Int) (l : Option Addr) (cap : Nat) (w : World) (h : Full5 x zs) (hA : IntsAt w l zs) : Calls Try.prog 22 #[.int .i64 x, .slice l zs.length cap] w (SlN zs.length w (spL x zs)) := by
  obtain ⟨M, hM, e, hs⟩ := spL_list h
  rw [e]
  have HC := Lib.hid (rchk_any x l cap zs w (by have := h.2.1; omega) hA)
  rw [full_chk h] at HC
  have hsm := full_sum h
  have hx := h.2.2.2
  have HK := Lib.hid h
  have HS := Lib.hid hs
  clear e hs h
  go_enter Try.func22, Try.ntmps22
  go_wp2_with fail
  refine HC.out.mono ?_
  rintro _ _ ⟨rfl, rfl⟩
  go_wp2_with fail
  refine (tm_len 120 x l cap zs _ (by decide) HK.out hA).mono ?_
  rintro _ v1 ⟨l1, c1, rfl, h1, F1⟩
  replace hA := hA.fut F1
  have HR := Lib.hid (rsum_any l cap zs v1 (by have := HK.out.2.1; omega) (fun k _ => by have := full_nth HK.out k; omega) hA)
  go_wp2_with fail
  refine HR.out.mono ?_
  rintro _ _ ⟨rfl, rfl⟩
  clear HR
  go_wp2_with fail
  refine (cp_len (120 * (zs.sum - x)) M x 120 l1 c1 zs _ (by decide) HK.out hM HS.out h1).mono ?_
  rintro _ v2 ⟨l2, c2, rfl, h2, F⟩
  replace F1 := F1.trans F
  replace h1 := h1.fut F
  clear F
  go_wp2_with fail
  refine (ls_len x 120 M l1 l2 c1 c2 zs _ (by decide) HK.out hM h1 h2).mono ?_
  rintro _ v3 ⟨l3, c3, rfl, h3, F⟩
  replace F1 := F1.trans F
  clear F
  go_wp2_with fail
  go_ret2
  exact ⟨l3, c3, rfl, h3, F1⟩
theorem rdiv_ok (x : Int) (zs : List Int) (l : Option Addr) (cap : Nat) (w : World) (h : Full5 x zs) (hA : IntsAt w l zs) : Calls Try.prog 18 #[.int .i64 x, .slice l zs.length cap] w (SlN zs.length w (gD x zs)) := by
  have HC := Lib.hid (rchk_any x l cap zs w (by have := h.2.1; omega) hA)
  rw [full_chk h] at HC
  have hsm := full_sum h
  have hx := h.2.2.2
  have HK := Lib.hid h
  by_cases hc : 2 * x ≤ zs.sum
  · obtain ⟨M, hM, e, hs⟩ := gD_lo h hc
    rw [e]
    have HS := Lib.hid hs
    clear e hs h
    go_enter Try.func18, Try.ntmps18
    go_wp2_with fail
    refine HC.out.mono ?_
    rintro _ _ ⟨rfl, rfl⟩
    go_wp2_with fail
    refine (tm_len 60 x l cap zs _ (by decide) HK.out hA).mono ?_
    rintro _ v1 ⟨l1, c1, rfl, h1, F1⟩
    replace hA := hA.fut F1
    have HR := Lib.hid (rsum_any l cap zs v1 (by have := HK.out.2.1; omega) (fun k _ => by have := full_nth HK.out k; omega) hA)
    go_wp2_with fail
    refine HR.out.mono ?_
    rintro _ _ ⟨rfl, rfl⟩
    clear HR
    go_wp2_with fail
    refine (cp_len (120 * x) M x 60 l1 c1 zs _ (by decide) HK.out hM HS.out h1).mono ?_
    rintro _ v2 ⟨l2, c2, rfl, h2, F⟩
    replace F1 := F1.trans F
    clear F
    go_wp2_with fail
    go_ret2
    exact ⟨l2, c2, rfl, h2, F1⟩
  · obtain ⟨M, hM, e, hs⟩ := gD_hi h hc
    rw [e]
    have HS := Lib.hid hs
    clear e hs h
    go_enter Try.func18, Try.ntmps18
    go_wp2_with fail
    refine HC.out.mono ?_
    rintro _ _ ⟨rfl, rfl⟩
    go_wp2_with fail
    refine (tm_len 60 x l cap zs _ (by decide) HK.out hA).mono ?_
    rintro _ v1 ⟨l1, c1, rfl, h1, F1⟩
    replace hA := hA.fut F1
    have HR := Lib.hid (rsum_any l cap zs v1 (by have := HK.out.2.1; omega) (fun k _ => by have := full_nth HK.out k; omega) hA)
    go_wp2_with fail
    refine HR.out.mono ?_
    rintro _ _ ⟨rfl, rfl⟩
    clear HR
    go_wp2_with fail
    refine (tm_len 120 x l cap zs _ (by decide) HK.out hA).mono ?_
    rintro _ v2 ⟨l2, c2, rfl, h2, F⟩
    replace F1 := F1.trans F
    replace h1 := h1.fut F
    replace hA := hA.fut F
    clear F
    have HR := Lib.hid (rsum_any l cap zs v2 (by have := HK.out.2.1; omega) (fun k _ => by have := full_nth HK.out k; omega) hA)
    go_wp2_with fail
    refine HR.out.mono ?_
    rintro _ _ ⟨rfl, rfl⟩
    clear HR
    go_wp2_with fail
    refine (cp_len (120 * (zs.sum - x)) M x 60 l1 c1 zs _ (by decide) HK.out hM HS.out h1).mono ?_
    rintro _ v3 ⟨l3, c3, rfl, h3, F⟩
    replace F1 := F1.trans F
    replace h2 := h2.fut F
    clear F
    go_wp2_with fail
    refine (ls_len x 60 M l2 l3 c2 c3 zs _ (by decide) HK.out hM h2 h3).mono ?_
    rintro _ v4 ⟨l4, c4, rfl, h4, F⟩
    replace F1 := F1.trans F
    clear F
    go_wp2_with fail
    go_ret2
    exact ⟨l4, c4, rfl, h4, F1⟩
/-- two functions hand back the same list and the same error, in every later memory. -/
def Both (F G : Nat) (x : Int) (a : Option Addr) (n cap : Nat) (w : World) (r : Int) (L : List Int) : Prop :=
  L.length ≤ 5 ∧ (∀ W, Fut w W → Calls Try.prog F #[.int .i64 x, .slice a n cap] W fun e w' => ∃ l c, e = .returned (.tuple #[.slice l L.length c, .int .i64 r]) ∧ IntsAt w' l L ∧ Fut W w') ∧
    ∀ W, Fut w W → Calls Try.prog G #[.int .i64 x, .slice a n cap] W fun e w' => ∃ l c, e = .returned (.tuple #[.slice l L.length c, .int .i64 r]) ∧ IntsAt w' l L ∧ Fut W w'
theorem nil_ints (w : World) (a : Option Addr) : IntsAt w a [] := fun j hj => absurd hj (by simp)
theorem both_of {F G : Nat} {x : Int} {a : Option Addr} {cap : Nat} {zs L : List Int} {w : World} (hA : IntsAt w a zs) (hF : Full5 x zs) (hl : L.length = zs.length)
    (h1 : ∀ W, IntsAt W a zs → Calls Try.prog F #[.int .i64 x, .slice a zs.length cap] W (SlN zs.length W L))
    (h2 : ∀ W, IntsAt W a zs → Calls Try.prog G #[.int .i64 x, .slice a zs.length cap] W (SlN zs.length W L)) : Both F G x a zs.length cap w 0 L :=
  ⟨by rw [hl]; exact hF.2.1, fun W h => by rw [hl]; exact h1 W (hA.fut h), fun W h => by rw [hl]; exact h2 W (hA.fut h)⟩
theorem both_err {F G : Nat} {x r : Int} {a : Option Addr} {cap : Nat} {zs : List Int} {w : World} (hA : IntsAt w a zs)
    (h1 : ∀ W, IntsAt W a zs → Calls Try.prog F #[.int .i64 x, .slice a zs.length cap] W fun e w' => e = .returned (.tuple #[.slice none 0 0, .int .i64 r]) ∧ RowKit.Below W.heap.size W w')
    (h2 : ∀ W, IntsAt W a zs → Calls Try.prog G #[.int .i64 x, .slice a zs.length cap] W (NilE r W)) : Both F G x a zs.length cap w r [] :=
  ⟨by simp, fun W h => (h1 W (hA.fut h)).mono fun _ _ ⟨e, hB⟩ => ⟨none, 0, e, nil_ints _ _, hB⟩, fun W h => (h2 W (hA.fut h)).mono fun _ _ ⟨e, hw⟩ => ⟨none, 0, e, nil_ints _ _, by rw [hw]; exact Fut.rfl⟩⟩
theorem full_of_chk {x : Int} {zs : List Int} (h : chk x zs = 0) : Full5 x zs := by
  obtain ⟨h1, h5, hall, h3, h4⟩ := chk_ok h
  exact ⟨h1, h5, fun c hc => by have := List.all_eq_true.1 hall c hc; simpa [isClaimB] using this, h3, h4⟩
theorem rule_both (x : Int) (a : Option Addr) (cap : Nat) (zs : List Int) (w : World) (hl : zs.length ≤ 9223372036854775807) (hA : IntsAt w a zs) :
    ∃ L1 L2 L3, Both 17 18 x a zs.length cap w (chk x zs) L1 ∧ Both 19 20 x a zs.length cap w (chk x zs) L2 ∧ Both 21 22 x a zs.length cap w (chk x zs) L3 := by
  by_cases hc : chk x zs = 0
  · have hF := full_of_chk hc
    rw [hc]
    exact ⟨gD x zs, spG x zs, spL x zs, both_of hA hF (list5_len _ _ hF.2.1) (fun W h => du_div x zs a cap W hF h) (fun W h => rdiv_ok x zs a cap W hF h),
      both_of hA hF (list5_len _ _ hF.2.1) (fun W h => du_gain x zs a cap W hF h) (fun W h => rgain_ok x zs a cap W hF h),
      both_of hA hF (list5_len _ _ hF.2.1) (fun W h => du_loss x zs a cap W hF h) (fun W h => rloss_ok x zs a cap W hF h)⟩
  · exact ⟨[], [], [], both_err hA (fun W h => divide_err x a cap zs W hl h hc) (fun W h => rdiv_err x a cap zs W hl h hc),
      both_err hA (fun W h => gains_err x a cap zs W hl h hc) (fun W h => rgain_err x a cap zs W hl h hc),
      both_err hA (fun W h => losses_err x a cap zs W hl h hc) (fun W h => rloss_err x a cap zs W hl h hc)⟩
end Go.Proofs.Ytdnbdaegahcoeaa
