/- Layer 3: Full, Fill, Why, Proves. -/
import Derived.Test.YtpgifeaejjjjnaaBM
namespace Go.Proofs.Ytpgifeaejjjjnaa
open Go.RowKit Go.Sort
theorem cor_rows {c : Int} {zss : List (List Int)} (h : corE c zss = 0) : 1 ≤ c ∧ c ≤ 5 ∧ (zss.length : Int) ≤ c ∧ ∀ i, i < zss.length → (lth zss i).length = (lth zss 0).length ∧ ((lth zss i).length : Int) ≤ c ∧ amE c (zss.take i) (lth zss i) = 0 := by
  unfold corE at h
  by_cases hs : sizeE c zss.length = 0
  · rw [if_pos hs] at h
    obtain ⟨c1, c5, hn⟩ := size_good hs
    refine ⟨c1, c5, hn, ?_⟩
    have key : ∀ (t : List (List Int)) (k : Nat), coG c zss t k = 0 → ∀ i, i < t.length → (lth t i).length = (lth zss 0).length ∧ ((lth t i).length : Int) ≤ c ∧ amE c (zss.take (k + i)) (lth t i) = 0 := by
      intro t
      induction t with
      | nil => intro k _ i hi; exact absurd hi (by simp)
      | cons l t ih =>
        intro k h i hi
        unfold coG at h
        by_cases h1 : l.length = (lth zss 0).length ∧ (l.length : Int) ≤ c
        · rw [if_pos h1] at h
          by_cases h2 : amE c (zss.take k) l = 0
          · rw [if_pos h2] at h
            cases i with
            | zero => exact ⟨h1.1, h1.2, h2⟩
            | succ i =>
              have := ih (k + 1) h i (by simp at hi; omega)
              rw [show k + 1 + i = k + (i + 1) by omega] at this
              exact this
          · rw [if_neg h2] at h; exact absurd h h2
        · rw [if_neg h1] at h; exact absurd h (by decide)
    intro i hi
    have := key zss 0 h i hi
    rwa [Nat.zero_add] at this
  · rw [if_neg hs] at h; exact absurd h hs
theorem OwnG.tup {w w' : World} {v : Value} {n : Nat} {f : Nat → Nat → Int} {B : Nat} (h : OwnG w' B v n n f) (hn : n ≤ 1000) (F : Fut w w') (r : Int) : TupLC r (gridL n n f) w (.returned (.tuple #[v, .int .i64 r])) w' := by
  obtain ⟨g, bl, rfl, hG⟩ := h
  have el := gridL_len n n f
  exact ⟨some ⟨g, 0, none⟩, n, by rw [el], by omega, by omega, hG.lists (by omega), F⟩
def fullE (c : Int) (zss : List (List Int)) : List (List Int) := if chkE c zss = 0 then gridL c.toNat c.toNat (fullF c.toNat zss) else []
set_option maxRecDepth 100000 in
theorem full_any (c : Int) (a : Option Addr) (cap : Nat) (zss : List (List Int)) (w : World) (hL : LstC w a zss) (hcap : zss.length ≤ cap) (hcm : cap ≤ 9223372036854775807) :
    Calls Try.prog 30 #[.int .i64 c, .slice a zss.length cap] w (TupLC (chkE c zss) (fullE c zss) w) := by
  have HC := Lib.hid (check_any c a cap zss w hL hcap hcm)
  unfold fullE
  by_cases hs : chkE c zss = 0
  · rw [if_pos hs]
    rw [hs] at HC ⊢
    obtain ⟨c1, c5, hn, hrow⟩ := chk_rows hs
    obtain ⟨n, rfl⟩ := Int.eq_ofNat_of_zero_le (show 0 ≤ c by omega)
    rw [show ((n : Int)).toNat = n by simp]
    have HCC := Lib.hid (fun W (F : Fut w W) => completed_any n (.iface 79 (.slice a zss.length cap)) none (fullF n zss) W (search_rows n (by omega) (by omega) a cap zss W (hL.lst.fut F) (by omega) (fun k hk => by have := (hrow k hk).1; omega)))
    have hn5 : n ≤ 1000 := by omega
    clear hL hs hrow hcap hcm
    generalize fullF n zss = ff at *
    go_enter Try.func30, Try.ntmps30
    go_wp2_with fail
    refine HC.out.mono ?_
    rintro _ w1 ⟨rfl, F1⟩
    have HF1 := Lib.hid F1
    have H2 := Lib.hid (HCC.out w1 F1)
    clear F1
    go_wp2_with fail
    refine H2.out.mono ?_
    rintro _ w2 ⟨v, rfl, hO, F2⟩
    have HO := Lib.hid (hO.tup hn5 (HF1.out.trans F2) 0)
    clear hO F2
    go_wp2
    go_ret2
    exact HO.out
  · rw [if_neg hs]
    clear hL
    generalize chkE c zss = E at *
    go_enter Try.func30, Try.ntmps30
    go_wp2_with fail
    refine HC.out.mono ?_
    rintro _ w1 ⟨rfl, F⟩
    have HF := Lib.hid F
    clear F
    go_wp2
    go_ret2
    exact TupLC.nil E HF.out
def filE (c : Int) (zss : List (List Int)) : Int := if corE c zss = 0 then (if (barF c.toNat zss).isSome = true then 12 else 0) else corE c zss
def filL (c : Int) (zss : List (List Int)) : List (List Int) := if corE c zss = 0 then (if (barF c.toNat zss).isSome = true then [] else gridL c.toNat c.toNat (fullF c.toNat zss)) else []
set_option maxRecDepth 100000 in
theorem fillC_any (c : Int) (a : Option Addr) (cap : Nat) (zss : List (List Int)) (w : World) (hL : LstC w a zss) (hcap : zss.length ≤ cap) (hcm : cap ≤ 9223372036854775807) :
    Calls Try.prog 40 #[.int .i64 c, .slice a zss.length cap] w (TupLC (filE c zss) (filL c zss) w) := by
  have HC := Lib.hid (corner_any c a cap zss w hL hcap hcm)
  unfold filE filL
  by_cases hs : corE c zss = 0
  · rw [if_pos hs, if_pos hs]
    rw [hs] at HC
    obtain ⟨c1, c5, hn, hrow⟩ := cor_rows hs
    obtain ⟨n, rfl⟩ := Int.eq_ofNat_of_zero_le (show 0 ≤ c by omega)
    rw [show ((n : Int)).toNat = n by simp]
    have HCC := Lib.hid (fun W (F : Fut w W) => completed_any n (.iface 83 (begV n a zss.length cap)) (barF n zss) (fullF n zss) W (search_beg n (by omega) (by omega) a cap zss W (hL.lst.fut F) (by omega) (fun k hk => by have := (hrow k hk).2.1; omega)))
    have hn5 : n ≤ 1000 := by omega
    clear hL hs hrow hcap hcm
    generalize fullF n zss = ff at *
    generalize barF n zss = bar at *
    cases bar with
    | some s =>
      simp only [Option.isSome_some, if_true]
      go_enter Try.func40, Try.ntmps40
      go_wp2_with fail
      refine HC.out.mono ?_
      rintro _ w1 ⟨rfl, F1⟩
      have HF1 := Lib.hid F1
      have H2 := Lib.hid (HCC.out w1 F1)
      clear F1
      go_wp2_with fail
      refine H2.out.mono ?_
      rintro _ w2 ⟨rfl, F2⟩
      have HF2 := Lib.hid (HF1.out.trans F2)
      clear F2
      go_wp2
      go_ret2
      exact TupLC.nil 12 HF2.out
    | none =>
      simp only [Option.isSome_none, Bool.false_eq_true, if_false]
      go_enter Try.func40, Try.ntmps40
      go_wp2_with fail
      refine HC.out.mono ?_
      rintro _ w1 ⟨rfl, F1⟩
      have HF1 := Lib.hid F1
      have H2 := Lib.hid (HCC.out w1 F1)
      clear F1
      go_wp2_with fail
      refine H2.out.mono ?_
      rintro _ w2 ⟨v, rfl, hO, F2⟩
      have HO := Lib.hid (hO.tup hn5 (HF1.out.trans F2) 0)
      clear hO F2
      go_wp2
      go_ret2
      exact HO.out
  · rw [if_neg hs, if_neg hs]
    clear hL
    generalize corE c zss = E at *
    go_enter Try.func40, Try.ntmps40
    go_wp2_with fail
    refine HC.out.mono ?_
    rintro _ w1 ⟨rfl, F⟩
    have HF := Lib.hid F
    clear F
    go_wp2
    go_ret2
    exact TupLC.nil E HF.out
/-- what Why answers: the street, and the error. -/
def whyS (c : Int) (zss : List (List Int)) : Int := if corE c zss = 0 then (((barF c.toNat zss).getD 0 : Nat) : Int) else 0
def whyE (c : Int) (zss : List (List Int)) : Int := if corE c zss = 0 then (if (barF c.toNat zss).isSome = true then 0 else 13) else corE c zss
set_option maxRecDepth 100000 in
theorem why_any (c : Int) (a : Option Addr) (cap : Nat) (zss : List (List Int)) (w : World) (hL : LstC w a zss) (hcap : zss.length ≤ cap) (hcm : cap ≤ 9223372036854775807) :
    Calls Try.prog 38 #[.int .i64 c, .slice a zss.length cap] w fun e w' => e = .returned (.tuple #[.int .i64 (whyS c zss), .int .i64 (whyE c zss)]) ∧ Fut w w' := by
  have HC := Lib.hid (corner_any c a cap zss w hL hcap hcm)
  have hq1 := as_miss84
  have hq2 := as_hit84
  unfold whyS whyE
  by_cases hs : corE c zss = 0
  · rw [if_pos hs, if_pos hs]
    rw [hs] at HC
    obtain ⟨c1, c5, hn, hrow⟩ := cor_rows hs
    obtain ⟨n, rfl⟩ := Int.eq_ofNat_of_zero_le (show 0 ≤ c by omega)
    rw [show ((n : Int)).toNat = n by simp]
    have HCC := Lib.hid (fun W (F : Fut w W) => search_beg n (by omega) (by omega) a cap zss W (hL.lst.fut F) (by omega) (fun k hk => by have := (hrow k hk).2.1; omega))
    clear hL hs hrow hcap hcm
    generalize fullF n zss = ff at *
    generalize barF n zss = bar at *
    cases bar with
    | some s =>
      simp only [Option.isSome_some, if_true, Option.getD_some]
      go_enter Try.func38, Try.ntmps38
      go_wp2_with fail
      refine HC.out.mono ?_
      rintro _ w1 ⟨rfl, F1⟩
      have HF1 := Lib.hid F1
      have H2 := Lib.hid (HCC.out w1 F1)
      clear F1
      go_wp2_with fail
      refine H2.out.mono ?_
      rintro _ w2 ⟨rfl, F2⟩
      have HF2 := Lib.hid (HF1.out.trans F2)
      clear F2
      go_wp2
      go_ret2
      exact ⟨rfl, HF2.out⟩
    | none =>
      simp only [Option.isSome_none, Bool.false_eq_true, if_false, Option.getD_none]
      go_enter Try.func38, Try.ntmps38
      go_wp2_with fail
      refine HC.out.mono ?_
      rintro _ w1 ⟨rfl, F1⟩
      have HF1 := Lib.hid F1
      have H2 := Lib.hid (HCC.out w1 F1)
      clear F1
      go_wp2_with fail
      refine H2.out.mono ?_
      rintro _ w2 ⟨v, rfl, hO, F2⟩
      have HF2 := Lib.hid (HF1.out.trans F2)
      clear hO F2
      go_wp2
      go_ret2
      exact ⟨rfl, HF2.out⟩
  · rw [if_neg hs, if_neg hs]
    clear hL
    generalize corE c zss = E at *
    go_enter Try.func38, Try.ntmps38
    go_wp2_with fail
    refine HC.out.mono ?_
    rintro _ w1 ⟨rfl, F⟩
    have HF := Lib.hid F
    clear F
    go_wp2
    go_ret2
    exact ⟨rfl, HF.out⟩
def prvE (c : Int) (zss : List (List Int)) (s : Int) : Int := if corE c zss = 0 then (if inB c s = true then (if barsE c zss s = true then 0 else 14) else 2) else corE c zss
set_option maxRecDepth 100000 in
theorem proves_any (c : Int) (a : Option Addr) (cap : Nat) (zss : List (List Int)) (s : Int) (w : World) (hL : LstC w a zss) (hcap : zss.length ≤ cap) (hcm : cap ≤ 9223372036854775807) :
    Calls Try.prog 44 #[.int .i64 c, .slice a zss.length cap, .int .i64 s] w fun e w' => e = .returned (.int .i64 (prvE c zss s)) ∧ Fut w w' := by
  have HC := Lib.hid (corner_any c a cap zss w hL hcap hcm)
  unfold prvE
  by_cases hs : corE c zss = 0
  · rw [if_pos hs]
    rw [hs] at HC
    obtain ⟨c1, c5, hn, hrow⟩ := cor_rows hs
    have HB := Lib.hid (fun W (F : Fut w W) => bars_any c a cap zss s W (hL.lst.fut F) (by omega) (fun k hk => by have := (hrow k hk).2.1; omega) c1 c5)
    have HI := Lib.hid (fun W => isIndex_any s c W)
    clear hL hs hrow hcap hcm
    generalize barsE c zss s = bb at *
    generalize inB c s = ib at *
    generalize hE : (if ib = true then (if bb = true then (0 : Int) else 14) else 2) = E at *
    have HE := Lib.hid hE
    clear hE
    go_enter Try.func44, Try.ntmps44
    go_wp2_with fail
    refine HC.out.mono ?_
    rintro _ w1 ⟨rfl, F1⟩
    have HF1 := Lib.hid F1
    clear F1
    go_wp2_with fail
    refine (HI.out w1).mono ?_
    rintro _ _ ⟨rfl, rfl⟩
    cases ib
    · go_wp2
      go_ret
      exact ⟨ret_int (by rw [← HE.out]; rfl), HF1.out⟩
    · go_wp2_with fail
      refine (HB.out _ (HF1.out.trans (Fut.alloc _ _))).mono ?_
      rintro _ w3 ⟨rfl, F3⟩
      have HF3 := Lib.hid ((HF1.out.trans (Fut.alloc _ _)).trans F3)
      clear F3
      cases bb
      · go_wp2
        go_ret
        exact ⟨ret_int (by rw [← HE.out]; rfl), HF3.out⟩
      · go_wp2
        go_ret
        exact ⟨ret_int (by rw [← HE.out]; rfl), HF3.out⟩
  · rw [if_neg hs]
    clear hL
    generalize corE c zss = E at *
    go_enter Try.func44, Try.ntmps44
    go_wp2_with fail
    refine HC.out.mono ?_
    rintro _ w1 ⟨rfl, F⟩
    have HF := Lib.hid F
    clear F
    go_wp2
    go_ret
    exact ⟨rfl, HF.out⟩
end Go.Proofs.Ytpgifeaejjjjnaa
