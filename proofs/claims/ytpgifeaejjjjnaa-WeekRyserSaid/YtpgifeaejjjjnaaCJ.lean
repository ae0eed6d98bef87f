/- Next. -/
import Derived.Test.YtpgifeaejjjjnaaMC
namespace Go.Proofs.Ytpgifeaejjjjnaa
open Go.RowKit Go.Sort
attribute [local go_sem] Oper.semAt_some
open Go.Shelf
/-- what a function answers that returns numbers and an error. -/
abbrev TupI (r : Int) (zs : List Int) (w : World) (e : Ending) (w' : World) : Prop := ∃ l lc, e = .returned (.tuple #[.slice l zs.length lc, .int .i64 r]) ∧ zs.length ≤ lc ∧ lc ≤ 9223372036854775807 ∧ IntsAt w' l zs ∧ Fut w w'
theorem TupI.nil (r : Int) {w w' : World} (F : Fut w w') : TupI r [] w (.returned (.tuple #[.slice none 0 0, .int .i64 r])) w' := ⟨none, 0, rfl, Nat.le_refl _, by omega, nil_ints _ _, F⟩
theorem two_alloc (w : World) (n : Int) (u : Value) : RowKit.Below w.heap.size w ((w.alloc (.cells #[.int .i64 n] 3)).alloc (.cells #[u] 22)) ∧ ((w.alloc (.cells #[.int .i64 n] 3)).alloc (.cells #[u] 22)).heap.size = w.heap.size + 2 ∧
    ((w.alloc (.cells #[.int .i64 n] 3)).alloc (.cells #[u] 22)).cell? ⟨w.heap.size, 0, none⟩ = some (.int .i64 n) ∧ ((w.alloc (.cells #[.int .i64 n] 3)).alloc (.cells #[u] 22)).cell? ⟨w.heap.size + 1, 0, none⟩ = some u := by
  refine ⟨((RowKit.Below.refl _ w).alloc (Nat.le_refl _) _).alloc (by simp) _, by simp, alloc_old _ _ (alloc_cell w _ _), ?_⟩
  have h := alloc_cell (w.alloc (.cells #[.int .i64 n] 3)) u 22
  rwa [World.size_alloc] at h
theorem first_fit (n : Nat) (hn : n ≤ 5) (a : Option Addr) (cap : Nat) (zss : List (List Int)) (w w1 : World) (hL : LstAt w a zss) (hl : zss.length ≤ 5) (hd : ∀ k, k < zss.length → n ≤ (lth zss k).length)
    (hw1 : w1 = (w.alloc (.cells #[.int .i64 (n : Int)] 3)).alloc (.cells #[.slice a zss.length cap] 22)) :
    (Calls Try.prog 72 #[.func (.func 112) #[] #[.pointer (some ⟨w.heap.size, 0, none⟩), .pointer (some ⟨w.heap.size + 1, 0, none⟩)]] w1 fun e w' => ∃ v, e = .returned v ∧ Rd (lth (fitL n zss) 0) v w' ∧ Fut w w') ∧
    (Calls Try.prog 79 #[.func (.func 112) #[] #[.pointer (some ⟨w.heap.size, 0, none⟩), .pointer (some ⟨w.heap.size + 1, 0, none⟩)]] w1 fun e w' => e = .returned (.int .i64 (fitL n zss).length) ∧ Fut w w') := by
  obtain ⟨hb, hsz, hc1, hc2⟩ := two_alloc w n (.slice a zss.length cap)
  rw [← hw1] at hb hsz hc1 hc2
  clear hw1
  have hseq := fitting_seq n hn w.heap.size (w.heap.size + 1) a cap zss w1 (by omega) (by omega) hc1 hc2 (hL.fut hb) hl hd (fun r hr => ord_len hr)
  have hF : Fut w w1 := hb
  exact ⟨(first_any hseq (enters_of Try.func112 (by kernel_rfl) rfl) w1 (Nat.le_refl _) (fun _ h => h)).mono fun _ _ ⟨v, e, h, F⟩ => ⟨v, e, h, hF.trans F⟩,
    (count_any hseq (enters_of Try.func112 (by kernel_rfl) rfl) w1 (Nat.le_refl _) (fun _ h => h) (Nat.le_trans (sub_len _) (Nat.le_trans (ord_le hn) (by omega)))).mono fun _ _ ⟨e, F⟩ => ⟨e, hF.trans F⟩⟩
theorem first_crs (n : Nat) (hn : n ≤ 5) (a : Option Addr) (cap : Nat) (zss : List (List Int)) (w w1 : World) (hL : LstAt w a zss) (hl : zss.length = n) (hd : ∀ k, k < zss.length → (lth zss k).length = n ∧ ∀ j, j < n → 0 ≤ nth (lth zss k) j ∧ nth (lth zss k) j < n)
    (hw1 : w1 = (w.alloc (.cells #[.int .i64 (n : Int)] 3)).alloc (.cells #[.slice a zss.length cap] 22)) :
    (Calls Try.prog 72 #[.func (.func 117) #[] #[.pointer (some ⟨w.heap.size, 0, none⟩), .pointer (some ⟨w.heap.size + 1, 0, none⟩)]] w1 fun e w' => ∃ v, e = .returned v ∧ Rd (lth (crsL n zss) 0) v w' ∧ Fut w w') ∧
    (Calls Try.prog 79 #[.func (.func 117) #[] #[.pointer (some ⟨w.heap.size, 0, none⟩), .pointer (some ⟨w.heap.size + 1, 0, none⟩)]] w1 fun e w' => e = .returned (.int .i64 (crsL n zss).length) ∧ Fut w w') := by
  obtain ⟨hb, hsz, hc1, hc2⟩ := two_alloc w n (.slice a zss.length cap)
  rw [← hw1] at hb hsz hc1 hc2
  clear hw1
  have hseq := crossings_seq n hn w.heap.size (w.heap.size + 1) a cap zss w1 (by omega) (by omega) hc1 hc2 (hL.fut hb) (by omega) (by omega) (fun r hr => ord_len hr) (fun r hr k hk => by
    rw [ord_len hr] at hk
    obtain ⟨h1, h2⟩ := ord_in hr hk
    obtain ⟨h3, h4⟩ := hd k (by omega)
    obtain ⟨h5, h6⟩ := h4 (nth r k).toNat (by omega)
    refine ⟨h1, by omega, by omega, h5, ?_⟩
    unfold stF
    omega)
  have hF : Fut w w1 := hb
  exact ⟨(first_any hseq (enters_of Try.func117 (by kernel_rfl) rfl) w1 (Nat.le_refl _) (fun _ h => h)).mono fun _ _ ⟨v, e, h, F⟩ => ⟨v, e, h, hF.trans F⟩,
    (count_any hseq (enters_of Try.func117 (by kernel_rfl) rfl) w1 (Nat.le_refl _) (fun _ h => h) (Nat.le_trans (sub_len _) (Nat.le_trans (ord_le hn) (by omega)))).mono fun _ _ ⟨e, F⟩ => ⟨e, hF.trans F⟩⟩
theorem opn_rows {c : Int} {zss : List (List Int)} (h : opnE c zss = 0) : 1 ≤ c ∧ c ≤ 5 ∧ (zss.length : Int) < c ∧ ∀ i, i < zss.length → ((lth zss i).length : Int) = c ∧ amE c (zss.take i) (lth zss i) = 0 := by
  unfold opnE at h
  by_cases hc : chkE c zss = 0
  · rw [if_pos hc] at h
    obtain ⟨h1, h2, h3, h4⟩ := chk_rows hc
    split at h
    · omega
    · exact ⟨h1, h2, by omega, h4⟩
  · rw [if_neg hc] at h; exact absurd h hc
theorem ful_rows {c : Int} {zss : List (List Int)} (h : fulE c zss = 0) : 1 ≤ c ∧ c ≤ 5 ∧ (zss.length : Int) = c ∧ ∀ i, i < zss.length → ((lth zss i).length : Int) = c ∧ amE c (zss.take i) (lth zss i) = 0 := by
  unfold fulE at h
  by_cases hc : chkE c zss = 0
  · rw [if_pos hc] at h
    obtain ⟨h1, h2, h3, h4⟩ := chk_rows hc
    split at h
    · omega
    · exact ⟨h1, h2, by omega, h4⟩
  · rw [if_neg hc] at h; exact absurd h hc
def nxtL (c : Int) (zss : List (List Int)) : List Int := if opnE c zss = 0 then lth (fitL c.toNat zss) 0 else []
def cntN (c : Int) (zss : List (List Int)) : Int := if opnE c zss = 0 then (fitL c.toNat zss).length else 0
set_option maxRecDepth 100000 in
theorem next_any (c : Int) (a : Option Addr) (cap : Nat) (zss : List (List Int)) (w : World) (hL : LstC w a zss) (hcap : zss.length ≤ cap) (hcm : cap ≤ 9223372036854775807) :
    Calls Try.prog 20 #[.int .i64 c, .slice a zss.length cap] w (TupI (opnE c zss) (nxtL c zss) w) := by
  have HC := Lib.hid (open_any c a cap zss w hL hcap hcm)
  unfold nxtL
  by_cases hs : opnE c zss = 0
  · rw [if_pos hs]
    rw [hs] at HC ⊢
    obtain ⟨c1, c5, hn, hrow⟩ := opn_rows hs
    obtain ⟨n, rfl⟩ := Int.eq_ofNat_of_zero_le (show 0 ≤ c by omega)
    rw [show ((n : Int)).toNat = n by simp]
    have HCC := Lib.hid (fun W W1 (F : Fut w W) h => (first_fit n (by omega) a cap zss W W1 (hL.lst.fut F) (by omega) (fun k hk => by have := (hrow k hk).1; omega) h).1)
    clear hL hs hrow hcap hcm
    generalize lth (fitL n zss) 0 = row at *
    go_enter Try.func20, Try.ntmps20
    go_wp2_with fail
    refine HC.out.mono ?_
    rintro _ w1 ⟨rfl, F1⟩
    have HF1 := Lib.hid F1
    have H2 := Lib.hid (HCC.out w1 _ F1 rfl)
    clear F1 HCC HC
    go_wp2_with fail
    refine (fitting_any _ _ _ _ _).mono ?_
    rintro _ w2 ⟨rfl, rfl⟩
    go_wp2_with fail
    refine H2.out.mono ?_
    rintro _ w2 ⟨v, rfl, ⟨l, lc, rfl, h1, h2, h3⟩, F2⟩
    have HF2 := Lib.hid (HF1.out.trans F2)
    have HI := Lib.hid h3
    have HM := Lib.hid h2
    clear F2 h2 h3
    go_wp2
    go_ret2
    exact ⟨l, lc, rfl, h1, by have := HM.out; unfold maxLen at this; omega, HI.out, HF2.out⟩
  · rw [if_neg hs]
    clear hL
    generalize opnE c zss = E at *
    go_enter Try.func20, Try.ntmps20
    go_wp2_with fail
    refine HC.out.mono ?_
    rintro _ w1 ⟨rfl, F⟩
    have HF := Lib.hid F
    clear F
    go_wp2
    go_ret2
    exact TupI.nil E HF.out
end Go.Proofs.Ytpgifeaejjjjnaa
