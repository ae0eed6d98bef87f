/- Layer 2: Proves, and whether a list has a number. -/
import Derived.Test.YtimddkofcejijaaRR
namespace Go.Proofs.Ytimddkofcejijaa
open Go.RowKit Go.Sort
theorem after_fut {w w2 : World} (h : ∃ p : After w, w2 = p.w') : Fut w w2 := by
  obtain ⟨p, rfl⟩ := h; exact p.F
def lth (zss : List (List Int)) (k : Nat) : List Int := zss[k]?.getD []
theorem lth_eq (zss : List (List Int)) (k : Nat) : lth zss k = zss[k]?.getD [] := rfl
theorem lth_drop (zss : List (List Int)) (k : Nat) (hk : k < zss.length) : zss.drop k = lth zss k :: zss.drop (k + 1) := by
  rw [lth_eq, List.getElem?_eq_getElem hk]
  exact List.drop_eq_getElem_cons hk
/-- the slice at a reads as these lists. -/
def LstAt (w : World) (a : Option Addr) (zss : List (List Int)) : Prop :=
  ∀ j, j < zss.length → ∃ b off l lc, a = some ⟨b, off, none⟩ ∧ b < w.heap.size ∧ w.cell? ⟨b, off + j, none⟩ = some (.slice l (lth zss j).length lc) ∧ IntsAt w l (lth zss j)
theorem LstAt.fut {w w' : World} {a : Option Addr} {zss : List (List Int)} (h : LstAt w a zss) (F : Fut w w') : LstAt w' a zss := fun j hj => by
  obtain ⟨b, off, l, lc, rfl, h1, h2, h3⟩ := h j hj
  exact ⟨b, off, l, lc, rfl, Nat.lt_of_lt_of_le h1 (RowKit.Below.size F), (RowKit.Below.cell F (p := ⟨b, off + j, none⟩) h1).trans h2, h3.fut F⟩
def prvL (c : Int) (ss : List (Int × Int)) (o : Nat) : List (List Int) → Nat → Int
  | [], _ => 0
  | z :: l, u => if sdE c z = 0 then (if par (setM z &&& o) then (if cutM ss (setM z) &&& u = 0 then prvL c ss o l (u ||| cutM ss (setM z)) else 6) else 14) else sdE c z
def provE (c : Int) (ss : List (Int × Int)) (zss : List (List Int)) : Int := if chkM c ss = 0 then prvL c ss (oddM ss (2 ^ ss.length - 1)) zss 0 else chkM c ss
set_option maxRecDepth 100000 in
set_option maxHeartbeats 4000000 in
theorem proves_any (c : Int) (a : Option Addr) (cap : Nat) (ss : List (Int × Int)) (d : Option Addr) (dap : Nat) (zss : List (List Int)) (w : World) (hS : StrAt w a ss) (hZ : LstAt w d zss) (hlz : zss.length ≤ 1000) (hle : ∀ k, (lth zss k).length ≤ 1000) :
    Calls Try.prog 37 #[mapV c a ss.length cap, .slice d zss.length dap] w (PostC (provE c ss zss) w) := by
  have HC := Lib.hid (fun W (F : Fut w W) => check_any' c a cap ss W (hS.fut F))
  by_cases hc : chkM c ss = 0
  · have hE : provE c ss zss = prvL c ss (oddM ss (2 ^ ss.length - 1)) zss 0 := by unfold provE; rw [if_pos hc]
    rw [hE]
    rw [hc] at HC
    obtain ⟨hc1, hc6, h9, hp, _, _⟩ := chk_good hc
    obtain ⟨cn, rfl⟩ := Int.eq_ofNat_of_zero_le (show 0 ≤ c by omega)
    have HZ := Lib.hid hZ
    have HLE := Lib.hid hle
    have hzx : (zss.length : Int) ≤ 1000 := by omega
    have HAL := Lib.hid (fun W => all_any cn a ss.length cap W (by omega))
    have HOD := Lib.hid (fun W (F : Fut w W) => odd_any cn a cap ss (2 ^ ss.length - 1) W (hS.fut F) (by omega) hp (mask_lt (by omega)))
    have hol := oddM_lt hp (2 ^ ss.length - 1)
    have HD := Lib.hid (fun l (lc : Nat) zs W (hI : IntsAt W l zs) (hl : zs.length ≤ 1000) => side_any cn a ss.length cap l lc zs W hI hl (by omega))
    have HK := Lib.hid (fun s (h : s < 64) W (F : Fut w W) => cut_any cn a cap ss s W (hS.fut F) (by omega) hp h)
    have HKL := Lib.hid (fun s => cutM_lt (ss := ss) (by omega) s)
    have H64 : Hid (∀ zs, sdE cn zs = 0 → setM zs < 64) := Lib.hid (fun zs h => setM_lt64 (by omega) (sd_good h))
    clear hS hZ hc hp hE hle
    generalize oddM ss (2 ^ ss.length - 1) = o at *
    generalize hRR : prvL cn ss o zss 0 = R at *
    have HRR := Lib.hid hRR
    clear hRR
    generalize 2 ^ ss.length - 1 = m at *
    go_enter Try.func37, Try.ntmps37
    go_wp2_with fail
    have hB := BoxM.new w cn a ss.length cap 24
    have hF : Fut w (w.alloc (.cells #[.int .i64 cn, .slice a ss.length cap] 24)) := Fut.alloc _ _
    generalize w.alloc (.cells #[.int .i64 cn, .slice a ss.length cap] 24) = W1 at *
    generalize w.heap.size = B at *
    refine (HC.out _ hF).mono ?_
    rintro _ w1 ⟨rfl, F⟩
    have HF := Lib.hid (hF.trans F)
    have HB := Lib.hid (hB.fut F)
    obtain ⟨m0, m1⟩ := HB.out.after Fut.rfl
    clear hF F hB
    go_wp2_with fail
    refine region_fut (by kernel_rfl) (by kernel_rfl) ?_
    repeat (go_big_quiet_step (first
      | (go_at_call 54; rename_i p; exact after_of (HOD.out _ (HF.out.trans p.F)))
      | (go_at_call 55; exact after_of (HAL.out _))))
    refine wpQuiet_nil ?_
    intro w2 hw'
    have F2 : Fut w1 w2 := after_fut hw'
    clear hw'
    have HF2 := Lib.hid (HF.out.trans F2)
    have HB2 := Lib.hid (HB.out.fut F2)
    clear m0 m1 F2
    go_wp2_with fail
    go_loopw [7, 24] (fun uv iv wr => ∃ (k u : Nat), k ≤ zss.length ∧ iv = .int .i64 k ∧ uv = sv u ∧ u < 65536 ∧ Hid (prvL cn ss o (zss.drop k) u = R) ∧ Hid (Fut w2 wr)) (fun _ iv _ => zss.length - (intOf iv).toNat)
    case atStart => exact ⟨0, 0, Nat.zero_le _, rfl, rfl, by decide, HRR, Lib.hid Fut.rfl⟩
    case round =>
      obtain ⟨k, u, hk, rfl, rfl, hu, HO, HR⟩ := hrel
      obtain ⟨hb, b0, b1⟩ := HB2.out.fut HR.out
      by_cases hlt : k < zss.length
      · have hkx : (k : Int) < zss.length := by omega
        obtain ⟨bb, off, l, lc, ea, hbb, d1, hI⟩ := (HZ.out.fut (HF2.out.trans HR.out)) k hlt
        subst ea
        have hd := lth_drop zss k hlt
        rw [hd] at HO
        have hzl := HLE.out k
        have HDD := Lib.hid (HD.out l lc (lth zss k) wr hI hzl)
        have H6 := Lib.hid (H64.out (lth zss k))
        have HFR := Lib.hid (HF2.out.trans HR.out)
        have HBR := Lib.hid (HB2.out.fut HR.out)
        generalize lth zss k = zs at *
        unfold prvL at HO
        clear hd hI
        by_cases hs : sdE cn zs = 0
        · rw [if_pos hs] at HO
          rw [hs] at HDD
          have h64 := H6.out hs
          have HKK := Lib.hid (HK.out (setM zs) h64)
          have hkl := HKL.out (setM zs)
          have HI := Lib.hid (fun W => isOdd_any (setM zs &&& o) W (Nat.lt_of_le_of_lt Nat.and_le_left h64))
          generalize setM zs = S at *
          generalize cutM ss S = K at *
          have e : bits BinOp.and IntKind.u64 (S : Int) (o : Int) = ((S &&& o : Nat) : Int) := u64_and_nat _ _ (by omega) (by omega)
          have e2 : bits BinOp.and IntKind.u64 (K : Int) (u : Int) = ((K &&& u : Nat) : Int) := u64_and_nat _ _ (by omega) (by omega)
          have e3 : bits BinOp.or IntKind.u64 (u : Int) (K : Int) = ((u ||| K : Nat) : Int) := u64_or_nat _ _ (by omega) (by omega)
          have hx := or_lt hu hkl
          clear hs H6
          cases hpar : par (S &&& o)
          · rw [hpar] at HI HO
            simp only [Bool.false_eq_true, if_false] at HO
            have hR : R = 14 := HO.out.symm
            subst hR
            clear hpar
            go_wp2_with fail
            refine HDD.out.mono ?_
            rintro _ w3 ⟨s, rfl, hs0, F⟩
            obtain rfl := hs0 rfl
            have HF3 := Lib.hid (HFR.out.trans F)
            clear F hs0 hb b0 b1
            go_wp2_with (go_at_call 85; refine (HI.out _).mono ?_; rintro _ _ ⟨rfl, rfl⟩)
            go_ret
            exact ⟨rfl, HF3.out⟩
          · rw [hpar] at HI HO
            simp only [if_true] at HO
            clear hpar
            by_cases hq : K &&& u = 0
            · rw [if_pos hq] at HO
              have hq' : (((K &&& u : Nat) : Int) != 0) = false := by rw [hq]; rfl
              clear hq
              go_wp2_with fail
              refine HDD.out.mono ?_
              rintro _ w3 ⟨s, rfl, hs0, F⟩
              obtain rfl := hs0 rfl
              have HF3 := Lib.hid (HFR.out.trans F)
              have HR3 := Lib.hid (HR.out.trans F)
              have HB3 := Lib.hid (HBR.out.fut F)
              clear F hs0 hb b0 b1
              obtain ⟨hb, b0, b1⟩ := HB3.out
              go_wp2_with (go_at_call 85; refine (HI.out _).mono ?_; rintro _ _ ⟨rfl, rfl⟩)
              refine (HKK.out _ HF3.out).mono ?_
              rintro _ w4 ⟨rfl, F⟩
              have HRA := Lib.hid (HR3.out.trans F)
              clear F hb b0 b1
              go_wp2
              go_roundw
              case rel => exact ⟨k + 1, u ||| K, by omega, by go_num, rfl, hx, HO, HRA⟩
              case measure => simp [intOf]; omega
            · rw [if_neg hq] at HO
              have hR : R = 6 := HO.out.symm
              subst hR
              have hq' : (((K &&& u : Nat) : Int) != 0) = true := by rw [bne_iff_ne]; omega
              clear hq
              go_wp2_with fail
              refine HDD.out.mono ?_
              rintro _ w3 ⟨s, rfl, hs0, F⟩
              obtain rfl := hs0 rfl
              have HF3 := Lib.hid (HFR.out.trans F)
              have HB3 := Lib.hid (HBR.out.fut F)
              clear F hs0 hb b0 b1
              obtain ⟨hb, b0, b1⟩ := HB3.out
              go_wp2_with (go_at_call 85; refine (HI.out _).mono ?_; rintro _ _ ⟨rfl, rfl⟩)
              refine (HKK.out _ HF3.out).mono ?_
              rintro _ w4 ⟨rfl, F⟩
              have HRA := Lib.hid (HF3.out.trans F)
              clear F hb b0 b1
              go_wp2
              go_ret
              exact ⟨rfl, HRA.out⟩
        · rw [if_neg hs] at HO
          have hne : (sdE cn zs != 0) = true := bne_iff_ne.2 hs
          generalize sdE cn zs = r at *
          have hR : R = r := HO.out.symm
          subst hR
          go_wp2_with fail
          refine HDD.out.mono ?_
          rintro _ w3 ⟨s, rfl, _, F⟩
          have HF3 := Lib.hid (HFR.out.trans F)
          clear F
          go_wp2
          go_ret
          exact ⟨rfl, HF3.out⟩
      · obtain rfl : k = zss.length := by omega
        rw [List.drop_of_length_le (Nat.le_refl _)] at HO
        have hR : R = 0 := HO.out.symm
        subst hR
        have HW := Lib.hid (HF2.out.trans HR.out)
        go_wp2
        go_ret
        exact ⟨rfl, HW.out⟩
  · have hE : provE c ss zss = chkM c ss := by unfold provE; rw [if_neg hc]
    rw [hE]
    obtain ⟨_, h2⟩ := chk_std hc
    clear hS hZ hE hle
    generalize chkM c ss = r at *
    go_enter Try.func37, Try.ntmps37
    go_wp2_with fail
    refine (HC.out _ (Fut.alloc _ _)).mono ?_
    rintro _ w1 ⟨rfl, F⟩
    go_wp2
    go_ret
    exact ⟨rfl, (Fut.alloc _ _).trans F⟩
theorem cont_any (a : Option Addr) (cap : Nat) (zs : List Int) (x : Int) (w : World) (hA : IntsAt w a zs) (hl : zs.length ≤ 1000) :
    Calls Try.prog 101 #[.slice a zs.length cap, .int .i64 x] w fun e w' => ∃ r : Int, e = .returned (.int .i64 r) ∧ decide (0 ≤ r) = zs.contains x ∧ w = w' := by
  have HA := Lib.hid hA
  have hlx : (zs.length : Int) ≤ 1000 := by omega
  clear hA
  generalize hE : zs.contains x = E at *
  have HE := Lib.hid hE
  clear hE
  go_enter Try.func101, Try.ntmps101
  go_wp2_with fail
  go_loop [8] (fun iv => ∃ k : Nat, k ≤ zs.length ∧ iv = .int .i64 k ∧ Hid ((zs.drop k).contains x = E)) (fun iv => zs.length - (intOf iv).toNat)
  case atStart => exact ⟨0, Nat.zero_le _, rfl, HE⟩
  case round =>
    obtain ⟨k, hk, rfl, HO⟩ := hrel
    by_cases hlt : k < zs.length
    · have hkx : (k : Int) < zs.length := by omega
      obtain ⟨b, off, ea, hb, c1⟩ := HA.out k hlt
      subst ea
      have hd := nth_drop zs k hlt
      rw [hd, List.contains_cons] at HO
      generalize nth zs k = z at *
      clear hd HA
      by_cases hq : x = z
      · have hb2 : (x == z) = true := by rw [hq]; simp
        rw [hb2, Bool.true_or] at HO
        have hE : E = true := HO.out.symm
        subst hE
        subst hq
        clear hb2
        go_wp2
        go_ret
        exact ⟨_, rfl, by simp, rfl⟩
      · have hb2 : (x == z) = false := by rw [beq_eq_false_iff_ne]; exact hq
        rw [hb2, Bool.false_or] at HO
        go_wp2
        go_round
        case rel => exact ⟨k + 1, by omega, by go_num, HO⟩
        case measure => simp [intOf]; omega
    · obtain rfl : k = zs.length := by omega
      rw [List.drop_of_length_le (Nat.le_refl _)] at HO
      have hE : E = false := HO.out.symm
      subst hE
      go_wp2
      go_ret
      exact ⟨_, rfl, by simp, rfl⟩
theorem contains_any (a : Option Addr) (cap : Nat) (zs : List Int) (x : Int) (w : World) (hA : IntsAt w a zs) (hl : zs.length ≤ 1000) :
    Calls Try.prog 73 #[.slice a zs.length cap, .int .i64 x] w fun e w' => e = .returned (.bool (zs.contains x)) ∧ w = w' := by
  have H := Lib.hid (cont_any a cap zs x w hA hl)
  clear hA
  generalize zs.contains x = E at *
  go_enter Try.func73, Try.ntmps73
  go_wp2_with fail
  refine H.out.mono ?_
  rintro _ _ ⟨r, rfl, hr, rfl⟩
  have HR := Lib.hid hr
  clear hr
  go_wp2
  go_ret
  exact ⟨retb HR.out, rfl⟩
end Go.Proofs.Ytimddkofcejijaa
