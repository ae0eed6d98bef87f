/- Layer 2: lists as sets, and odd sets. -/
import Derived.Test.YtimddkofcejijaaRJ
namespace Go.Proofs.Ytimddkofcejijaa
open Go.RowKit Go.Sort
/-- the error of a list of numbers below n, in ascending order. -/
def ascE (n : Int) : List Int → Int → Int
  | [], _ => 0
  | z :: l, p => if inB n z then (if z ≤ p then 7 else ascE n l z) else 2
def setL : List Int → Nat → Nat
  | [], s => s
  | z :: l, s => setL l (s ||| 2 ^ z.toNat)
def setM (l : List Int) : Nat := setL l 0
/-- one set without another one. -/
def dif (s t : Nat) : Nat := s ^^^ (s &&& t)
theorem dif_bit (s t i : Nat) : (dif s t).testBit i = (s.testBit i && !t.testBit i) := by
  unfold dif; rw [Nat.testBit_xor, Nat.testBit_and]; cases s.testBit i <;> cases t.testBit i <;> rfl
theorem dif_le (s t : Nat) : dif s t ≤ s := Nat.le_of_testBit fun i h => by rw [dif_bit] at h; simp at h; exact h.1
theorem dif_lt {s t : Nat} (h : ∃ i, s.testBit i = true ∧ t.testBit i = true) : dif s t < s := by
  refine Nat.lt_of_le_of_ne (dif_le s t) fun e => ?_
  obtain ⟨i, h1, h2⟩ := h
  have := dif_bit s t i
  rw [e, h1, h2] at this
  simp at this
theorem dif_eq64 (s t : Nat) (hs : s < 65536) (ht : t < 65536) : s &&& (18446744073709551615 - t) = dif s t := by
  have hb : ∀ i, (18446744073709551615 - t).testBit i = (decide (i < 64) && !t.testBit i) := fun i => by
    have := Nat.testBit_two_pow_sub_succ (x := t) (n := 64) (by omega) i
    rw [← this]; congr 1; have : (2 : Nat) ^ 64 = 18446744073709551616 := by decide
    omega
  have hs64 : ∀ i, 64 ≤ i → s.testBit i = false := fun i hi => Nat.testBit_lt_two_pow (Nat.lt_of_lt_of_le (by omega : s < 2 ^ 16) (Nat.pow_le_pow_right (by decide) (by omega)))
  refine Nat.eq_of_testBit_eq fun i => ?_
  rw [Nat.testBit_and, hb, dif_bit]
  by_cases hi : i < 64
  · simp [hi]
  · rw [hs64 i (by omega)]; rfl
/-- whether a set has an odd number of numbers. -/
def par (x : Nat) : Bool := (List.range 16).foldl (fun b i => xor b (x.testBit i)) false
def cutL (side : Nat) : Nat → List (Int × Int) → Nat → Nat
  | _, [], c => c
  | i, p :: l, c => cutL side (i + 1) l (if par (endsM p &&& side) then c ||| 2 ^ i else c)
def cutM (ss : List (Int × Int)) (side : Nat) : Nat := cutL side 0 ss 0
def listN (s : Nat) : List Nat := (List.range 16).filter fun i => s.testBit i
def thr (ss : List (Int × Int)) (at_ l a i : Nat) : Nat × Nat × Nat :=
  (((str ss i).1 + (str ss i).2 - at_).toNat, if a.testBit i then l else dif l (2 ^ i), if a.testBit i then dif a (2 ^ i) else a)
def goesB (ss : List (Int × Int)) (c at_ l : Nat) : Bool := (listN l).all fun i => decide (endsM (str ss i) &&& reachM ss l c (2 ^ at_) = endsM (str ss i))
def okB (ss : List (Int × Int)) (c at_ l a i : Nat) : Bool := (endsM (str ss i)).testBit at_ && goesB ss c (thr ss at_ l a i).1 (thr ss at_ l a i).2.1
def nextO (ss : List (Int × Int)) (c at_ l a : Nat) : Option Nat := (listN l).find? (okB ss c at_ l a)
def roundF (ss : List (Int × Int)) (c : Nat) : Nat → Nat → Nat → Nat → List Int
  | 0, _, _, _ => []
  | n + 1, at_, l, a => match nextO ss c at_ l a with
    | none => []
    | some i => (i : Int) :: roundF ss c n (thr ss at_ l a i).1 (thr ss at_ l a i).2.1 (thr ss at_ l a i).2.2
def roundM (ss : List (Int × Int)) (c a : Nat) : List Int := roundF ss c (2 ^ ss.length - 1 + a + 1) 0 (2 ^ ss.length - 1) a
def fewK (ss : List (Int × Int)) (k : Nat) : List Int := (List.range k).foldl (fun b s => if enoughB ss s && fewerB (listM s) b then listM s else b) (listM (2 ^ ss.length - 1))
def fewM (ss : List (Int × Int)) : List Int := fewK ss (2 ^ ss.length - 1)
def cntM (ss : List (Int × Int)) (k : Nat) : Nat := (List.range k).countP fun s => enoughB ss s
def goE (ss : List (Int × Int)) : List Int → Int → Int × Int
  | [], x => (0, x)
  | z :: l, x => if inB ss.length z then (if (endsM (str ss z.toNat)).testBit x.toNat then goE ss l ((str ss z.toNat).1 + (str ss z.toNat).2 - x) else (12, 0)) else (2, 0)
def oftL (n : Nat) (zs : List Int) : List Int := (List.range n).map fun (i : Nat) => ((zs.count (i : Int) : Nat) : Int)
def mostF (C : List Nat) : Nat → Nat → Nat
  | 0, _ => 0
  | n + 1, f => C.foldl (fun m c => if c &&& f = c then max m (1 + mostF C n (dif f c)) else m) 0
def ascS (n : Int) (zs : List Int) : Nat := if ascE n zs (-1) = 0 then setM zs else 0
/-- the number before number k. -/
def prv (zs : List Int) (k : Nat) : Int := match k with
  | 0 => -1
  | j + 1 => nth zs j
theorem rett2 {s t : Nat} {a b : Int} (h : s = t) (h' : a = b) : Ending.returned (.tuple #[sv s, .int .i64 a]) = .returned (.tuple #[sv t, .int .i64 b]) := by rw [h, h']
set_option maxRecDepth 100000 in
set_option maxHeartbeats 2000000 in
theorem asc_any (n : Nat) (a : Option Addr) (cap : Nat) (zs : List Int) (w : World) (hA : IntsAt w a zs) (hl : zs.length ≤ 1000) (hn : n ≤ 15) :
    Calls Try.prog 97 #[.slice a zs.length cap, .int .i64 n] w fun e w' => e = .returned (.tuple #[sv (ascS n zs), .int .i64 (ascE n zs (-1))]) ∧ w = w' := by
  have HA := Lib.hid hA
  have hlx : (zs.length : Int) ≤ 1000 := by omega
  have hnx : (n : Int) ≤ 15 := by omega
  have HS0 : Hid (ascS n zs = if ascE n zs (-1) = 0 then setM zs else 0) := Lib.hid rfl
  clear hA
  generalize ascS n zs = S at *
  generalize hE : ascE n zs (-1) = E at *
  generalize hM : setM zs = M at *
  have HE := Lib.hid hE
  have HM := Lib.hid hM
  clear hE hM
  go_enter Try.func97, Try.ntmps97
  go_wp2_with fail
  go_loop [6, 11] (fun s iv => ∃ k o : Nat, k ≤ zs.length ∧ iv = .int .i64 k ∧ s = sv o ∧ o < 65536 ∧ Hid (setL (zs.drop k) o = M) ∧ Hid (ascE n (zs.drop k) (prv zs k) = E)) (fun _ iv => zs.length - (intOf iv).toNat)
  case atStart => exact ⟨0, 0, Nat.zero_le _, rfl, rfl, by decide, HM, HE⟩
  case round =>
    obtain ⟨k, o, hk, rfl, rfl, ho, HO, HP⟩ := hrel
    by_cases hlt : k < zs.length
    · have hkx : (k : Int) < zs.length := by omega
      obtain ⟨b, off, ea, hb, c1⟩ := HA.out k hlt
      have HA2 := Lib.hid (HA.out (k - 1) (by omega))
      subst ea
      have hd := nth_drop zs k hlt
      rw [hd] at HO HP
      clear hd HA
      have HI := Lib.hid (fun W => isIndex_any (nth zs k) n W)
      unfold ascE at HP
      unfold setL at HO
      cases hz : inB n (nth zs k)
      · rw [hz] at HI HP
        simp only [Bool.false_eq_true, if_false] at HP
        have hE2 : E = 2 := HP.out.symm
        subst hE2
        clear hz
        go_wp2_with (go_at_call 58; refine (HI.out _).mono ?_; rintro _ _ ⟨rfl, rfl⟩)
        go_ret2
        exact ⟨rett2 (by rw [HS0.out]; rfl) rfl, rfl⟩
      · have hzz : 0 ≤ nth zs k ∧ nth zs k < n := by simpa [inB] using hz
        rw [hz] at HI HP
        simp only [if_true] at HP
        obtain ⟨z, hzn⟩ := Int.eq_ofNat_of_zero_le hzz.1
        have hz15 : z ≤ 15 := by omega
        have H1 := Lib.hid (fun W => one_any z W (by omega))
        have hpz := pow_lt z hz15
        have hor := or_lt ho hpz
        rw [hzn, Int.toNat_natCast] at HO
        have e2 : bits BinOp.or IntKind.u64 (o : Int) ((2 ^ z : Nat) : Int) = ((o ||| 2 ^ z : Nat) : Int) := u64_or_nat _ _ (by omega) (by omega)
        generalize 2 ^ z = Z at *
        clear hz hzz
        by_cases hk0 : 0 < k
        · obtain ⟨j, rfl⟩ : ∃ j, k = j + 1 := ⟨k - 1, by omega⟩
          obtain ⟨b', off', ea, _, c2⟩ := HA2.out
          obtain ⟨rfl, rfl⟩ : b = b' ∧ off = off' := by simpa using ea
          rw [Nat.add_sub_cancel] at c2
          have hp2 : Hid (prv zs (j + 1) = nth zs j) := Lib.hid rfl
          rw [hp2.out] at HP
          rw [hzn] at c1 HI
          have hj0 : (0 : Int) < (j : Int) + 1 := by omega
          have hjx : (j : Int) < zs.length := by omega
          clear hp2 HA2 ea
          by_cases hle : (z : Int) ≤ nth zs j
          · rw [if_pos (by omega)] at HP
            clear hzn
            have hE2 : E = 7 := HP.out.symm
            subst hE2
            go_wp2_with (go_at_call 58; refine (HI.out _).mono ?_; rintro _ _ ⟨rfl, rfl⟩)
            go_ret2
            exact ⟨rett2 (by rw [HS0.out]; rfl) rfl, rfl⟩
          · rw [if_neg (by omega)] at HP
            clear hzn
            go_wp2_with (first | (go_at_call 58; refine (HI.out _).mono ?_; rintro _ _ ⟨rfl, rfl⟩) | (go_at_call 96; refine (H1.out _).mono ?_; rintro _ _ ⟨rfl, rfl⟩))
            go_round
            case rel => exact ⟨j + 1 + 1, o ||| Z, by omega, by go_num, rfl, hor, HO, HP⟩
            case measure => simp [intOf]; omega
        · obtain rfl : k = 0 := by omega
          have hp2 : Hid (prv zs 0 = -1) := Lib.hid rfl
          rw [hp2.out, if_neg (by omega)] at HP
          rw [hzn] at c1 HI
          clear hp2 HA2 hzn
          rw [Nat.add_zero] at c1
          go_wp2_with (first | (go_at_call 58; refine (HI.out _).mono ?_; rintro _ _ ⟨rfl, rfl⟩) | (go_at_call 96; refine (H1.out _).mono ?_; rintro _ _ ⟨rfl, rfl⟩))
          go_round
          case rel => exact ⟨0 + 1, o ||| Z, by omega, by go_num, rfl, hor, HO, HP⟩
          case measure => simp [intOf]; omega
    · obtain rfl : k = zs.length := by omega
      rw [List.drop_of_length_le (Nat.le_refl _)] at HO HP
      have hE0 : E = 0 := HP.out.symm
      have hM0 : o = M := HO.out
      subst hE0 hM0
      go_wp2
      go_ret2
      exact ⟨rett2 (by rw [HS0.out]; rfl) rfl, rfl⟩
def popI (x : Nat) : Int := (((List.range 16).countP fun i => x.testBit i : Nat) : Int)
set_option maxRecDepth 100000 in
set_option maxHeartbeats 2000000 in
theorem ones64_any (x : Nat) (w : World) (hx : x < 64) : Calls Try.prog 118 #[.int .u64 x] w fun e w' => e = .returned (.int .i64 (popI x)) ∧ w = w' := by
  go_enter Try.func118, Try.ntmps118
  go_wp2
  go_ret
  refine ⟨ret_int ?_, rfl⟩
  obtain ⟨y, rfl⟩ : ∃ y : Fin 64, y.val = x := ⟨⟨x, hx⟩, rfl⟩
  clear hx
  revert y
  decide +kernel
theorem ones_any (x : Nat) (w : World) (hx : x < 64) : Calls Try.prog 106 #[.int .u64 x] w fun e w' => e = .returned (.int .i64 (popI x)) ∧ w = w' := by
  have H := Lib.hid (ones64_any x w hx)
  go_enter Try.func106, Try.ntmps106
  go_wp2_with fail
  refine H.out.mono ?_
  rintro _ _ ⟨rfl, rfl⟩
  go_wp2
  go_ret
  exact ⟨rfl, rfl⟩
theorem isOdd_any (x : Nat) (w : World) (hx : x < 64) : Calls Try.prog 85 #[.int .u64 x] w fun e w' => e = .returned (.bool (par x)) ∧ w = w' := by
  have H := Lib.hid (ones_any x w hx)
  have H2 : Hid ((popI x % 2 == 1) = par x) := Lib.hid (by
    obtain ⟨y, rfl⟩ : ∃ y : Fin 64, y.val = x := ⟨⟨x, hx⟩, rfl⟩
    clear hx H
    revert y
    decide +kernel)
  have hp : 0 ≤ popI x ∧ popI x ≤ 16 := by
    unfold popI
    have := List.countP_le_length (p := fun i => x.testBit i) (l := List.range 16)
    rw [List.length_range] at this
    omega
  obtain ⟨h0, h16⟩ := hp
  generalize popI x = q at *
  go_enter Try.func85, Try.ntmps85
  go_wp2_with fail
  refine H.out.mono ?_
  rintro _ _ ⟨rfl, rfl⟩
  go_wp2
  go_ret
  refine ⟨retb ?_, rfl⟩
  rw [← H2.out]
end Go.Proofs.Ytimddkofcejijaa
