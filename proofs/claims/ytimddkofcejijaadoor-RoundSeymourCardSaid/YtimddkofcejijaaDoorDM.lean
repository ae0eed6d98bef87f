/- Layer 2: the law's packed. -/
import Derived.Test.YtimddkofcejijaaDoorDK
import Derived.StillTailTactics
namespace Go.Proofs.YtimddkofcejijaaDoor
open Go.RowKit Go.Sort
theorem i64_or_nat (a b : Nat) (ha : a < 65536) (hb : b < 65536) : bits BinOp.or IntKind.i64 (a : Int) (b : Int) = ((a ||| b : Nat) : Int) := by
  have hx : a ||| b < 65536 := or_lt ha hb
  have ofI : ∀ a : Nat, a < 65536 → (BitVec.ofInt 64 (a : Int)).toNat = a := fun a ha => by
    rw [BitVec.ofInt_natCast, BitVec.toNat_ofNat]; exact Nat.mod_eq_of_lt (by omega)
  show IntKind.i64.wrap ((BitVec.ofInt 64 (a : Int) ||| BitVec.ofInt 64 (b : Int)).toNat : Int) = _
  rw [BitVec.toNat_or, ofI a ha, ofI b hb, IntWalk.i64_in _ ⟨by omega, by omega⟩]
theorem i64_and_nat (a b : Nat) (ha : a < 65536) (hb : b < 65536) : bits BinOp.and IntKind.i64 (a : Int) (b : Int) = ((a &&& b : Nat) : Int) := by
  have hx : a &&& b < 65536 := and_lt ha
  have ofI : ∀ a : Nat, a < 65536 → (BitVec.ofInt 64 (a : Int)).toNat = a := fun a ha => by
    rw [BitVec.ofInt_natCast, BitVec.toNat_ofNat]; exact Nat.mod_eq_of_lt (by omega)
  show IntKind.i64.wrap ((BitVec.ofInt 64 (a : Int) &&& BitVec.ofInt 64 (b : Int)).toNat : Int) = _
  rw [BitVec.toNat_and, ofI a ha, ofI b hb, IntWalk.i64_in _ ⟨by omega, by omega⟩]
/-- what the law's table holds behind its entries from u on. -/
def TabI (P : Nat → Nat) (N u : Nat) (L : List Int) : Prop := L.length = N ∧ ∀ j, j < N → nth L j = if u ≤ j then (P j : Int) else 0
theorem TabI.start (P : Nat → Nat) (N : Nat) : TabI P N N (oftL N []) := ⟨oft_len _ _, fun j hj => by rw [oft_nth _ _ _ hj, if_neg (by omega)]; rfl⟩
theorem nth_set (L : List Int) (i j : Nat) (x : Int) (h : j < L.length) : nth (L.set i x) j = if i = j then x else nth L j := by
  rw [nth_eq, nth_eq, List.getElem?_set]
  by_cases e : i = j
  · subst e; simp [h]
  · simp [e]
/-- the entry u is what has been found so far. -/
def TabJ (P : Nat → Nat) (N u : Nat) (m : Nat) (L : List Int) : Prop := L.length = N ∧ (∀ j, j < N → u < j → nth L j = (P j : Int)) ∧ nth L u = (m : Int) ∧ (∀ j, j < u → nth L j = 0)
theorem TabI.to {P : Nat → Nat} {N u : Nat} {L : List Int} (h : TabI P N (u + 1) L) (hu : u < N) : TabJ P N u 0 L :=
  ⟨h.1, fun j hj hl => by rw [h.2 j hj, if_pos (by omega)], by rw [h.2 u hu, if_neg (by omega)]; rfl, fun j hj => by rw [h.2 j (by omega), if_neg (by omega)]⟩
theorem TabJ.back {P : Nat → Nat} {N u : Nat} {L : List Int} (h : TabJ P N u (P u) L) : TabI P N u L := by
  refine ⟨h.1, fun j hj => ?_⟩
  by_cases e : u = j
  · subst e; rw [h.2.2.1, if_pos (Nat.le_refl _)]
  · by_cases hl : u ≤ j
    · rw [h.2.1 j hj (by omega), if_pos hl]
    · rw [h.2.2.2 j (by omega), if_neg hl]
theorem TabJ.set {P : Nat → Nat} {N u m : Nat} {L : List Int} (h : TabJ P N u m L) (hu : u < N) (m' : Nat) : TabJ P N u m' (L.set u (m' : Int)) := by
  refine ⟨by rw [List.length_set]; exact h.1, fun j hj hl => ?_, ?_, fun j hj => ?_⟩
  · rw [nth_set _ _ _ _ (by rw [h.1]; exact hj), if_neg (by omega)]; exact h.2.1 j hj hl
  · rw [nth_set _ _ _ _ (by rw [h.1]; exact hu), if_pos rfl]
  · rw [nth_set _ _ _ _ (by rw [h.1]; omega), if_neg (by omega)]; exact h.2.2.2 j hj
theorem or_gt {u c : Nat} (h0 : c ≠ 0) (hd : c &&& u = 0) : u < u ||| c := by
  have h1 : u ≤ u ||| c := Nat.left_le_or
  rcases Nat.lt_or_eq_of_le h1 with h | h
  · exact h
  · exfalso
    apply h0
    refine Nat.eq_of_testBit_eq fun i => ?_
    rw [Nat.zero_testBit]
    have h2 : u.testBit i = (u.testBit i || c.testBit i) := by
      conv => lhs; rw [h]
      rw [Nat.testBit_or]
    have h3 : (c &&& u).testBit i = false := by rw [hd, Nat.zero_testBit]
    rw [Nat.testBit_and] at h3
    revert h2 h3
    cases u.testBit i <;> cases c.testBit i <;> simp
def pkS (ss : List (Int × Int)) (o u : Nat) (P : Nat → Nat) (k : Nat) : Nat := (List.range' 1 k).foldl (Sm.pkStep ss o u P) 0
theorem pkS_succ (ss : List (Int × Int)) (o u : Nat) (P : Nat → Nat) (k : Nat) : pkS ss o u P (k + 1) = Sm.pkStep ss o u P (pkS ss o u P k) (k + 1) := by
  unfold pkS
  rw [List.range'_concat, List.foldl_append, Nat.one_mul, Nat.add_comm 1 k]; rfl
theorem pkS_le {ss : List (Int × Int)} {o u : Nat} {P : Nat → Nat} (hP : ∀ j, P j ≤ 17) : ∀ k, pkS ss o u P k ≤ 18
  | 0 => Nat.zero_le _
  | k + 1 => by
    rw [pkS_succ]
    unfold Sm.pkStep
    have := pkS_le (ss := ss) (o := o) (u := u) hP k
    have := hP (u ||| cutM ss (k + 1))
    split <;> omega
set_option maxRecDepth 100000 in
set_option maxHeartbeats 8000000 in
/-- the law's packed. -/
theorem packed_any (c : Nat) (a : Option Addr) (cap : Nat) (ss : List (Int × Int)) (w : World) (hS : StrAt w a ss) (hl : ss.length ≤ 9) (hc : c ≤ 6) (hc1 : 1 ≤ c) (hp : ∀ p ∈ ss, 0 ≤ p.1 ∧ p.1 < p.2 ∧ p.2 < (c : Int)) (hsm : SmL ss) :
    Calls Tryd.prog 17 #[mapV c a ss.length cap] w fun e w' => e = .returned (.int .i64 (Sm.pkT c ss (oddM ss (2 ^ ss.length - 1)) 0)) ∧ Fut w w' := by
  have h64 : 2 ^ c ≤ 64 := Nat.le_trans (Nat.pow_le_pow_right (by decide) hc) (by decide)
  have h2c : 2 ≤ 2 ^ c := by
    have := Nat.pow_le_pow_right (show 0 < 2 by decide) hc1
    simpa using this
  have h512 : 2 ^ ss.length ≤ 512 := Nat.le_trans (Nat.pow_le_pow_right (by decide) hl) (by decide)
  have h1N := Nat.two_pow_pos ss.length
  have HAL := Lib.hid (fun W => every_any c a ss.length cap W (by omega))
  have HOD := Lib.hid (fun W (F : Fut w W) => oddlaw_any c a cap ss (2 ^ ss.length - 1) W (hS.fut F) (by omega) hsm (fun p h => by have := hp p h; omega) (mask_lt (by omega)))
  have HK := Lib.hid (fun s (h : s < 64) W (F : Fut w W) => cutlaw_any c a cap ss s W (hS.fut F) hl hc hp h)
  have HKL := Lib.hid (fun s => Nm.cut_lt (ss := ss) s)
  have hol : oddM ss (2 ^ ss.length - 1) < 2 ^ c := Nm.odd_in _ ss 0 0 hp (Nat.two_pow_pos _)
  have HPF := Lib.hid (fun u => Sm.pk_fold hc hl hc1 hp u)
  have HPL := Lib.hid (fun u => Sm.pk_le (n := c) (ss := ss) (o := oddM ss (2 ^ ss.length - 1)) (used := u))
  have hwk : IntKind.u64.wrap ((2 : Int) ^ c) = ((2 ^ c : Nat) : Int) := wrap_two c (by omega)
  have hwn : IntKind.i64.wrap ((2 : Int) ^ ss.length) = ((2 ^ ss.length : Nat) : Int) := by
    have : ((2 : Int) ^ ss.length) = ((2 ^ ss.length : Nat) : Int) := by simp
    rw [this]; exact IntWalk.i64_in _ ⟨by omega, by omega⟩
  have hlx : (ss.length : Int) ≤ 9 := by omega
  have hcx : (c : Int) ≤ 6 := by omega
  clear hS hp hsm
  generalize oddM ss (2 ^ ss.length - 1) = o at *
  generalize hpm : 2 ^ ss.length - 1 = pm at HAL HOD
  clear hpm
  obtain ⟨P, hP⟩ : ∃ P, P = Sm.pkT c ss o := ⟨_, rfl⟩
  rw [← hP] at HPF HPL ⊢
  clear hP
  obtain ⟨N, hN⟩ : ∃ N, N = 2 ^ ss.length := ⟨_, rfl⟩
  rw [← hN] at hwn h512 h1N
  have HKN : Hid (∀ s, cutM ss s < N) := Lib.hid (by rw [hN]; exact HKL.out)
  obtain ⟨M, hM⟩ : ∃ M, 2 ^ c = M + 2 := ⟨2 ^ c - 2, by omega⟩
  have HPM : Hid (∀ u, pkS ss o u P M = P u) := Lib.hid (fun u => by
    have := HPF.out u
    have e : 2 ^ c - 2 = M := by omega
    rw [e] at this
    exact this)
  rw [hM] at hwk h64 hol
  have HOR : Hid (∀ a b, a < N → b < N → a ||| b < N) := Lib.hid (by rw [hN]; intro a b h1 h2; exact Nat.or_lt_two_pow h1 h2)
  clear HPF HKL hM h2c
  have hNx : (N : Int) ≤ 512 := by omega
  have hN1 : (1 : Int) ≤ N := by omega
  have hMx : (M : Int) ≤ 62 := by omega
  have hmk := run_make_row' (P := Tryd.prog) 34 3 (.int .i64 0) 8 Tryd.underlying34 info3 rfl .i64 .i64 N (by omega) (by omega)
  have HN := Lib.hid hN
  clear hN
  go_enter Tryd.func17, Tryd.ntmps17
  go_wp2_with fail
  have hB := BoxM.new w c a ss.length cap 29
  have hF : Fut w (w.alloc (.cells #[.int .i64 c, .slice a ss.length cap] 29)) := Fut.alloc _ _
  generalize w.alloc (.cells #[.int .i64 c, .slice a ss.length cap] 29) = W1 at *
  generalize hBB : w.heap.size = B at *
  have HBB := Lib.hid hBB
  have HF := Lib.hid hF
  have HB := Lib.hid hB
  clear hF hBB
  obtain ⟨m0, m1⟩ := hB.after Fut.rfl
  obtain ⟨hb, b0, b1⟩ := hB
  go_upto_region 1 with fail
  refine region_fut (by kernel_rfl) (by kernel_rfl) ?_
  repeat (go_big_quiet_step (first
    | (go_at_call 9; exact after_of (HAL.out _))
    | (go_at_call 8; rename_i p; exact after_of (HOD.out _ (HF.out.trans p.F)))))
  refine wpQuiet_nil ?_
  intro w3 hw'
  have F3 : Fut W1 w3 := after_fut hw'
  clear hw' m0 m1 HAL HOD hb b0 b1
  have HF3 := Lib.hid (HF.out.trans F3)
  have HB3 := Lib.hid (HB.out.fut F3)
  clear F3 HF HB
  obtain ⟨hb, b0, b1⟩ := HB3.out
  go_upto_region 3 with fail
  have hgs : Owns (w3.alloc (.cells (madeCells #[Value.int .i64 0] N) 3)) w3.heap.size (.slice (some ⟨w3.heap.size, 0, none⟩) N N) (oftL N []) := made_own w3 N (by omega)
  have hF2 : Fut w (w3.alloc (.cells (madeCells #[Value.int .i64 0] N) 3)) := HF3.out.trans (Fut.alloc _ _)
  have hB2 := HB3.out.fut (Fut.alloc w3 (.cells (madeCells #[Value.int .i64 0] N) 3))
  have hwg : w.heap.size ≤ w3.heap.size := RowKit.Below.size HF3.out
  generalize w3.alloc (.cells (madeCells #[Value.int .i64 0] N) 3) = w4 at *
  generalize w3.heap.size = g at *
  have HO0 := Lib.hid hgs
  have HF0 := Lib.hid hF2
  have HB0 := Lib.hid hB2
  have HWG := Lib.hid hwg
  have HBG : Hid (B < g) := Lib.hid hb
  have HT0 := Lib.hid (TabI.start P N)
  have HWK := Lib.hid hwk
  clear hgs hF2 hB2 hb b0 b1 hmk hwg hwn HF3 HB3 hwk
  go_wp2_with fail
  go_loopw [5, 6, 7] (fun v5 _ _ wr => ∃ (u : Nat) (z : Int) (L : List Int), u ≤ N ∧ v5 = .int .i64 z ∧ z = (u : Int) - 1 ∧ Hid (TabI P N u L) ∧ Hid (Owns wr g (.slice (some ⟨g, 0, none⟩) N N) L) ∧ Hid (BoxM wr B c a ss.length cap) ∧ Hid (Fut w wr)) (fun v5 _ _ _ => (intOf v5 + 1).toNat)
  case atStart => exact ⟨N, _, _, Nat.le_refl _, rfl, rfl, HT0, HO0, HB0, HF0⟩
  case round =>
    obtain ⟨u, z, L, hu, rfl, hz, HTI, HOW, HBW, HR⟩ := hrel
    by_cases hu0 : u = 0
    · subst hu0
      obtain rfl : z = -1 := by omega
      obtain ⟨o1, o2, o3⟩ := own_at HOW.out HTI.out.1 0 (by omega)
      have hn0 := HTI.out.2 0 (by omega)
      rw [if_pos (Nat.le_refl _)] at hn0
      rw [hn0] at o1
      clear hn0 hz
      go_wp2
      go_ret
      exact ⟨rfl, HR.out⟩
    · obtain ⟨q, rfl⟩ : ∃ q, u = q + 1 := ⟨u - 1, by omega⟩
      obtain rfl : z = (q : Int) := by omega
      have hq0 : (0 : Int) ≤ q := by omega
      have hqN : (q : Int) < N := by omega
      have HJ0 : Hid (TabJ P N q (pkS ss o q P 0) L) := Lib.hid (HTI.out.to (by omega))
      clear hz hu0
      go_upto_region 6 with fail
      go_wp2_with fail
      go_loopw [6, 7] (fun v6 _ wx => ∃ (k : Nat) (L : List Int), k ≤ M ∧ v6 = .int .u64 ((k + 1 : Nat) : Int) ∧ Hid (TabJ P N q (pkS ss o q P k) L) ∧ Hid (Owns wx g (.slice (some ⟨g, 0, none⟩) N N) L) ∧ Hid (BoxM wx B c a ss.length cap) ∧ Hid (Fut w wx)) (fun v6 _ _ => M + 1 - (intOf v6).toNat)
      case atStart => exact ⟨0, L, Nat.zero_le _, rfl, HJ0, HOW, HBW, HR⟩
      case round =>
        clear HJ0 HTI HOW HBW HR
        obtain ⟨k, L, hk, rfl, HJ, HOW, HBW, HR⟩ := hrel
        obtain ⟨hb, b0, b1⟩ := HBW.out
        have hwk := HWK.out
        by_cases hlt : k < M
        · have hkx : (k : Int) < M := by omega
          have hcl := HKN.out (k + 1)
          have HCT := Lib.hid (HK.out (k + 1) (by omega) wr HR.out)
          have HON := Lib.hid (fun W => ones_any ((k + 1) &&& o) W (Nat.lt_of_le_of_lt Nat.and_le_left (show k + 1 < 64 by omega)))
          have hpp : popI ((k + 1) &&& o) = ((Nm.pop ((k + 1) &&& o) : Nat) : Int) := rfl
          have hpq := Nm.par_pop ((k + 1) &&& o)
          have hpl : Nm.pop ((k + 1) &&& o) ≤ 16 := by rw [← Nm.pop_list]; exact list_le _
          rw [hpp] at HON
          have hso : bits BinOp.and IntKind.u64 (((k + 1 : Nat) : Int)) (o : Int) = (((k + 1) &&& o : Nat) : Int) := u64_and_nat _ _ (by omega) (by omega)
          have HST : Hid (pkS ss o q P (k + 1) = if (par ((k + 1) &&& o) && cutM ss (k + 1) != 0 && (cutM ss (k + 1) &&& q == 0)) = true then max (pkS ss o q P k) (1 + P (q ||| cutM ss (k + 1))) else pkS ss o q P k) := Lib.hid (pkS_succ ss o q P k)
          have hml : pkS ss o q P k ≤ 18 := pkS_le HPL.out k
          rw [hpq] at HST
          generalize hmm : pkS ss o q P k = m at *
          have hcq : bits BinOp.and IntKind.i64 ((cutM ss (k + 1) : Nat) : Int) (q : Int) = ((cutM ss (k + 1) &&& q : Nat) : Int) := i64_and_nat _ _ (by omega) (by omega)
          have hqc : bits BinOp.or IntKind.i64 (q : Int) ((cutM ss (k + 1) : Nat) : Int) = ((q ||| cutM ss (k + 1) : Nat) : Int) := i64_or_nat _ _ (by omega) (by omega)
          have HORQ := Lib.hid (HOR.out q (cutM ss (k + 1)) (by omega) (by omega))
          generalize cutM ss (k + 1) = K at *
          generalize Nm.pop ((k + 1) &&& o) = pp at *
          generalize (k + 1) &&& o = so at *
          have hKx : (K : Int) < 512 := by omega
          have hppx : (pp : Int) ≤ 16 := by omega
          clear hpp hpq hmm
          generalize hk1 : k + 1 = k1 at *
          have hk1x : (k1 : Int) < 64 := by omega
          have hk1y : (k1 : Int) < (M : Int) + 1 := by omega
          clear hb b0 b1
          obtain ⟨hb, b0, b1⟩ := HBW.out
          go_upto_region 10 with (go_at_call 19; (with_reducible refine HCT.out.mono ?_); rintro _ wa ⟨rfl, F⟩; have HFa := Lib.hid (HR.out.trans F); have HBa := Lib.hid (HBW.out.fut F); have HOa := Lib.hid (HOW.out.fut F); clear F)
          clear hb b0 b1 hwk
          have hnot : (¬ (pp % 2 = 1 ∧ K ≠ 0 ∧ K &&& q = 0)) → Hid (TabJ P N q (pkS ss o q P k1) L) := fun hn => Lib.hid (by
            rw [HST.out, if_neg (by simpa [Bool.and_eq_true, and_assoc] using hn)]; exact HJ.out)
          by_cases h2 : pp % 2 = 1
          · have h2x : ((pp : Int) % 2 == 1) = true := by rw [beq_iff_eq]; omega
            by_cases h3 : K = 0
            · have h3x : ((K : Int) != 0) = false := by rw [h3]; rfl
              have HJ2 := hnot (fun h => h.2.1 h3)
              clear hnot h2 h3 hcq hqc
              go_wp2_with (go_at_call 20; (with_reducible refine (HON.out _).mono ?_); rintro _ _ ⟨rfl, rfl⟩)
              go_roundw
              case rel => exact ⟨k1, L, by omega, by go_num, HJ2, HOa, HBa, HFa⟩
              case measure => simp [intOf]; omega
            · have h3x : ((K : Int) != 0) = true := by rw [bne_iff_ne]; omega
              by_cases h4 : K &&& q = 0
              · have hgt := or_gt h3 h4
                have hS : pkS ss o q P k1 = max m (1 + P (q ||| K)) := by rw [HST.out, if_pos (by simp [h2, h3, h4])]
                rw [h4] at hcq
                have HJ2 : Hid (TabJ P N q (pkS ss o q P k1) (L.set q ((pkS ss o q P k1 : Nat) : Int))) := Lib.hid (HJ.out.set (by omega) _)
                rw [hS] at HJ2
                have HSX := Lib.hid hS
                obtain ⟨o1, o2, o3⟩ := own_at HOa.out HJ.out.1 q (by omega)
                rw [HJ.out.2.2.1] at o1
                obtain ⟨p1, p2, _⟩ := own_at HOa.out HJ.out.1 (q ||| K) HORQ.out
                rw [HJ.out.2.1 _ HORQ.out hgt] at p1
                have hPQ := HPL.out (q ||| K)
                have hqk : ((q ||| K : Nat) : Int) < N := by have := HORQ.out; omega
                generalize q ||| K = qk at *
                generalize P qk = pq at *
                have hmax : max (m : Int) (1 + (pq : Int)) = ((max m (1 + pq) : Nat) : Int) := by omega
                generalize max m (1 + pq) = mx at *
                clear hnot h2 h3 h4 hS hgt
                go_upto_region 11 with (go_at_call 20; (with_reducible refine (HON.out _).mono ?_); rintro _ _ ⟨rfl, rfl⟩)
                go_still_tail 15, (by kernel_rfl)
                have hFD : Fut wa wa.drew := Fut.drewN wa 1
                have HOd := Lib.hid (HOa.out.fut hFD)
                have HBd := Lib.hid (HBa.out.fut hFD)
                have HFd := Lib.hid (HFa.out.trans hFD)
                change wpList _ _ _ _ _ wa.drew
                generalize wa.drew = w2 at *
                clear o1 o2 o3 p1 p2 hFD
                obtain ⟨o1, o2, o3⟩ := own_at HOd.out HJ.out.1 q (by omega)
                have HO7 := Lib.hid (own_set HOd.out HJ.out.1 q (mx : Int))
                have hBl : RowKit.Below g w2 (w2.setCell ⟨g, q, none⟩ (.int .i64 (mx : Int))) := (RowKit.Below.refl g w2).setCell (p := ⟨g, q, none⟩) (Nat.le_refl _) _
                have HB7 := Lib.hid (HBd.out.belowB HBG.out hBl)
                have HF7 := Lib.hid (HFd.out.trans' hBl HWG.out)
                clear hBl
                go_wp2
                go_roundw
                case rel => exact ⟨k1, _, by omega, by go_num, Lib.hid (by rw [HSX.out]; exact HJ2.out), HO7, HB7, HF7⟩
                case measure => simp [intOf]; omega
              · have h4x : (((K &&& q : Nat) : Int) == 0) = false := by rw [beq_eq_false_iff_ne]; omega
                have HJ2 := hnot (fun h => h4 h.2.2)
                clear hnot h2 h3 h4 hqc
                go_wp2_with (go_at_call 20; (with_reducible refine (HON.out _).mono ?_); rintro _ _ ⟨rfl, rfl⟩)
                go_roundw
                case rel => exact ⟨k1, L, by omega, by go_num, HJ2, HOa, HBa, HFa⟩
                case measure => simp [intOf]; omega
          · have h2x : ((pp : Int) % 2 == 1) = false := by rw [beq_eq_false_iff_ne]; omega
            have HJ2 := hnot (fun h => h2 h.1)
            clear hnot h2 hcq hqc
            go_wp2_with (go_at_call 20; (with_reducible refine (HON.out _).mono ?_); rintro _ _ ⟨rfl, rfl⟩)
            go_roundw
            case rel => exact ⟨k1, L, by omega, by go_num, HJ2, HOa, HBa, HFa⟩
            case measure => simp [intOf]; omega
        · obtain rfl : k = M := by omega
          have HTI : Hid (TabI P N q L) := Lib.hid (by
            have h := HJ.out
            rw [HPM.out] at h
            exact h.back)
          have hkn : ¬ ((k + 1 : Nat) : Int) < (k : Int) + 1 := by omega
          go_wp2_with fail
          go_roundw
          case rel => exact ⟨q, _, L, by omega, by go_num, by omega, HTI, HOW, HBW, HR⟩
          case measure => simp [intOf]
end Go.Proofs.YtimddkofcejijaaDoor
