/- Layer 2: the reference's cut, sided and Cut. -/
import Derived.Test.YtimddkofcejijaaEE
import Derived.Test.YtimddkofcejijaaRQ
namespace Go.Proofs.Ytimddkofcejijaa
open Go.RowKit Go.Sort
theorem cutL_bit (side : Nat) : ∀ (l : List (Int × Int)) (i c k : Nat), (cutL side i l c).testBit k = (c.testBit k || (decide (i ≤ k) && decide (k < i + l.length) && par (endsM (str l (k - i)) &&& side)))
  | [], i, c, k => by
    have h : (decide (i ≤ k) && decide (k < i + 0)) = false := by
      rw [Bool.and_eq_false_iff, decide_eq_false_iff_not, decide_eq_false_iff_not]; omega
    show c.testBit k = _
    rw [List.length_nil, h]; simp
  | p :: l, i, c, k => by
    unfold cutL
    rw [cutL_bit side l (i + 1)]
    by_cases hk : k = i
    · subst hk
      have h1 : decide (k + 1 ≤ k) = false := decide_eq_false (by omega)
      have h2 : decide (k < k + (p :: l).length) = true := decide_eq_true (by simp)
      have h0 : str (p :: l) (k - k) = p := by rw [Nat.sub_self]; rfl
      rw [h1, h2, h0]
      cases par (endsM p &&& side)
      · simp
      · simp
    · have hc : (if par (endsM p &&& side) = true then c ||| 2 ^ i else c).testBit k = c.testBit k := by
        split
        · rw [Nat.testBit_or, Nat.testBit_two_pow, decide_eq_false (fun e => hk e.symm), Bool.or_false]
        · rfl
      rw [hc]
      rcases Nat.lt_or_ge k i with h | h
      · rw [decide_eq_false (show ¬ i + 1 ≤ k by omega), decide_eq_false (show ¬ i ≤ k by omega)]; rfl
      · have e1 : k - i = (k - (i + 1)) + 1 := by omega
        have e2 : str (p :: l) (k - i) = str l (k - (i + 1)) := by rw [e1]; rfl
        have e3 : decide (i + 1 ≤ k) = decide (i ≤ k) := by rw [Bool.eq_iff_iff, decide_eq_true_eq, decide_eq_true_eq]; omega
        have e4 : decide (k < i + 1 + l.length) = decide (k < i + (p :: l).length) := by rw [Bool.eq_iff_iff, decide_eq_true_eq, decide_eq_true_eq, List.length_cons]; omega
        rw [e2, e3, e4]
theorem cutM_bit {ss : List (Int × Int)} {side k : Nat} (hk : k < ss.length) : (cutM ss side).testBit k = par (endsM (str ss k) &&& side) := by
  unfold cutM
  rw [cutL_bit, Nat.zero_testBit, decide_eq_true (Nat.zero_le k), decide_eq_true (by omega)]
  simp
theorem cutM_out {ss : List (Int × Int)} {side k : Nat} (hk : ss.length ≤ k) : (cutM ss side).testBit k = false := by
  unfold cutM
  rw [cutL_bit, Nat.zero_testBit, decide_eq_false (show ¬ k < 0 + ss.length by omega)]
  simp
theorem par_one_bit (a : Nat) (ha : a < 16) (s : Nat) : par (2 ^ a &&& s) = s.testBit a := by
  cases h : s.testBit a
  · have : 2 ^ a &&& s = 0 := Nat.eq_of_testBit_eq fun i => by
      rw [Nat.testBit_and, Nat.testBit_two_pow, Nat.zero_testBit]
      by_cases e : a = i
      · subst e; rw [h, Bool.and_false]
      · rw [decide_eq_false e, Bool.false_and]
    rw [this]; exact par_zero
  · have : 2 ^ a &&& s = 2 ^ a := Nat.eq_of_testBit_eq fun i => by
      rw [Nat.testBit_and, Nat.testBit_two_pow]
      by_cases e : a = i
      · subst e; rw [h, Bool.and_true]
      · rw [decide_eq_false e, Bool.false_and]
    rw [this]
    have key : ∀ a : Fin 16, par (2 ^ a.val) = true := by decide
    exact key ⟨a, ha⟩
/-- a street is in the cut of a side just if one of its corners is in it. -/
theorem par_street {p : Int × Int} (h : 0 ≤ p.1 ∧ p.1 < p.2 ∧ p.2 < 16) (s : Nat) : par (endsM p &&& s) = xor (s.testBit p.1.toNat) (s.testBit p.2.toNat) := by
  have e : endsM p &&& s = (2 ^ p.1.toNat &&& s) ^^^ (2 ^ p.2.toNat &&& s) := Nat.eq_of_testBit_eq fun i => by
    unfold endsM
    rw [Nat.testBit_xor, Nat.testBit_and, Nat.testBit_and, Nat.testBit_and, Nat.testBit_or, Nat.testBit_two_pow, Nat.testBit_two_pow]
    by_cases h1 : p.1.toNat = i
    · have h2 : ¬ p.2.toNat = i := by omega
      simp [h1, h2]
    · by_cases h2 : p.2.toNat = i
      · simp [h1, h2]
      · simp [h1, h2]
  rw [e, par_xor, par_one_bit _ (by omega), par_one_bit _ (by omega)]
set_option maxRecDepth 100000 in
set_option maxHeartbeats 4000000 in
/-- the reference's cut. -/
theorem cutRx_any (c : Nat) (a : Option Addr) (cap : Nat) (ss : List (Int × Int)) (d : Option Addr) (dap : Nat) (zs : List Int) (S : Nat) (w : World) (hSt : StrAt w a ss) (hZ : IntsAt w d zs) (hlz : zs.length ≤ 1000) (hl : ss.length ≤ 9) (hc : c ≤ 6) (hg : GoodS ss c) (hb : ∀ i, i < c → S.testBit i = zs.contains (i : Int)) :
    Calls Try.prog 77 #[mapV c a ss.length cap, .slice d zs.length dap] w fun e w' => ∃ v, e = .returned v ∧ Owns w' w.heap.size v (preM (cutM ss S) ss.length) ∧ Fut w w' := by
  have HPAR : Hid (∀ k, k < ss.length → (cutM ss S).testBit k = xor (zs.contains (str ss k).1) (zs.contains (str ss k).2)) := Lib.hid (fun k hk => by
    obtain ⟨g1, g2, g3, g4⟩ := good_str hg hk
    have hm := hg _ (str_mem ss k hk)
    rw [cutM_bit hk, par_street ⟨hm.1, hm.2.1, by omega⟩]
    have e1 : (str ss k).1.toNat = en1 ss k := rfl
    have e2 : (str ss k).2.toNat = en2 ss k := rfl
    rw [e1, e2, hb _ (by omega), hb _ g2, g3, g4])
  have HZ := Lib.hid hZ
  have HS := Lib.hid hSt
  have hlx : (ss.length : Int) ≤ 9 := by omega
  obtain ⟨i0, hi0, hz0, hz1, hz2⟩ := info_parts info3
  clear hSt hZ hb
  generalize cutM ss S = X at *
  go_enter Try.func77, Try.ntmps77
  go_wp2_with fail
  have hB := BoxM.new w c a ss.length cap 28
  have hF : Fut w (w.alloc (.cells #[.int .i64 c, .slice a ss.length cap] 28)) := Fut.alloc _ _
  generalize w.alloc (.cells #[.int .i64 c, .slice a ss.length cap] 28) = W1 at *
  generalize hbw : w.heap.size = B at *
  have HB := Lib.hid hB
  have HF := Lib.hid hF
  have hBW : B ≤ W1.heap.size := Nat.le_of_lt hB.1
  clear hB hF
  go_loopw [5, 6] (fun ov iv wx => ∃ (k : Nat), k ≤ ss.length ∧ iv = .int .i64 k ∧ Hid (Owns wx W1.heap.size ov (preM X k)) ∧ Hid (Fut W1 wx)) (fun _ iv _ => ss.length - (intOf iv).toNat)
  case atStart => exact ⟨0, Nat.zero_le _, rfl, Lib.hid (Owns.nil _ _), Lib.hid Fut.rfl⟩
  case round =>
    obtain ⟨k, hk, rfl, HO, HR⟩ := hrel
    obtain ⟨hb, b0, b1⟩ := HB.out.fut HR.out
    by_cases hlt : k < ss.length
    · have hkx : (k : Int) < ss.length := by omega
      have HPK := HPAR.out k hlt
      have HPS := Lib.hid (preM_succ X k)
      have hpl : (preM X k).length ≤ 9 := Nat.le_trans (preM_len X k) (by omega)
      obtain ⟨bb, off, ea, hbb, c1, c2⟩ := ((HS.out.fut HF.out).fut HR.out) k hlt
      subst ea
      generalize str ss k = p at *
      obtain ⟨x, y⟩ := p
      dsimp only at c1 c2 HPK
      have HZX := HZ.out.fut (HF.out.trans HR.out)
      have H1 : Hid (∀ q, Calls Try.prog 62 #[.slice d zs.length dap, .int .i64 x] (wr.drewN q) fun e w' => e = .returned (.bool (zs.contains x)) ∧ w' = wr.drewN q) := Lib.hid (fun q => (hasR_any d dap zs x (wr.drewN q) (HZX.fut (Fut.drewN _ _)) hlz).mono fun _ _ h => ⟨h.1, h.2.symm⟩)
      have H2 : Hid (∀ q, Calls Try.prog 62 #[.slice d zs.length dap, .int .i64 y] (wr.drewN q) fun e w' => e = .returned (.bool (zs.contains y)) ∧ w' = wr.drewN q) := Lib.hid (fun q => (hasR_any d dap zs y (wr.drewN q) (HZX.fut (Fut.drewN _ _)) hlz).mono fun _ _ h => ⟨h.1, h.2.symm⟩)
      clear HZX
      generalize zs.contains x = bx at *
      generalize zs.contains y = bz at *
      go_upto_region 5 with fail
      go_quiet (first | (go_at_call 62; with_reducible exact Calls.quiet_of_same (H1.out _)) | (go_at_call 62; with_reducible exact Calls.quiet_of_same (H2.out _)))
      have HR6 := Lib.hid (HR.out.trans (Fut.drewN wr nq))
      have HO6 := Lib.hid (HO.out.fut (Fut.drewN wr nq))
      clear hb b0 b1 c1 c2 H1 H2 HO HR
      generalize wr.drewN nq = w6 at *
      cases bx
      · cases bz
        · have hX : X.testBit k = false := by rw [HPK]; rfl
          rw [hX] at HPS
          simp only [Bool.false_eq_true, if_false, List.append_nil] at HPS
          rw [← HPS.out] at HO6
          clear hX HPK HPS
          go_wp2
          go_roundw
          case rel => exact ⟨k + 1, by omega, by go_num, HO6, HR6⟩
          case measure => simp [intOf]; omega
        · have hX : X.testBit k = true := by rw [HPK]; rfl
          rw [hX] at HPS
          simp only [if_true] at HPS
          obtain ⟨pn, hpn⟩ : ∃ pn, preM X (k + 1) = pn := ⟨_, rfl⟩
          have HPN := Lib.hid hpn
          rw [hpn] at HPS
          clear hpn hX HPK
          generalize preM X k = pk at *
          go_wp2_with (at_builtin; refine wpList_append_own _ rfl _ _ 25 rfl W1.heap.size 3 i0 (.int .i64 0) 1 8 Try.underlying25 hi0 hz0 hz1 hz2 rfl (by decide) _ _ _ rfl (HO6.out.alloc _) ⟨w6.heap.size, 0, none⟩ 1 1 [.int .i64 (k : Int)] rfl rfl (cell_one (by simp [go_sem])) (by simp [Value.oneCell']) (by unfold maxLen; omega) (by omega) (by have := RowKit.Below.size HR6.out; simp; omega) ?_)
          intro v' w7 hown' hgrow _
          have HO7 : Hid (Owns w7 W1.heap.size v' pn) := Lib.hid (by rw [HPS.out]; unfold Owns; simpa using hown')
          have HF7 : Hid (Fut W1 w7) := Lib.hid ((HR6.out.trans (Fut.alloc _ _)).grown' hgrow HO6.out (Nat.le_refl _))
          clear hown' hgrow
          go_wp2
          go_roundw
          case rel => exact ⟨k + 1, by omega, by go_num, by rw [HPN.out]; exact HO7, HF7⟩
          case measure => simp [intOf]; omega
      · cases bz
        · have hX : X.testBit k = true := by rw [HPK]; rfl
          rw [hX] at HPS
          simp only [if_true] at HPS
          obtain ⟨pn, hpn⟩ : ∃ pn, preM X (k + 1) = pn := ⟨_, rfl⟩
          have HPN := Lib.hid hpn
          rw [hpn] at HPS
          clear hpn hX HPK
          generalize preM X k = pk at *
          go_wp2_with (at_builtin; refine wpList_append_own _ rfl _ _ 25 rfl W1.heap.size 3 i0 (.int .i64 0) 1 8 Try.underlying25 hi0 hz0 hz1 hz2 rfl (by decide) _ _ _ rfl (HO6.out.alloc _) ⟨w6.heap.size, 0, none⟩ 1 1 [.int .i64 (k : Int)] rfl rfl (cell_one (by simp [go_sem])) (by simp [Value.oneCell']) (by unfold maxLen; omega) (by omega) (by have := RowKit.Below.size HR6.out; simp; omega) ?_)
          intro v' w7 hown' hgrow _
          have HO7 : Hid (Owns w7 W1.heap.size v' pn) := Lib.hid (by rw [HPS.out]; unfold Owns; simpa using hown')
          have HF7 : Hid (Fut W1 w7) := Lib.hid ((HR6.out.trans (Fut.alloc _ _)).grown' hgrow HO6.out (Nat.le_refl _))
          clear hown' hgrow
          go_wp2
          go_roundw
          case rel => exact ⟨k + 1, by omega, by go_num, by rw [HPN.out]; exact HO7, HF7⟩
          case measure => simp [intOf]; omega
        · have hX : X.testBit k = false := by rw [HPK]; rfl
          rw [hX] at HPS
          simp only [Bool.false_eq_true, if_false, List.append_nil] at HPS
          rw [← HPS.out] at HO6
          clear hX HPK HPS
          go_wp2
          go_roundw
          case rel => exact ⟨k + 1, by omega, by go_num, HO6, HR6⟩
          case measure => simp [intOf]; omega
    · obtain rfl : k = ss.length := by omega
      go_wp2
      go_ret
      exact ⟨_, rfl, HO.out.base (by rw [hbw]; exact hBW), HF.out.trans HR.out⟩
theorem asc_sorted {n : Int} : ∀ {l : List Int} {p : Int}, ascE n l p = 0 → l.Pairwise (· < ·) ∧ ∀ z ∈ l, p < z
  | [], _, _ => ⟨List.Pairwise.nil, fun z hz => (by cases hz)⟩
  | y :: l, p, h => by
    unfold ascE at h
    split at h
    · split at h
      · cases h
      · rename_i h2
        obtain ⟨h3, h4⟩ := asc_sorted h
        refine ⟨List.pairwise_cons.2 ⟨h4, h3⟩, fun z hz => ?_⟩
        rcases List.mem_cons.1 hz with rfl | hz
        · omega
        · have := h4 z hz; omega
    · cases h
theorem asc_list {n : Int} (hn : n ≤ 16) {l : List Int} (h : ascE n l (-1) = 0) : listM (setM l) = l := by
  refine sorted_ext (listM_sorted _) (asc_sorted h).1 fun x => ?_
  rw [listM_mem]
  constructor
  · rintro ⟨i, _, hb, rfl⟩
    rw [setM_bit h, List.contains_iff_mem] at hb
    exact hb
  · intro hx
    have := asc_nonneg h x hx
    obtain ⟨i, rfl⟩ := Int.eq_ofNat_of_zero_le this.1
    exact ⟨i, by omega, by rw [setM_bit h, List.contains_iff_mem]; exact hx, rfl⟩
theorem setM_small {c : Nat} {l : List Int} (h : ascE c l (-1) = 0) : setM l < 2 ^ c := by
  rcases Nat.lt_or_ge (setM l) (2 ^ c) with h1 | h1
  · exact h1
  · exfalso
    obtain ⟨j, hj, hb⟩ := Nat.exists_ge_and_testBit_of_ge_two_pow h1
    rw [setM_bit h, List.contains_iff_mem] at hb
    have := asc_nonneg h _ hb
    omega
theorem list_whole : ∀ c : Fin 7, ∀ S : Fin 64, S.val < 2 ^ c.val → (((listM S.val).length = 0 ↔ S.val = 0) ∧ ((listM S.val).length = c.val ↔ S.val = 2 ^ c.val - 1)) := by decide +kernel
theorem side_len {c : Nat} (hc : c ≤ 6) {l : List Int} (h : ascE c l (-1) = 0) : (l.length = 0 ↔ setM l = 0) ∧ (l.length = c ↔ setM l = 2 ^ c - 1) := by
  have hs := setM_small h
  have h64 : 2 ^ c ≤ 64 := Nat.le_trans (Nat.pow_le_pow_right (by decide) hc) (by decide)
  have := list_whole ⟨c, by omega⟩ ⟨setM l, by omega⟩ hs
  simp only at this
  rw [asc_list (by omega) h] at this
  exact this
set_option maxRecDepth 100000 in
set_option maxHeartbeats 2000000 in
/-- the reference's sided. -/
theorem sidedR_any (c : Nat) (a : Option Addr) (n cap : Nat) (d : Option Addr) (dap : Nat) (zs : List Int) (w : World) (hZ : IntsAt w d zs) (hlz : zs.length ≤ 1000) (hc : c ≤ 6) :
    Calls Try.prog 76 #[mapV c a n cap, .slice d zs.length dap] w (PostC (sdE c zs) w) := by
  have HL := Lib.hid (fun W (F : Fut w W) => listedR_any c d dap zs W (hZ.fut F) hlz (by omega))
  have HD : Hid (sdE c zs = if ascE c zs (-1) ≠ 0 then ascE c zs (-1) else if setM zs = 0 ∨ setM zs = 2 ^ c - 1 then 5 else 0) := Lib.hid (by unfold sdE; rw [Int.toNat_natCast])
  have HSL := Lib.hid (fun h => side_len hc (l := zs) h)
  have hzx : (zs.length : Int) ≤ 1000 := by omega
  have hcx : (c : Int) ≤ 6 := by omega
  clear hZ
  generalize sdE c zs = R at *
  generalize ascE c zs (-1) = e at *
  generalize setM zs = S at *
  go_enter Try.func76, Try.ntmps76
  go_wp2_with fail
  have hB := BoxM.new w c a n cap 28
  have hF : Fut w (w.alloc (.cells #[.int .i64 c, .slice a n cap] 28)) := Fut.alloc _ _
  generalize w.alloc (.cells #[.int .i64 c, .slice a n cap] 28) = W1 at *
  generalize w.heap.size = B at *
  have HB := Lib.hid hB
  have HF := Lib.hid hF
  clear hB hF
  refine (HL.out _ HF.out).mono ?_
  rintro _ w2 ⟨rfl, F2⟩
  have HF2 := Lib.hid (HF.out.trans F2)
  obtain ⟨hb, b0, b1⟩ := HB.out.fut F2
  clear F2 HL
  by_cases he : e = 0
  · subst he
    obtain ⟨k1, k2⟩ := HSL.out rfl
    have hR : R = if S = 0 ∨ S = 2 ^ c - 1 then 5 else 0 := by rw [HD.out, if_neg (by simp)]
    by_cases h0 : zs.length = 0
    · have hR5 : R = 5 := by rw [hR, if_pos (Or.inl (k1.1 h0))]
      have hz : ((zs.length : Int) == 0) = true := by rw [h0]; rfl
      clear HD HSL k1 k2 hR h0
      subst hR5
      go_wp2
      go_ret
      exact ⟨rfl, HF2.out⟩
    · have hz : ((zs.length : Int) == 0) = false := by rw [beq_eq_false_iff_ne]; omega
      by_cases hw : zs.length = c
      · have hR5 : R = 5 := by rw [hR, if_pos (Or.inr (k2.1 hw))]
        have hz2 : ((zs.length : Int) == c) = true := by rw [hw]; simp
        clear HD HSL k1 k2 hR h0 hw
        subst hR5
        go_wp2
        go_ret
        exact ⟨rfl, HF2.out⟩
      · have hR5 : R = 0 := by rw [hR, if_neg (fun h => h.elim (fun h => h0 (k1.2 h)) (fun h => hw (k2.2 h)))]
        have hz2 : ((zs.length : Int) == c) = false := by rw [beq_eq_false_iff_ne]; omega
        clear HD HSL k1 k2 hR h0 hw
        subst hR5
        go_wp2
        go_ret
        exact ⟨rfl, HF2.out⟩
  · have hR : R = e := by rw [HD.out, if_pos he]
    have heb : (e == 0) = false := by rw [beq_eq_false_iff_ne]; exact he
    clear HD HSL he
    subst hR
    go_wp2
    go_ret
    exact ⟨rfl, HF2.out⟩
set_option maxRecDepth 100000 in
set_option maxHeartbeats 2000000 in
/-- the reference's Cut. -/
theorem cutRf_any (c : Int) (a : Option Addr) (cap : Nat) (ss : List (Int × Int)) (d : Option Addr) (dap : Nat) (zs : List Int) (w : World) (hS : StrAt w a ss) (hZ : IntsAt w d zs) (hlz : zs.length ≤ 1000) :
    Calls Try.prog 31 #[mapV c a ss.length cap, .slice d zs.length dap] w (TupL (cutE c ss zs) (cutR c ss zs) w) := by
  have HC := Lib.hid (fun W (F : Fut w W) => checkR_any c a cap ss W (hS.fut F))
  by_cases h : chkM c ss = 0
  · rw [h] at HC
    obtain ⟨hc1, hc6, hl, _, hp, _⟩ := chk_good h
    obtain ⟨n, rfl⟩ := Int.eq_ofNat_of_zero_le (show 0 ≤ c by omega)
    have hE : cutE n ss zs = sdE n zs := by unfold cutE; rw [if_neg (by rw [h]; simp)]
    have HSD := Lib.hid (fun W (F : Fut w W) => sidedR_any n a ss.length cap d dap zs W (hZ.fut F) hlz (by omega))
    by_cases hs : sdE n zs = 0
    · have ha := sd_good hs
      have hR : cutR n ss zs = listM (cutM ss (setM zs)) := by unfold cutR; rw [hE, if_pos hs]
      have hpre : preM (cutM ss (setM zs)) ss.length = listM (cutM ss (setM zs)) := by
        have := preM_out (cutM ss (setM zs)) ss.length (fun i hi => cutM_out hi) (16 - ss.length)
        rw [show ss.length + (16 - ss.length) = 16 by omega] at this
        exact this.symm
      have HCU := Lib.hid (fun W (F : Fut w W) => cutRx_any n a cap ss d dap zs (setM zs) W (hS.fut F) (hZ.fut F) hlz hl (by omega) hp (fun i _ => setM_bit ha i))
      rw [hpre] at HCU
      rw [hs] at HSD hE
      rw [hE, hR]
      clear h hp hS hZ hs ha hR hpre hE
      generalize listM (cutM ss (setM zs)) = L at *
      go_enter Try.func31, Try.ntmps31
      go_wp2_with fail
      have hB := BoxM.new w n a ss.length cap 28
      have hF : Fut w (w.alloc (.cells #[.int .i64 n, .slice a ss.length cap] 28)) := Fut.alloc _ _
      generalize w.alloc (.cells #[.int .i64 n, .slice a ss.length cap] 28) = W1 at *
      generalize w.heap.size = B at *
      have HB := Lib.hid hB
      have HF := Lib.hid hF
      clear hB hF
      refine (HC.out _ HF.out).mono ?_
      rintro _ w2 ⟨rfl, F2⟩
      have HF2 := Lib.hid (HF.out.trans F2)
      have HB2 := Lib.hid (HB.out.fut F2)
      obtain ⟨hb, b0, b1⟩ := HB2.out
      clear F2
      go_wp2_with fail
      refine (HSD.out _ HF2.out).mono ?_
      rintro _ w3 ⟨rfl, F3⟩
      have HF3 := Lib.hid (HF2.out.trans F3)
      obtain ⟨hb', b0', b1'⟩ := HB2.out.fut F3
      clear hb b0 b1 F3
      go_wp2_with fail
      refine (HCU.out _ HF3.out).mono ?_
      rintro _ w4 ⟨v, rfl, hO, F4⟩
      obtain ⟨l, lc, rfl, hI⟩ := hO.ints
      have HI := Lib.hid hI
      have HF4 := Lib.hid (HF3.out.trans F4)
      clear hb' b0' b1' hO hI F4
      go_wp2
      go_ret2
      exact ⟨l, lc, rfl, HI.out, HF4.out⟩
    · have hR : cutR n ss zs = [] := by unfold cutR; rw [hE, if_neg hs]
      have hne : (sdE n zs != 0) = true := bne_iff_ne.2 hs
      rw [hE, hR]
      clear h hp hS hZ hs hR hE
      generalize sdE n zs = r at *
      go_enter Try.func31, Try.ntmps31
      go_wp2_with fail
      have hB := BoxM.new w n a ss.length cap 28
      have hF : Fut w (w.alloc (.cells #[.int .i64 n, .slice a ss.length cap] 28)) := Fut.alloc _ _
      generalize w.alloc (.cells #[.int .i64 n, .slice a ss.length cap] 28) = W1 at *
      generalize w.heap.size = B at *
      have HB := Lib.hid hB
      have HF := Lib.hid hF
      clear hB hF
      refine (HC.out _ HF.out).mono ?_
      rintro _ w2 ⟨rfl, F2⟩
      have HF2 := Lib.hid (HF.out.trans F2)
      obtain ⟨hb, b0, b1⟩ := HB.out.fut F2
      clear F2
      go_wp2_with fail
      refine (HSD.out _ HF2.out).mono ?_
      rintro _ w3 ⟨rfl, F3⟩
      have HF3 := Lib.hid (HF2.out.trans F3)
      clear hb b0 b1 F3
      go_wp2
      go_ret2
      exact ⟨none, 0, rfl, nil_ints _ _, HF3.out⟩
  · have hE : cutE c ss zs = chkM c ss := by unfold cutE; rw [if_pos h]
    have hR : cutR c ss zs = [] := by unfold cutR; rw [hE, if_neg h]
    have hne : (chkM c ss == 0) = false := beq_eq_false_iff_ne.2 h
    have hne2 : (chkM c ss != 0) = true := bne_iff_ne.2 h
    rw [hE, hR]
    clear h hE hR
    generalize chkM c ss = r at *
    go_enter Try.func31, Try.ntmps31
    go_wp2_with fail
    have hF : Fut w (w.alloc (.cells #[.int .i64 c, .slice a ss.length cap] 28)) := Fut.alloc _ _
    generalize w.alloc (.cells #[.int .i64 c, .slice a ss.length cap] 28) = W1 at *
    generalize w.heap.size = B at *
    have HF := Lib.hid hF
    clear hF
    refine (HC.out _ HF.out).mono ?_
    rintro _ w2 ⟨rfl, F2⟩
    have HF2 := Lib.hid (HF.out.trans F2)
    clear F2
    go_wp2
    go_ret2
    exact ⟨none, 0, rfl, nil_ints _ _, HF2.out⟩
end Go.Proofs.Ytimddkofcejijaa
