/- Layer 2: the reference's odd corners, Odd and Enough. -/
import Derived.Test.YtimddkofcejijaaSM
namespace Go.Proofs.Ytimddkofcejijaa
open Go.RowKit Go.Sort
theorem setL_bit : ∀ (l : List Int) (o i : Nat), (∀ z ∈ l, 0 ≤ z) → (setL l o).testBit i = (o.testBit i || l.contains (i : Int))
  | [], o, i, _ => by simp [setL]
  | z :: l, o, i, h => by
    unfold setL
    rw [setL_bit l _ i (fun y hy => h y (List.mem_cons_of_mem _ hy)), Nat.testBit_or, Nat.testBit_two_pow, List.contains_cons]
    have hz := h z (List.mem_cons_self ..)
    have e : decide (z.toNat = i) = ((i : Int) == z) := by
      rw [Bool.eq_iff_iff, decide_eq_true_eq, beq_iff_eq]; omega
    rw [e, Bool.or_assoc]
theorem asc_nonneg {n : Int} : ∀ {l : List Int} {p : Int}, ascE n l p = 0 → ∀ z ∈ l, 0 ≤ z ∧ z < n
  | [], _, _, z, hz => by cases hz
  | y :: l, p, h, z, hz => by
    unfold ascE at h
    split at h
    · rename_i h1
      split at h
      · cases h
      · rcases List.mem_cons.1 hz with rfl | hz
        · simpa [inB] using h1
        · exact asc_nonneg h z hz
    · cases h
theorem setM_bit {n : Int} {l : List Int} (h : ascE n l (-1) = 0) (i : Nat) : (setM l).testBit i = l.contains (i : Int) := by
  unfold setM
  rw [setL_bit l 0 i (fun z hz => (asc_nonneg h z hz).1), Nat.zero_testBit, Bool.false_or]
/-- how many streets a corner has, those of a list once more. -/
def cntR (zs : List Int) (c : Nat) : Nat → List (Int × Int) → Nat → Nat
  | _, [], n => n
  | i, p :: l, n => cntR zs c (i + 1) l (if p.1 = (c : Int) ∨ p.2 = (c : Int) then (if zs.contains (i : Int) then n + 2 else n + 1) else n)
theorem parR_one {n : Nat} {x y : Bool} (h : n % 2 = 1 ↔ (x ^^ y) = true) : (n + 1) % 2 = 1 ↔ ((x ^^ true) ^^ y) = true := by
  cases x <;> cases y <;> simp at h ⊢ <;> omega
theorem parR_two {n : Nat} {x y : Bool} (h : n % 2 = 1 ↔ (x ^^ y) = true) : (n + 2) % 2 = 1 ↔ ((x ^^ true) ^^ (y ^^ true)) = true := by
  cases x <;> cases y <;> simp at h ⊢ <;> omega
theorem cntR_par {zs : List Int} {c S L : Nat} (hS : ∀ i, i < L → S.testBit i = zs.contains (i : Int)) : ∀ (l : List (Int × Int)) (i n o1 o2 : Nat), i + l.length ≤ L → (∀ p ∈ l, 0 ≤ p.1 ∧ p.1 < p.2) → (n % 2 = 1 ↔ (o1 ^^^ o2).testBit c = true) → (cntR zs c i l n % 2 = 1 ↔ (oddL (2 ^ L - 1) i l o1 ^^^ oddL S i l o2).testBit c = true)
  | [], _, _, _, _, _, _, h => h
  | p :: l, i, n, o1, o2, hl, hp, h => by
    rw [List.length_cons] at hl
    unfold cntR oddL
    refine cntR_par hS l (i + 1) _ _ _ (by omega) (fun q hq => hp q (List.mem_cons_of_mem _ hq)) ?_
    have h0 := hp p (List.mem_cons_self ..)
    rw [Nat.testBit_two_pow_sub_one, decide_eq_true (by omega), if_pos rfl, hS i (by omega)]
    have hb : (endsM p).testBit c = decide (p.1 = (c : Int) ∨ p.2 = (c : Int)) := by
      rw [ends_bitR, Bool.eq_iff_iff, Bool.or_eq_true, decide_eq_true_eq, decide_eq_true_eq, decide_eq_true_eq]
      omega
    by_cases ht : p.1 = (c : Int) ∨ p.2 = (c : Int)
    · rw [if_pos ht]
      rw [decide_eq_true ht] at hb
      cases zs.contains (i : Int)
      · simp only [Bool.false_eq_true, if_false]
        rw [Nat.testBit_xor, Nat.testBit_xor, hb]
        rw [Nat.testBit_xor] at h
        exact parR_one h
      · simp only [if_true]
        rw [Nat.testBit_xor, Nat.testBit_xor, Nat.testBit_xor, hb]
        rw [Nat.testBit_xor] at h
        exact parR_two h
    · rw [if_neg ht]
      rw [decide_eq_false ht] at hb
      split
      · rw [Nat.testBit_xor, Nat.testBit_xor, Nat.testBit_xor, hb]
        rw [Nat.testBit_xor] at h
        simpa using h
      · rw [Nat.testBit_xor, Nat.testBit_xor, hb]
        rw [Nat.testBit_xor] at h
        simpa using h
theorem cntR_odd {zs : List Int} {c S : Nat} {ss : List (Int × Int)} (hS : ∀ i, i < ss.length → S.testBit i = zs.contains (i : Int)) (hp : ∀ p ∈ ss, 0 ≤ p.1 ∧ p.1 < p.2) : (cntR zs c 0 ss 0 % 2 = 1 ↔ (oddM ss (2 ^ ss.length - 1) ^^^ oddM ss S).testBit c = true) := by
  unfold oddM
  exact cntR_par (L := ss.length) hS ss 0 0 0 0 (by omega) hp (by simp)
set_option maxRecDepth 100000 in
set_option maxHeartbeats 2000000 in
theorem listedR_any (n : Nat) (a : Option Addr) (cap : Nat) (zs : List Int) (w : World) (hA : IntsAt w a zs) (hl : zs.length ≤ 1000) (hn : n ≤ 1000) :
    Calls Try.prog 64 #[.slice a zs.length cap, .int .i64 n] w fun e w' => e = .returned (.int .i64 (ascE n zs (-1))) ∧ Fut w w' := by
  have HA := Lib.hid hA
  have hlx : (zs.length : Int) ≤ 1000 := by omega
  have hnx : (n : Int) ≤ 1000 := by omega
  clear hA
  generalize hE : ascE n zs (-1) = E at *
  have HE := Lib.hid hE
  clear hE
  go_enter Try.func64, Try.ntmps64
  go_wp2_with fail
  go_loopw [5] (fun iv wr => ∃ k : Nat, k ≤ zs.length ∧ iv = .int .i64 k ∧ Hid (ascE n (zs.drop k) (prv zs k) = E) ∧ Hid (Fut w wr)) (fun iv _ => zs.length - (intOf iv).toNat)
  case atStart => exact ⟨0, Nat.zero_le _, rfl, HE, Lib.hid Fut.rfl⟩
  case round =>
    obtain ⟨k, hk, rfl, HP, HR⟩ := hrel
    by_cases hlt : k < zs.length
    · have hkx : (k : Int) < zs.length := by omega
      obtain ⟨b, off, ea, hb, c1⟩ := (HA.out.fut HR.out) k hlt
      have HA2 := Lib.hid ((HA.out.fut HR.out) (k - 1) (by omega))
      subst ea
      have hd := nth_drop zs k hlt
      rw [hd] at HP
      clear hd
      have HI := Lib.hid (fun W => inR_any (nth zs k) n W)
      unfold ascE at HP
      cases hz : inB n (nth zs k)
      · rw [hz] at HI HP
        simp only [Bool.false_eq_true, if_false] at HP
        have hE2 : E = 2 := HP.out.symm
        subst hE2
        clear hz
        go_wp2_with (go_at_call 61; refine (HI.out _).mono ?_; rintro _ _ ⟨rfl, rfl⟩)
        go_ret
        exact ⟨rfl, HR.out⟩
      · rw [hz] at HI HP
        simp only [if_true] at HP
        generalize hzn : nth zs k = z at *
        by_cases hk0 : 0 < k
        · obtain ⟨j, rfl⟩ : ∃ j, k = j + 1 := ⟨k - 1, by omega⟩
          obtain ⟨b', off', ea, _, c2⟩ := HA2.out
          obtain ⟨rfl, rfl⟩ : b = b' ∧ off = off' := by simpa using ea
          rw [Nat.add_sub_cancel] at c2
          have hp2 : Hid (prv zs (j + 1) = nth zs j) := Lib.hid rfl
          rw [hp2.out] at HP
          have hj0 : (0 : Int) < (j : Int) + 1 := by omega
          have hjx : (j : Int) < zs.length := by omega
          have HPN0 : Hid (ascE n (zs.drop (j + 1 + 1)) z = ascE n (zs.drop (j + 1 + 1)) (prv zs (j + 1 + 1))) := Lib.hid (by show _ = ascE n (zs.drop (j + 1 + 1)) (nth zs (j + 1)); rw [hzn])
          clear hp2 HA2 ea hz hzn
          generalize nth zs j = y at *
          go_wp2_with (go_at_call 61; refine (HI.out _).mono ?_; rintro _ _ ⟨rfl, rfl⟩)
          by_cases hle : z ≤ y
          · rw [if_pos hle] at HP
            have hE2 : E = 7 := HP.out.symm
            subst hE2
            go_quiet (fail)
            go_wp2
            go_ret
            exact ⟨rfl, HR.out.trans (Fut.drewN _ _)⟩
          · rw [if_neg hle] at HP
            have HPN : Hid (ascE n (zs.drop (j + 1 + 1)) (prv zs (j + 1 + 1)) = E) := Lib.hid (by rw [← HPN0.out]; exact HP.out)
            clear HP HPN0
            go_quiet (fail)
            go_wp2
            go_roundw
            case rel => exact ⟨j + 1 + 1, by omega, by go_num, HPN, Lib.hid (HR.out.trans (Fut.drewN _ _))⟩
            case measure => simp [intOf]; omega
        · obtain rfl : k = 0 := by omega
          have hzz : 0 ≤ z := by
            have : inB n z = true := hz
            simp [inB] at this; omega
          have hp2 : Hid (prv zs 0 = -1) := Lib.hid rfl
          rw [hp2.out, if_neg (by omega)] at HP
          have HPN : Hid (ascE n (zs.drop (0 + 1)) (prv zs (0 + 1)) = E) := Lib.hid (by
            show ascE n (zs.drop (0 + 1)) (nth zs 0) = E
            rw [hzn]; exact HP.out)
          rw [Nat.add_zero] at c1
          clear hp2 HP hz hzn HA2
          go_wp2_with (go_at_call 61; refine (HI.out _).mono ?_; rintro _ _ ⟨rfl, rfl⟩)
          go_quiet (fail)
          go_wp2
          go_roundw
          case rel => exact ⟨0 + 1, by omega, by go_num, HPN, Lib.hid (HR.out.trans (Fut.drewN _ _))⟩
          case measure => simp [intOf]; omega
    · obtain rfl : k = zs.length := by omega
      rw [List.drop_of_length_le (Nat.le_refl _)] at HP
      have hE2 : E = 0 := HP.out.symm
      subst hE2
      clear HP
      go_wp2
      go_ret
      exact ⟨rfl, HR.out⟩
set_option maxRecDepth 100000 in
set_option maxHeartbeats 4000000 in
/-- the reference's odd corners, some streets once more. -/
theorem oddR_any (c : Nat) (a : Option Addr) (cap : Nat) (ss : List (Int × Int)) (d : Option Addr) (dap : Nat) (zs : List Int) (S : Nat) (w : World) (hSt : StrAt w a ss) (hZ : IntsAt w d zs) (hlz : zs.length ≤ 1000) (hl : ss.length ≤ 9) (hc : c ≤ 6) (hp : ∀ p ∈ ss, 0 ≤ p.1 ∧ p.1 < p.2) (hb : ∀ i, i < ss.length → S.testBit i = zs.contains (i : Int)) :
    Calls Try.prog 57 #[mapV c a ss.length cap, .slice d zs.length dap] w fun e w' => ∃ v, e = .returned v ∧ Owns w' w.heap.size v (preM (oddM ss (2 ^ ss.length - 1) ^^^ oddM ss S) c) ∧ Fut w w' := by
  have HPAR := Lib.hid (fun (k : Nat) => cntR_odd (c := k) hb hp)
  have HZ := Lib.hid hZ
  have HS := Lib.hid hSt
  have hlx : (ss.length : Int) ≤ 9 := by omega
  have hcx : (c : Int) ≤ 6 := by omega
  obtain ⟨i0, hi0, hz0, hz1, hz2⟩ := info_parts info3
  clear hSt hZ hp hb
  generalize oddM ss (2 ^ ss.length - 1) ^^^ oddM ss S = X at *
  go_enter Try.func57, Try.ntmps57
  go_wp2_with fail
  have hB := BoxM.new w c a ss.length cap 28
  have hF : Fut w (w.alloc (.cells #[.int .i64 c, .slice a ss.length cap] 28)) := Fut.alloc _ _
  generalize w.alloc (.cells #[.int .i64 c, .slice a ss.length cap] 28) = W1 at *
  generalize hbw : w.heap.size = B at *
  have HB := Lib.hid hB
  have HF := Lib.hid hF
  have hBW : B ≤ W1.heap.size := Nat.le_of_lt hB.1
  clear hB hF
  go_loopw [5, 6] (fun ov iv wx => ∃ (k : Nat), k ≤ c ∧ iv = .int .i64 k ∧ Hid (Owns wx W1.heap.size ov (preM X k)) ∧ Hid (Fut W1 wx)) (fun _ iv _ => c - (intOf iv).toNat)
  case atStart => exact ⟨0, Nat.zero_le _, rfl, Lib.hid (Owns.nil _ _), Lib.hid Fut.rfl⟩
  case round =>
    obtain ⟨k, hk, rfl, HO, HR⟩ := hrel
    obtain ⟨hb, b0, b1⟩ := HB.out.fut HR.out
    by_cases hlt : k < c
    · have hkx : (k : Int) < c := by omega
      have HPK := Lib.hid (HPAR.out k)
      have HPS := Lib.hid (preM_succ X k)
      have hpl := preM_len X k
      go_wp2_with fail
      generalize hRR : cntR zs k 0 ss 0 = R at *
      go_loop [7, 8] (fun nv iv => ∃ (i n : Nat), i ≤ ss.length ∧ iv = .int .i64 i ∧ nv = .int .i64 n ∧ n ≤ 2 * i ∧ Hid (cntR zs k i (ss.drop i) n = R)) (fun _ iv => ss.length - (intOf iv).toNat)
      case atStart => exact ⟨0, 0, Nat.zero_le _, rfl, rfl, by omega, Lib.hid hRR⟩
      case round =>
        clear hRR
        obtain ⟨i, n, hi, rfl, rfl, hn, HC⟩ := hrel
        have hnx : (n : Int) ≤ 18 := by omega
        by_cases hlt2 : i < ss.length
        · have hix : (i : Int) < ss.length := by omega
          obtain ⟨bb, off, ea, hbb, c1, c2⟩ := ((HS.out.fut HF.out).fut HR.out) i hlt2
          subst ea
          have hd := str_drop ss i hlt2
          rw [hd] at HC
          unfold cntR at HC
          clear hd
          have HH := Lib.hid (hasR_any d dap zs (i : Int) wr ((HZ.out.fut HF.out).fut HR.out) hlz)
          generalize str ss i = p at *
          obtain ⟨x, y⟩ := p
          dsimp only at *
          by_cases ht : x = (k : Int) ∨ y = (k : Int)
          · rw [if_pos ht] at HC
            cases hcz : zs.contains (i : Int)
            · rw [hcz] at HC HH
              simp only [Bool.false_eq_true, if_false] at HC
              by_cases hx : x = (k : Int)
              · subst hx
                clear ht hcz
                go_wp2_with (go_at_call 62; refine HH.out.mono ?_; rintro _ _ ⟨rfl, rfl⟩)
                go_round
                case rel => exact ⟨i + 1, n + 1, by omega, by go_num, by go_num, by omega, HC⟩
                case measure => simp [intOf]; omega
              · have hy : y = (k : Int) := ht.resolve_left hx
                subst hy
                have hxb : (x == (k : Int)) = false := by rw [beq_eq_false_iff_ne]; exact hx
                clear ht hcz
                go_wp2_with (go_at_call 62; refine HH.out.mono ?_; rintro _ _ ⟨rfl, rfl⟩)
                go_round
                case rel => exact ⟨i + 1, n + 1, by omega, by go_num, by go_num, by omega, HC⟩
                case measure => simp [intOf]; omega
            · rw [hcz] at HC HH
              simp only [if_true] at HC
              by_cases hx : x = (k : Int)
              · subst hx
                clear ht hcz
                go_wp2_with (go_at_call 62; refine HH.out.mono ?_; rintro _ _ ⟨rfl, rfl⟩)
                go_round
                case rel => exact ⟨i + 1, n + 2, by omega, by go_num, by go_num, by omega, HC⟩
                case measure => simp [intOf]; omega
              · have hy : y = (k : Int) := ht.resolve_left hx
                subst hy
                have hxb : (x == (k : Int)) = false := by rw [beq_eq_false_iff_ne]; exact hx
                clear ht hcz
                go_wp2_with (go_at_call 62; refine HH.out.mono ?_; rintro _ _ ⟨rfl, rfl⟩)
                go_round
                case rel => exact ⟨i + 1, n + 2, by omega, by go_num, by go_num, by omega, HC⟩
                case measure => simp [intOf]; omega
          · rw [if_neg ht] at HC
            have hxb : (x == (k : Int)) = false := by rw [beq_eq_false_iff_ne]; omega
            have hyb : (y == (k : Int)) = false := by rw [beq_eq_false_iff_ne]; omega
            clear ht HH
            go_wp2
            go_round
            case rel => exact ⟨i + 1, n, by omega, by go_num, by go_num, by omega, HC⟩
            case measure => simp [intOf]; omega
        · obtain rfl : i = ss.length := by omega
          rw [List.drop_of_length_le (Nat.le_refl _)] at HC
          obtain rfl : n = R := HC.out
          clear HC hlt2 hi
          by_cases hpar : n % 2 = 1
          · have hm : (n : Int) % 2 = 1 := by omega
            have hmb : ((n : Int) % 2 == 1) = true := by rw [hm]; rfl
            rw [HPK.out.1 hpar] at HPS
            simp only [if_true] at HPS
            obtain ⟨pn, hpn⟩ : ∃ pn, preM X (k + 1) = pn := ⟨_, rfl⟩
            have HPN := Lib.hid hpn
            rw [hpn] at HPS
            clear hpn hpar HPK hm
            generalize preM X k = pk at *
            go_wp2_with (at_builtin; refine wpList_append_own _ rfl _ _ 25 rfl W1.heap.size 3 i0 (.int .i64 0) 1 8 Try.underlying25 hi0 hz0 hz1 hz2 rfl (by decide) _ _ _ rfl (HO.out.alloc _) ⟨wr.heap.size, 0, none⟩ 1 1 [.int .i64 (k : Int)] rfl rfl ?c1 ?c2 ?c3 ?c4 ?c5 ?_)
            try case c1 => exact World.news_of_block (cs := #[.int .i64 (k : Int)]) (t := 3) (fr := (0, 0)) (heap_alloc_new _ _)
            case c2 => first | rfl | (intro u hu; simp at hu; subst hu; rfl)
            case c3 => unfold maxLen; omega
            case c4 => omega
            case c5 => have := RowKit.Below.size HR.out; simp; omega
            · intro v' w7 hown' hgrow _
              have HO7 : Hid (Owns w7 W1.heap.size v' pn) := Lib.hid (by rw [HPS.out]; unfold Owns; simpa using hown')
              have HF7 : Hid (Fut W1 w7) := Lib.hid ((HR.out.trans (Fut.alloc _ _)).grown' hgrow HO.out (Nat.le_refl _))
              clear hown' hgrow
              go_wp2
              go_roundw
              case rel => exact ⟨k + 1, by omega, by go_num, by rw [HPN.out]; exact HO7, HF7⟩
              case measure => simp [intOf]; omega
          · have hm : (n : Int) % 2 = 0 := by omega
            have hmb : ((n : Int) % 2 == 1) = false := by rw [hm]; rfl
            have hX : X.testBit k = false := by
              cases h : X.testBit k
              · rfl
              · exact absurd (HPK.out.2 h) hpar
            rw [hX] at HPS
            simp only [Bool.false_eq_true, if_false, List.append_nil] at HPS
            rw [← HPS.out] at HO
            clear hpar HPK hm hX HPS
            go_wp2
            go_roundw
            case rel => exact ⟨k + 1, by omega, by go_num, HO, HR⟩
            case measure => simp [intOf]; omega
    · obtain rfl : k = c := by omega
      go_wp2
      go_ret
      exact ⟨_, rfl, HO.out.base (by rw [hbw]; exact hBW), HF.out.trans HR.out⟩
theorem odd_zero : ∀ (ss : List (Int × Int)) (i o : Nat), oddL 0 i ss o = o
  | [], _, _ => rfl
  | p :: l, i, o => by
    unfold oddL
    rw [Nat.zero_testBit]
    exact odd_zero l (i + 1) o
theorem preM_nil {X k : Nat} : (preM X k).length = 0 ↔ ∀ i, i < k → X.testBit i = false := by
  unfold preM
  rw [List.length_map, List.length_eq_zero_iff, List.filter_eq_nil_iff]
  constructor
  · intro h i hi
    have := h i (List.mem_range.2 hi)
    simpa using this
  · intro h i hi
    rw [h i (List.mem_range.1 hi)]; simp
theorem odd_small {ss : List (Int × Int)} {n : Nat} (h : ∀ p ∈ ss, 0 ≤ p.1 ∧ p.1 < p.2 ∧ p.2 < (n : Int)) (s : Nat) : oddM ss s < 2 ^ n := by
  unfold oddM
  have key : ∀ (l : List (Int × Int)) (i o : Nat), (∀ p ∈ l, 0 ≤ p.1 ∧ p.1 < p.2 ∧ p.2 < (n : Int)) → o < 2 ^ n → oddL s i l o < 2 ^ n := by
    intro l
    induction l with
    | nil => exact fun _ _ _ h => h
    | cons p l ih =>
      intro i o hp ho
      unfold oddL
      refine ih _ _ (fun q hq => hp q (List.mem_cons_of_mem _ hq)) ?_
      split
      · exact Nat.xor_lt_two_pow ho (ends_small (hp p (List.mem_cons_self ..)))
      · exact ho
  exact key ss 0 0 h (Nat.two_pow_pos n)
set_option maxRecDepth 100000 in
set_option maxHeartbeats 1000000 in
/-- the reference's Odd. -/
theorem oddRf_any (c : Int) (a : Option Addr) (cap : Nat) (ss : List (Int × Int)) (w : World) (hS : StrAt w a ss) :
    Calls Try.prog 16 #[mapV c a ss.length cap] w (TupL (chkM c ss) (if chkM c ss = 0 then listM (oddM ss (2 ^ ss.length - 1)) else []) w) := by
  have HC := Lib.hid (fun W (F : Fut w W) => checkR_any c a cap ss W (hS.fut F))
  by_cases h : chkM c ss = 0
  · rw [if_pos h]
    rw [h] at HC ⊢
    obtain ⟨hc1, hc6, hl, _, hp, _⟩ := chk_good h
    obtain ⟨n, rfl⟩ := Int.eq_ofNat_of_zero_le (show 0 ≤ c by omega)
    have hsm := odd_small (n := n) hp (2 ^ ss.length - 1)
    have e0 : oddM ss 0 = 0 := odd_zero ss 0 0
    have hL : preM (oddM ss (2 ^ ss.length - 1) ^^^ oddM ss 0) n = listM (oddM ss (2 ^ ss.length - 1)) := by
      rw [e0, Nat.xor_zero]
      have := preM_out (oddM ss (2 ^ ss.length - 1)) n (fun i hi => Nat.testBit_lt_two_pow (Nat.lt_of_lt_of_le hsm (Nat.pow_le_pow_right (by decide) hi))) (16 - n)
      rw [show n + (16 - n) = 16 by omega] at this
      exact this.symm
    have HO := Lib.hid (fun W (F : Fut w W) => oddR_any n a cap ss none 0 [] 0 W (hS.fut F) (nil_ints _ _) (by simp) hl (by omega) (fun p hq => ⟨(hp p hq).1, (hp p hq).2.1⟩) (fun i _ => by simp))
    rw [hL] at HO
    clear h hp hS hL e0 hsm
    generalize listM (oddM ss (2 ^ ss.length - 1)) = L at *
    go_enter Try.func16, Try.ntmps16
    go_wp2_with fail
    have hB := BoxM.new w n a ss.length cap 28
    have hF : Fut w (w.alloc (.cells #[.int .i64 n, .slice a ss.length cap] 28)) := Fut.alloc _ _
    generalize w.alloc (.cells #[.int .i64 n, .slice a ss.length cap] 28) = W1 at *
    generalize w.heap.size = B at *
    have HB := Lib.hid hB
    have HF := Lib.hid hF
    clear hB hF
    refine (HC.out _ HF.out).mono ?_
    rintro _ w2 ⟨rfl, F2⟩
    have HF2 := Lib.hid (HF.out.trans F2)
    obtain ⟨hb, b0, b1⟩ := HB.out.fut F2
    clear F2
    go_wp2_with fail
    refine (HO.out _ HF2.out).mono ?_
    rintro _ w3 ⟨v, rfl, hO, F3⟩
    obtain ⟨l, lc, rfl, hI⟩ := hO.ints
    have HI := Lib.hid hI
    have HF3 := Lib.hid (HF2.out.trans F3)
    clear hb b0 b1 hO hI F3
    go_wp2
    go_ret2
    exact ⟨l, lc, rfl, HI.out, HF3.out⟩
  · rw [if_neg h]
    have hne : (chkM c ss != 0) = true := bne_iff_ne.2 h
    clear h
    generalize chkM c ss = r at *
    go_enter Try.func16, Try.ntmps16
    go_wp2_with fail
    have hF : Fut w (w.alloc (.cells #[.int .i64 c, .slice a ss.length cap] 28)) := Fut.alloc _ _
    generalize w.alloc (.cells #[.int .i64 c, .slice a ss.length cap] 28) = W1 at *
    generalize w.heap.size = B at *
    have HF := Lib.hid hF
    clear hF
    refine (HC.out _ HF.out).mono ?_
    rintro _ w2 ⟨rfl, F2⟩
    have HF2 := Lib.hid (HF.out.trans F2)
    clear F2
    go_wp2
    go_ret2
    exact ⟨none, 0, rfl, nil_ints _ _, HF2.out⟩
set_option maxRecDepth 100000 in
set_option maxHeartbeats 2000000 in
/-- the reference's Enough. -/
theorem enoughR_any (c : Int) (a : Option Addr) (cap : Nat) (ss : List (Int × Int)) (d : Option Addr) (dap : Nat) (zs : List Int) (w : World) (hS : StrAt w a ss) (hZ : IntsAt w d zs) (hlz : zs.length ≤ 1000) :
    Calls Try.prog 21 #[mapV c a ss.length cap, .slice d zs.length dap] w (PostC (twE c ss zs) w) := by
  have HC := Lib.hid (fun W (F : Fut w W) => checkR_any c a cap ss W (hS.fut F))
  by_cases h : chkM c ss = 0
  · rw [h] at HC
    obtain ⟨hc1, hc6, hl, _, hp, _⟩ := chk_good h
    obtain ⟨n, rfl⟩ := Int.eq_ofNat_of_zero_le (show 0 ≤ c by omega)
    have HL := Lib.hid (fun W (F : Fut w W) => listedR_any ss.length d dap zs W (hZ.fut F) hlz (by omega))
    by_cases ha : ascE ss.length zs (-1) = 0
    · rw [ha] at HL
      have HO := Lib.hid (fun W (F : Fut w W) => oddR_any n a cap ss d dap zs (setM zs) W (hS.fut F) (hZ.fut F) hlz hl (by omega) (fun p hq => ⟨(hp p hq).1, (hp p hq).2.1⟩) (fun i _ => setM_bit ha i))
      have hT : twE n ss zs = if enoughB ss (setM zs) then 0 else 14 := by unfold twE; rw [h, ha]; simp
      have HT : Hid ((enoughB ss (setM zs) = true → twE n ss zs = 0) ∧ (enoughB ss (setM zs) = false → twE n ss zs = 14)) := Lib.hid ⟨fun e => by rw [hT, if_pos e], fun e => by rw [hT, e]; rfl⟩
      generalize twE n ss zs = r at *
      have h1 := odd_small (n := n) hp (2 ^ ss.length - 1)
      have h2 := odd_small (n := n) hp (setM zs)
      have HE : Hid (enoughB ss (setM zs) = true ↔ (preM (oddM ss (2 ^ ss.length - 1) ^^^ oddM ss (setM zs)) n).length = 0) := Lib.hid (by
        unfold enoughB
        rw [beq_iff_eq, preM_nil]
        constructor
        · intro e i _; rw [e, Nat.xor_self, Nat.zero_testBit]
        · intro e
          refine Nat.eq_of_testBit_eq fun i => ?_
          rcases Nat.lt_or_ge i n with hi | hi
          · have := e i hi
            rw [Nat.testBit_xor] at this
            revert this
            cases (oddM ss (2 ^ ss.length - 1)).testBit i <;> cases (oddM ss (setM zs)).testBit i <;> simp
          · rw [Nat.testBit_lt_two_pow (Nat.lt_of_lt_of_le h1 (Nat.pow_le_pow_right (by decide) hi)), Nat.testBit_lt_two_pow (Nat.lt_of_lt_of_le h2 (Nat.pow_le_pow_right (by decide) hi))])
      have hpl := preM_len (oddM ss (2 ^ ss.length - 1) ^^^ oddM ss (setM zs)) n
      clear hS hZ hp h h1 h2 hT ha
      generalize preM (oddM ss (2 ^ ss.length - 1) ^^^ oddM ss (setM zs)) n = L at *
      generalize enoughB ss (setM zs) = b at *
      go_enter Try.func21, Try.ntmps21
      go_wp2_with fail
      have hB := BoxM.new w n a ss.length cap 28
      have hF : Fut w (w.alloc (.cells #[.int .i64 n, .slice a ss.length cap] 28)) := Fut.alloc _ _
      generalize w.alloc (.cells #[.int .i64 n, .slice a ss.length cap] 28) = W1 at *
      generalize w.heap.size = B at *
      have HB := Lib.hid hB
      have HF := Lib.hid hF
      clear hB hF
      refine (HC.out _ HF.out).mono ?_
      rintro _ w2 ⟨rfl, F2⟩
      have HF2 := Lib.hid (HF.out.trans F2)
      have HB2 := Lib.hid (HB.out.fut F2)
      obtain ⟨hb, b0, b1⟩ := HB2.out
      clear F2
      go_wp2_with fail
      refine (HL.out _ HF2.out).mono ?_
      rintro _ w3 ⟨rfl, F3⟩
      have HF3 := Lib.hid (HF2.out.trans F3)
      obtain ⟨hb', b0', b1'⟩ := HB2.out.fut F3
      clear hb b0 b1 F3
      go_wp2_with fail
      refine (HO.out _ HF3.out).mono ?_
      rintro _ w4 ⟨v, rfl, hO, F4⟩
      have HF4 := Lib.hid (HF3.out.trans F4)
      obtain ⟨l, lc, rfl, _⟩ := hO.ints
      clear hO F4 hb' b0' b1'
      by_cases hL : L.length = 0
      · have hb1 : b = true := HE.out.2 hL
        have hr := HT.out.1 hb1
        subst hr
        have hLx : ¬ (0 : Int) < L.length := by omega
        go_wp2
        go_ret
        exact ⟨rfl, HF4.out⟩
      · have hb1 : b = false := by
          cases b
          · rfl
          · exact absurd (HE.out.1 rfl) hL
        have hr := HT.out.2 hb1
        subst hr
        have hLx : (0 : Int) < L.length := by omega
        go_wp2
        go_ret
        exact ⟨rfl, HF4.out⟩
    · have hT : twE n ss zs = ascE ss.length zs (-1) := by unfold twE; rw [h]; simp [ha]
      rw [hT]
      have hne : (ascE ss.length zs (-1) == 0) = false := beq_eq_false_iff_ne.2 ha
      clear hS hZ hp h hT ha
      generalize ascE ss.length zs (-1) = r at *
      go_enter Try.func21, Try.ntmps21
      go_wp2_with fail
      have hB := BoxM.new w n a ss.length cap 28
      have hF : Fut w (w.alloc (.cells #[.int .i64 n, .slice a ss.length cap] 28)) := Fut.alloc _ _
      generalize w.alloc (.cells #[.int .i64 n, .slice a ss.length cap] 28) = W1 at *
      generalize w.heap.size = B at *
      have HB := Lib.hid hB
      have HF := Lib.hid hF
      clear hB hF
      refine (HC.out _ HF.out).mono ?_
      rintro _ w2 ⟨rfl, F2⟩
      have HF2 := Lib.hid (HF.out.trans F2)
      obtain ⟨hb, b0, b1⟩ := HB.out.fut F2
      clear F2
      go_wp2_with fail
      refine (HL.out _ HF2.out).mono ?_
      rintro _ w3 ⟨rfl, F3⟩
      have HF3 := Lib.hid (HF2.out.trans F3)
      clear hb b0 b1 F3
      go_wp2
      go_ret
      exact ⟨rfl, HF3.out⟩
  · have hT : twE c ss zs = chkM c ss := by unfold twE; rw [if_pos h]
    rw [hT]
    have hne : (chkM c ss == 0) = false := beq_eq_false_iff_ne.2 h
    clear h hT
    generalize chkM c ss = r at *
    go_enter Try.func21, Try.ntmps21
    go_wp2_with fail
    have hF : Fut w (w.alloc (.cells #[.int .i64 c, .slice a ss.length cap] 28)) := Fut.alloc _ _
    generalize w.alloc (.cells #[.int .i64 c, .slice a ss.length cap] 28) = W1 at *
    generalize w.heap.size = B at *
    have HF := Lib.hid hF
    clear hF
    refine (HC.out _ HF.out).mono ?_
    rintro _ w2 ⟨rfl, F2⟩
    have HF2 := Lib.hid (HF.out.trans F2)
    clear F2
    go_wp2
    go_ret
    exact ⟨rfl, HF2.out⟩
end Go.Proofs.Ytimddkofcejijaa
