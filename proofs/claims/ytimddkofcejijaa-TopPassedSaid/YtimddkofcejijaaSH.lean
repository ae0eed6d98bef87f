/- Layer 2: the text of RoundCounted. -/
import Derived.Test.YtimddkofcejijaaSG
namespace Go.Proofs.Ytimddkofcejijaa
open Go.RowKit Go.Sort
theorem odd_eq {o p : Nat} : ((o : Int) == (p : Int)) = (o == p) := by
  rw [Bool.eq_iff_iff, beq_iff_eq, beq_iff_eq]; omega
set_option maxRecDepth 100000 in
set_option maxHeartbeats 4000000 in
theorem counted_any (t : Nat → Int) (w : World) (ht : tOk t) : Calls Try.prog 7 #[tV t] w fun e w' => e = .returned (.bool true) ∧ Fut w w' := by
  go_enter Try.func7, Try.ntmps7
  go_upto_region 1 with fail
  have hF : Fut w (w.alloc (.cells (tC t) 60)) := Fut.alloc _ _
  have hB : (w.alloc (.cells (tC t) 60)).heap[w.heap.size]? = some (.cells (tC t) 60 (0, 0)) := heap_alloc_new _ _
  generalize w.alloc (.cells (tC t) 60) = W1 at *
  refine wp_region_lit ?_
  refine wpList_load_row rfl 60 (.tmp 1) rfl w.heap.size rfl 60 (tC t) (0, 0) _ hB Try.underlying60 rfl (by kernel_rfl) ?_
  go_wp2_with fail
  refine (made_any t 6 9 W1 ht (by decide) (by decide)).mono ?_
  rintro _ w1 ⟨n, ss, l, lc, rfl, hS, F, hn1, hn6, hM, h9⟩
  have HF1 := Lib.hid (hF.trans F)
  clear hF F hB ht
  clear W1
  go_upto_region 3 with fail
  generalize tC t = TC at *
  generalize (⟨w.heap.size, 0, none⟩ : Addr) = BA at *
  have hchk := made_chk hn1 hn6 hM h9
  obtain ⟨hcnt, hcl⟩ := made_count hn1 (by omega) hM
  have hmem := made_mem hn1 hM
  have hp := (chk_good hchk).2.2.2.1
  have hE1 : countR n ss = (cntM ss (2 ^ ss.length) : Int) := by unfold countR; rw [if_pos hchk]
  have hR1 : fewR n ss = fewM ss := by unfold fewR; rw [if_pos hchk]
  have hCT := fun (W : World) (F : Fut w1 W) => count_any n l lc ss W (hS.fut F)
  have hFW := fun (W : World) (F : Fut w1 W) => fewest_any n l lc ss W (hS.fut F)
  rw [hE1, hchk] at hCT
  rw [hR1, hchk] at hFW
  have HEV := Lib.hid (fun (W : World) => every_any n l ss.length lc W (by omega))
  have HOD := Lib.hid (fun (s : Nat) (h : s < 65536) (W : World) (F : Fut w1 W) => oddlaw_any n l lc ss s W (hS.fut F) (by omega) hp (fun p hp => by have := hmem p hp; omega) h)
  have HEQ : Hid (∀ s, enoughB ss s = ((oddM ss s : Int) == (oddM ss (2 ^ ss.length - 1) : Int))) := Lib.hid (fun s => by rw [odd_eq]; rfl)
  have hEB : cntM ss (2 ^ ss.length) = (List.range' 0 (2 ^ ss.length - 0)).countP fun s => enoughB ss s := by unfold cntM; rw [List.range_eq_range']; simp
  obtain ⟨S, hSl, hSe, hSB, hSm⟩ := few_set ss
  rw [hSe] at hFW
  have HSM := Lib.hid hSm
  have HSB := Lib.hid hSB
  have HSL := Lib.hid hSl
  have hml := mask_le h9
  have h1p := Nat.one_le_two_pow (n := ss.length)
  have hmm : 2 ^ ss.length = (2 ^ ss.length - 1) + 1 := by omega
  clear hchk hp hE1 hR1 hSe hSB hSl hSm
  obtain ⟨m, hm⟩ : ∃ m, m = 2 ^ ss.length - 1 := ⟨_, rfl⟩
  have HMM := Lib.hid hm
  rw [← hm] at hmm HEV HEQ hml
  rw [hmm] at hEB hCT hcnt
  clear hm
  generalize cntM ss (m + 1) = E at *
  have HE := Lib.hid (show 0 + (List.range' 0 (m + 1 - 0)).countP (fun s => enoughB ss s) = E by rw [Nat.zero_add]; exact hEB.symm)
  have HCT := Lib.hid hCT
  have HFW := Lib.hid hFW
  have HS := Lib.hid hS
  have HMEM := Lib.hid hmem
  have HCN := Lib.hid hcnt
  have hMx : (m : Int) < 512 := by omega
  clear hEB hmm h1p hCT hFW hS hM hmem hcnt
  have hB := BoxM.new w1 n l ss.length lc 24
  have hF : Fut w1 (w1.alloc (.cells #[.int .i64 n, .slice l ss.length lc] 24)) := Fut.alloc _ _
  generalize w1.alloc (.cells #[.int .i64 n, .slice l ss.length lc] 24) = W2 at *
  generalize w1.heap.size = B at *
  have HB := Lib.hid hB
  have HF := Lib.hid hF
  obtain ⟨hb, b0, b1⟩ := hB
  clear hF
  go_wp2_with fail
  refine (HEV.out _).mono ?_
  rintro _ w2 ⟨rfl, F⟩
  have HF2 := Lib.hid (HF.out.trans F)
  have HB2 := Lib.hid (HB.out.fut F)
  clear hb b0 b1 F
  go_wp2_with fail
  go_loopw [4, 22] (fun nv iv wr => ∃ (k n' : Nat), k ≤ m + 1 ∧ iv = .int .u64 k ∧ nv = .int .i64 n' ∧ n' ≤ k ∧ Hid (n' + (List.range' k (m + 1 - k)).countP (fun s => enoughB ss s) = E) ∧ Hid (Fut w2 wr)) (fun _ iv _ => m + 1 - (intOf iv).toNat)
  case atStart => exact ⟨0, 0, Nat.zero_le _, rfl, rfl, Nat.le_refl _, HE, Lib.hid Fut.rfl⟩
  case round =>
    obtain ⟨k, n', hk, rfl, rfl, hn', HO, HR⟩ := hrel
    obtain ⟨hb, b0, b1⟩ := HB2.out.fut HR.out
    by_cases hlt : k < m + 1
    · have hkx : (k : Int) < (m : Int) + 1 := by omega
      have hnx : (n' : Int) ≤ k := by omega
      have hs := range_step hlt
      rw [hs, List.countP_cons, HEQ.out k] at HO
      obtain ⟨m0, m1⟩ := HB2.out.after HR.out
      have HFD := Lib.hid (HF2.out.trans HR.out)
      clear hs
      cases hq : ((oddM ss k : Int) == (oddM ss m : Int))
      · rw [hq] at HO
        simp only [Bool.false_eq_true, if_false, Nat.add_zero] at HO
        go_wp2_with fail
        refine region_fut (by kernel_rfl) (by kernel_rfl) ?_
        repeat (go_big_quiet_step (first
          | (go_at_call 40; exact after_of (HEV.out _))
          | (go_at_call 41; rename_i p; exact after_of (HOD.out _ (by omega) _ (HFD.out.trans p.F)))))
        refine wpQuiet_nil ?_
        intro _ hw'
        obtain ⟨⟨wq, Fq⟩, rfl⟩ := hw'
        clear m0 m1 hb b0 b1
        have HRA := Lib.hid (HR.out.trans Fq)
        clear Fq
        go_wp2
        go_roundw
        case rel => exact ⟨k + 1, n', by omega, by go_num, rfl, by omega, HO, HRA⟩
        case measure => simp [intOf]; omega
      · rw [hq] at HO
        simp only [if_true] at HO
        have HO2 : Hid ((n' + 1) + (List.range' (k + 1) (m + 1 - (k + 1))).countP (fun s => enoughB ss s) = E) := Lib.hid (by rw [← HO.out]; omega)
        go_wp2_with fail
        refine region_fut (by kernel_rfl) (by kernel_rfl) ?_
        repeat (go_big_quiet_step (first
          | (go_at_call 40; exact after_of (HEV.out _))
          | (go_at_call 41; rename_i p; exact after_of (HOD.out _ (by omega) _ (HFD.out.trans p.F)))))
        refine wpQuiet_nil ?_
        intro _ hw'
        obtain ⟨⟨wq, Fq⟩, rfl⟩ := hw'
        clear m0 m1 hb b0 b1
        have HRA := Lib.hid (HR.out.trans Fq)
        clear Fq
        go_wp2
        go_roundw
        case rel => exact ⟨k + 1, n' + 1, by omega, by go_num, by go_num, by omega, HO2, HRA⟩
        case measure => simp [intOf]; omega
    · obtain rfl : k = m + 1 := by omega
      rw [Nat.sub_self] at HO
      have hE : n' = E := HO.out
      subst hE
      have hkx : ¬ ((m + 1 : Nat) : Int) < (m : Int) + 1 := by omega
      have HW := Lib.hid (HF2.out.trans HR.out)
      go_wp2_with fail
      refine (HCT.out _ HW.out).mono ?_
      rintro _ w3 ⟨rfl, F⟩
      have HW3 := Lib.hid (HW.out.trans F)
      have HB3 := Lib.hid ((HB2.out.fut HR.out).fut F)
      clear hb b0 b1 F
      obtain ⟨hb, b0, b1⟩ := HB3.out
      go_wp2_with fail
      refine (HFW.out _ HW3.out).mono ?_
      rintro _ w4 ⟨la, lac, rfl, hI, F⟩
      have HI := Lib.hid hI
      have HW4 := Lib.hid (HW3.out.trans F)
      have HB4 := Lib.hid (HB3.out.fut F)
      clear hb b0 b1 F hI
      obtain ⟨hb, b0, b1⟩ := HB4.out
      have HNC : Hid ((2 : Int) ^ (ss.length + 1 - n) = (n' : Int)) := Lib.hid (by rw [HCN.out]; simp)
      have hdx : ((ss.length : Int) - n + 1) = ((ss.length + 1 - n : Nat) : Int) := by omega
      have hd9 : ss.length + 1 - n ≤ 9 := by omega
      generalize hDD : ss.length + 1 - n = DD at *
      have hnw : ((n' : Int) != wrap64 (2 ^ DD)) = false := by
        rw [HNC.out]
        have h1 : wrap64 (n' : Int) = n' := by unfold wrap64; omega
        rw [h1, bne_self_eq_false]
      go_upto_region 14 with fail
      clear hnw hDD hdx hd9 hb b0 b1
      have hO : Owns (w4.alloc (.cells #[.int .i64 0, .int .i64 1, .int .i64 2, .int .i64 3, .int .i64 4, .int .i64 5] 3)) w4.heap.size (.slice (some ⟨w4.heap.size, 0, none⟩) 6 6) [0, 1, 2, 3, 4, 5] :=
        World.ownsRow_lit (base := w4.heap.size) (e := 3) (size := 1) w4 #[.int .i64 0, .int .i64 1, .int .i64 2, .int .i64 3, .int .i64 4, .int .i64 5] 6 (Nat.le_refl _) (by unfold maxLen; omega) rfl
      have hF5 : Fut w4 (w4.alloc (.cells #[.int .i64 0, .int .i64 1, .int .i64 2, .int .i64 3, .int .i64 4, .int .i64 5] 3)) := Fut.alloc _ _
      generalize w4.alloc (.cells #[.int .i64 0, .int .i64 1, .int .i64 2, .int .i64 3, .int .i64 4, .int .i64 5] 3) = w5 at *
      have HGW : Hid (w4.heap.size ≤ w4.heap.size) := Lib.hid (Nat.le_refl _)
      obtain ⟨G, hG⟩ : ∃ G, G = w4.heap.size := ⟨_, rfl⟩
      rw [← hG] at hO
      rw [← hG]
      have HG := Lib.hid hG
      clear hG HGW
      have HO5 := Lib.hid hO
      have HF5 := Lib.hid hF5
      have HL0 := Lib.hid (lab_zero ss S)
      have HNT := Lib.hid (nth_list S)
      have hMl := list_le S
      have HLE := Lib.hid (list_len S)
      have HIS : Hid (∀ i, S.testBit i = true → i < ss.length) := Lib.hid (fun i hi => by
        rcases Nat.lt_or_ge i ss.length with h | h
        · exact h
        · rw [Nat.testBit_lt_two_pow (Nat.lt_of_lt_of_le HSL.out (Nat.pow_le_pow_right (by decide) h))] at hi; cases hi)
      generalize hMM : listM S = M at *
      have HMS := Lib.hid hMM
      have hmx : (M.length : Int) ≤ 16 := by omega
      clear hO hF5 hMM
      go_wp2_with fail
      go_loopw [72] (fun iv wr => ∃ (k : Nat) (L : List Int), k ≤ M.length ∧ iv = .int .i64 k ∧ Hid (LabP ss S k L) ∧ Hid (Owns wr G (.slice (some ⟨G, 0, none⟩) 6 6) L) ∧ Hid (Fut w4 wr)) (fun iv _ => M.length - (intOf iv).toNat)
      case atStart => exact ⟨0, _, Nat.zero_le _, rfl, HL0, HO5, HF5⟩
      case round =>
        clear HO HR
        obtain ⟨k, L, hk, rfl, HLP, HOW, HR⟩ := hrel
        have HBR := Lib.hid (HB4.out.fut HR.out)
        obtain ⟨hb, b0, b1⟩ := HBR.out
        by_cases hlt : k < M.length
        · have hkx : (k : Int) < M.length := by omega
          obtain ⟨bb, off, ea, hbb, d1⟩ := (HI.out.fut HR.out) k hlt
          subst ea
          obtain ⟨i, hi, _, hbit, hget⟩ := HNT.out k hlt
          have hil := HIS.out i hbit
          rw [hi] at d1
          have hilx : (i : Int) < ss.length := by omega
          obtain ⟨sb, soff, ea, hsb, s1, s2⟩ := ((HS.out.fut HW4.out).fut HR.out) i hil
          have hmm := HMEM.out (str ss i) (by rw [str_eq, List.getElem?_eq_getElem hil]; exact List.getElem_mem hil)
          obtain ⟨u, v, hstr⟩ : ∃ u v : Nat, str ss i = ((u : Int), (v : Int)) := ⟨(str ss i).1.toNat, (str ss i).2.toNat, by ext <;> simp <;> omega⟩
          rw [hstr] at s1 s2 hmm
          dsimp only at s1 s2 hmm
          have hu6 : u < 6 := by omega
          have hv6 : v < 6 := by omega
          have huv : u ≠ v := by omega
          have hux : (u : Int) < 6 := by omega
          have hvx : (v : Int) < 6 := by omega
          have hne := lab_ne HLP.out (by rw [HMS.out]; exact HSM.out) HSL.out HSB.out hget hil h9 hu6 hv6 huv hstr
          have HST := Lib.hid (lab_step HLP.out hget hil hu6 hv6 huv hstr)
          have HL6 := Lib.hid HLP.out.1
          obtain ⟨e1, e2, e3⟩ := own_at HOW.out HL6.out u hu6
          obtain ⟨f1, _, _⟩ := own_at HOW.out HL6.out v hv6
          generalize hla : nth L u = la' at *
          generalize hlb : nth L v = lb' at *
          have hneb : (la' == lb') = false := by rw [beq_eq_false_iff_ne]; exact hne
          clear hget hbit hi hstr hmm hla hlb hne e2
          subst ea
          go_wp2_with fail
          go_quiet (fail)
          have HR6 : Hid (Fut w4 (wr.drewN nq)) := Lib.hid (HR.out.trans (Fut.drewN _ _))
          have HO6 := Lib.hid (HOW.out.fut (Fut.drewN wr nq))
          generalize wr.drewN nq = w6 at *
          have HGS : Hid (w4.heap.size ≤ G) := Lib.hid (Nat.le_of_eq HG.out.symm)
          clear hb b0 b1 s1 s2 e1 e3 f1 d1 hbb hsb HOW HR HBR
          go_wp2_with fail
          go_loopw [108] (fun iv wr => ∃ (c : Nat), c ≤ 6 ∧ iv = .int .i64 c ∧ Hid (Owns wr G (.slice (some ⟨G, 0, none⟩) 6 6) (relP la' lb' L c)) ∧ Hid (Fut w4 wr)) (fun iv _ => 6 - (intOf iv).toNat)
          case atStart => exact ⟨0, by omega, rfl, HO6, HR6⟩
          case round =>
            obtain ⟨c, hc, rfl, HOR, HRR⟩ := hrel
            by_cases hcl6 : c < 6
            · have hcx : (c : Int) < 6 := by omega
              have HPL : Hid ((relP la' lb' L c).length = 6) := Lib.hid (by rw [relP_len, HL6.out])
              obtain ⟨g1, g2, g3⟩ := own_at HOR.out HPL.out c hcl6
              rw [relP_nth la' lb' L c (by rw [HL6.out]; exact hcl6)] at g1
              have HPS := Lib.hid (relP_step la' lb' L c (by rw [HL6.out]; exact hcl6))
              by_cases hx : nth L c = la'
              · have hxb : (nth L c == la') = true := by rw [beq_iff_eq]; exact hx
                rw [if_pos hx] at HPS
                have HO7 : Hid (Owns (wr.setCell ⟨G, c, none⟩ (.int .i64 lb')) G (.slice (some ⟨G, 0, none⟩) 6 6) (relP la' lb' L (c + 1))) := Lib.hid (by rw [HPS.out]; exact own_set HOR.out HPL.out c lb')
                have HR7 : Hid (Fut w4 (wr.setCell ⟨G, c, none⟩ (.int .i64 lb'))) := Lib.hid (HRR.out.trans' ((RowKit.Below.refl G wr).setCell (p := ⟨G, c, none⟩) (Nat.le_refl _) _) HGS.out)
                generalize nth L c = x at *
                clear hx HPS
                go_wp2
                go_roundw
                case rel => exact ⟨c + 1, by omega, by go_num, HO7, HR7⟩
                case measure => simp [intOf]; omega
              · have hxb : (nth L c == la') = false := by rw [beq_eq_false_iff_ne]; exact hx
                rw [if_neg hx] at HPS
                have HO7 : Hid (Owns wr G (.slice (some ⟨G, 0, none⟩) 6 6) (relP la' lb' L (c + 1))) := Lib.hid (by
                  rw [HPS.out]
                  have e : (relP la' lb' L c).set c (nth L c) = relP la' lb' L c := by
                    refine List.ext_getElem (by rw [List.length_set]) fun j h1 h2 => ?_
                    rw [List.getElem_set]
                    split
                    · rename_i hj
                      subst hj
                      have := relP_nth la' lb' L c (by rw [HL6.out]; exact hcl6)
                      rw [nth_eq, List.getElem?_eq_getElem h2] at this
                      exact this.symm
                    · rfl
                  rw [e]; exact HOR.out)
                generalize nth L c = x at *
                clear hx HPS
                go_wp2
                go_roundw
                case rel => exact ⟨c + 1, by omega, by go_num, HO7, HRR⟩
                case measure => simp [intOf]; omega
            · obtain rfl : c = 6 := by omega
              rw [relP_all la' lb' L 6 (by rw [HL6.out]; exact Nat.le_refl _)] at HOR
              go_wp2
              go_roundw
              case rel => exact ⟨k + 1, _, by omega, by go_num, HST, HOR, HRR⟩
              case measure => simp [intOf]; omega
        · obtain rfl : k = M.length := by omega
          have HWW := Lib.hid ((HF1.out.trans HW4.out).trans HR.out)
          go_wp2_with fail
          refine (works_any _).mono ?_
          rintro _ w7 ⟨rfl, F⟩
          have HW7 := Lib.hid (HWW.out.trans F)
          clear hb b0 b1 F
          go_wp2
          go_ret
          exact ⟨rfl, HW7.out⟩
end Go.Proofs.Ytimddkofcejijaa
