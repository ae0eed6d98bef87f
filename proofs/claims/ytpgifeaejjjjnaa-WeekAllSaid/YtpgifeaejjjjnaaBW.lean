/- Layer 3: the reference's checked and Check. -/
import Derived.Test.YtpgifeaejjjjnaaBV
namespace Go.Proofs.Ytpgifeaejjjjnaa
open Go.RowKit Go.Sort
/-- the rows of the reference's checked, each of which should have wd numbers. -/
def rckG (c wd : Int) (all : List (List Int)) : List (List Int) → Nat → Int
  | [], _ => 0
  | l :: t, k => if (l.length : Int) = wd ∧ wd ≤ c then (if amE c (all.take k) l = 0 then rckG c wd all t (k + 1) else amE c (all.take k) l) else 5
def rckE (c wd : Int) (zss : List (List Int)) : Int := if sizeE c zss.length = 0 then rckG c wd zss zss 0 else sizeE c zss.length
set_option maxRecDepth 100000 in
set_option maxHeartbeats 4000000 in
theorem rchecked_any (c wd : Int) (a : Option Addr) (cap : Nat) (zss : List (List Int)) (w : World) (hL : LstC w a zss) (hcap : zss.length ≤ cap) (hcm : cap ≤ 9223372036854775807) :
    Calls Try.prog 78 #[.int .i64 c, .slice a zss.length cap, .int .i64 wd] w fun e w' => e = .returned (.int .i64 (rckE c wd zss)) ∧ Fut w w' := by
  have HI := Lib.hid (fun W => rin_any c 1 5 W)
  unfold rckE
  by_cases hs : sizeE c zss.length = 0
  · rw [if_pos hs]
    obtain ⟨c1, c5, hn⟩ := size_good hs
    have hlx : (zss.length : Int) ≤ 5 := by omega
    have hi1 : (decide (1 ≤ c) && decide (c ≤ 5)) = true := by rw [decide_eq_true c1, decide_eq_true c5]; rfl
    rw [hi1] at HI
    have HL := Lib.hid hL
    have HCP := Lib.hid hcap
    have HCM := Lib.hid hcm
    clear hL hs hi1 hcap hcm
    generalize hE : rckG c wd zss zss 0 = E at *
    have HE := Lib.hid hE
    clear hE
    go_enter Try.func78, Try.ntmps78
    go_wp2_with fail
    refine (HI.out _).mono ?_
    rintro _ _ ⟨rfl, rfl⟩
    go_wp2_with fail
    go_loopw [7] (fun iv wr => ∃ k : Nat, k ≤ zss.length ∧ iv = .int .i64 k ∧ Hid (rckG c wd zss (zss.drop k) k = E) ∧ Hid (∀ j, j < k → ((lth zss j).length : Int) = wd) ∧ Hid (Fut w wr)) (fun iv _ => zss.length - (intOf iv).toNat)
    case atStart => exact ⟨0, Nat.zero_le _, rfl, HE, Lib.hid (fun j hj => absurd hj (by omega)), Lib.hid Fut.rfl⟩
    case round =>
      obtain ⟨k, hk, rfl, HO, HB, HF⟩ := hrel
      by_cases hlt : k < zss.length
      · have hkx : (k : Int) < zss.length := by omega
        obtain ⟨bb, off, l, lc, ea, hbb, d1, hlc, hcc, hI⟩ := HL.out k hlt
        subst ea
        have d2 : wr.cell? ⟨bb, off + k, none⟩ = some (.slice l (lth zss k).length lc) := (RowKit.Below.cell HF.out (p := ⟨bb, off + k, none⟩) hbb).trans d1
        have hd := lth_drop zss k hlt
        rw [hd] at HO
        unfold rckG at HO
        by_cases hlen : ((lth zss k).length : Int) = wd ∧ wd ≤ c
        · rw [if_pos hlen] at HO
          obtain ⟨hq1, hq2⟩ := hlen
          have hll : zss.take k = zss.take k := rfl
          have hnk : (zss.take k).length = k := by rw [List.length_take]; omega
          have HMET := Lib.hid (fun (W : World) (F : Fut w W) (d : Nat) (s : Int) (hd : d < (lth zss k).length) => (by
            have := rmet_any (some ⟨bb, off, none⟩) cap (zss.take k) d s W ((HL.out.fut F).take k).lst (by omega) (fun j hj => by
              rw [hnk] at hj
              rw [lth_take _ _ _ hj]
              have := HB.out j hj
              omega)
            rw [hnk, metB_tkn (fun l hl => by
              obtain ⟨j, hj, rfl⟩ := List.getElem_of_mem hl
              rw [hnk] at hj
              have e : (zss.take k)[j] = lth zss j := by rw [lth_eq, List.getElem_take, List.getElem?_eq_getElem (by omega)]; rfl
              rw [e]
              have := HB.out j hj
              omega)] at this
            exact this : Calls Try.prog 70 #[.slice (some ⟨bb, off, none⟩) k cap, .int .i64 d, .int .i64 s] W fun e w' => e = .returned (.bool (tkn (zss.take k) d s)) ∧ W = w'))
          have HAM : Hid (amE c (zss.take k) (lth zss k) = amG c (zss.take k) (lth zss k) ((lth zss k).drop 0) 0) := Lib.hid rfl
          have HII := Lib.hid hI
          have HB2 : Hid (∀ j, j < k + 1 → ((lth zss j).length : Int) = wd) := Lib.hid (fun j hj => by
            rcases Nat.lt_or_ge j k with h | h
            · exact HB.out j h
            · obtain rfl : j = k := by omega
              exact hq1)
          generalize hzs : lth zss k = zs at *
          have hsl2 := fun W => slice_to22 bb off zss.length cap k (by have := HCP.out; omega) W
          generalize hA : amE c (zss.take k) zs = A at *
          have HAA := Lib.hid hA
          generalize zss.take k = pre at *
          have hz5 : zs.length ≤ 5 := by omega
          clear hd hI hA hzs hll hnk
          subst hq1
          have hwx : (zs.length : Int) ≤ c := hq2
          go_wp2_with fail
          have HCA := Lib.hid (fun (j : Nat) (x : Int) (W : World) (b o : Nat) (h : j < zs.length) (hJ : IntsAt W (some ⟨b, o, none⟩) zs) => (by
            have := rhas_any (some ⟨b, o, none⟩) lc (zs.take j) x W (hJ.take j) (by rw [List.length_take]; omega)
            rw [List.length_take, Nat.min_eq_left (by omega)] at this
            exact this : Calls Try.prog 115 #[.slice (some ⟨b, o, none⟩) j lc, .int .i64 x] W fun e w' => e = .returned (.bool ((zs.take j).contains x)) ∧ W = w'))
          generalize hw1 : wr = w1 at *
          clear hw1
          go_loopw [8] (fun jv wq => ∃ j : Nat, j ≤ zs.length ∧ jv = .int .i64 j ∧ Hid (amG c pre zs (zs.drop j) j = A) ∧ Hid (Fut w1 wq)) (fun jv _ => zs.length - (intOf jv).toNat)
          case atStart => exact ⟨0, Nat.zero_le _, rfl, Lib.hid HAM.out.symm, Lib.hid Fut.rfl⟩
          case round =>
            obtain ⟨j, hj, rfl, HG, HW⟩ := hrel
            have HFW := Lib.hid (HF.out.trans HW.out)
            have d3 : wr.cell? ⟨bb, off + k, none⟩ = some (.slice l zs.length lc) := (RowKit.Below.cell HW.out (p := ⟨bb, off + k, none⟩) (World.block_lt_of_cell? _ _ d2)).trans d2
            by_cases hjl : j < zs.length
            · have hjx : (j : Int) < zs.length := by omega
              have hIW := HII.out.fut HFW.out
              obtain ⟨b2, off2, ea2, hb2, e2⟩ := hIW j hjl
              subst ea2
              have hdj := nth_drop zs j hjl
              rw [hdj] at HG
              have hsl := fun W => slice_to28 b2 off2 zs.length lc j (by omega) W
              have HCJ := Lib.hid (fun q x => HCA.out j x (wr.drewN q) b2 off2 hjl (hIW.fut (Fut.drewN wr q)))
              have HMJ := Lib.hid (fun (W : World) F s => HMET.out W F j s hjl)
              generalize nth zs j = z at *
              have HQ := Lib.hid (rin_any z 0 (c - 1) wr)
              have hin : (decide (0 ≤ z) && decide (z ≤ c - 1)) = inB c z := by unfold inB; rw [Bool.eq_iff_iff]; simp; omega
              rw [hin] at HQ
              clear hdj hIW hin
              unfold amG at HG
              by_cases h1 : inB c z = false
              · rw [if_pos h1] at HG
                rw [h1] at HQ
                have hA : A = 2 := HG.out.symm
                subst hA
                have hE : E = 2 := by have := HO.out; rw [if_neg (by decide)] at this; exact this.symm
                subst hE
                clear h1 hsl hsl2
                go_wp2_with fail
                refine HQ.out.mono ?_
                rintro _ _ ⟨rfl, rfl⟩
                go_wp2
                go_ret
                exact ⟨rfl, HFW.out⟩
              · rw [if_neg h1] at HG
                have h1' : inB c z = true := by simpa using h1
                rw [h1'] at HQ
                clear h1 h1'
                by_cases h2 : (zs.take j).contains z = true
                · rw [if_pos h2] at HG
                  have HXZ := Lib.hid (fun q => HCJ.out q z)
                  rw [h2] at HXZ
                  have hA : A = 6 := HG.out.symm
                  subst hA
                  have hE : E = 6 := by have := HO.out; rw [if_neg (by decide)] at this; exact this.symm
                  subst hE
                  clear h2
                  go_wp2_with fail
                  refine HQ.out.mono ?_
                  rintro _ _ ⟨rfl, rfl⟩
                  go_upto_region 15 with fail
                  go_quiet (first | (go_at_call 115; exact Calls.quiet_of_same ((HXZ.out _).mono fun _ _ ⟨h, h'⟩ => ⟨h, h'.symm⟩)))
                  go_wp2
                  go_ret
                  exact ⟨rfl, HFW.out.trans (Fut.drewN _ _)⟩
                · rw [if_neg h2] at HG
                  have h2' : (zs.take j).contains z = false := by simpa using h2
                  have HXZ := Lib.hid (fun q => HCJ.out q z)
                  rw [h2'] at HXZ
                  clear h2 h2'
                  go_wp2_with fail
                  refine HQ.out.mono ?_
                  rintro _ _ ⟨rfl, rfl⟩
                  go_upto_region 15 with fail
                  go_quiet (first | (go_at_call 115; exact Calls.quiet_of_same ((HXZ.out _).mono fun _ _ ⟨h, h'⟩ => ⟨h, h'.symm⟩)))
                  have hF6 : Fut wr (wr.drewN nq) := Fut.drewN wr nq
                  have d4 : (wr.drewN nq).cell? ⟨bb, off + k, none⟩ = some (.slice (some ⟨b2, off2, none⟩) zs.length lc) := d3
                  have e4 : (wr.drewN nq).cell? ⟨b2, off2 + j, none⟩ = some (.int .i64 z) := e2
                  have HF6 := Lib.hid (HFW.out.trans hF6)
                  have HW6 := Lib.hid (HW.out.trans hF6)
                  clear d3 e2 hF6
                  generalize wr.drewN nq = w6 at *
                  have HMZ := Lib.hid (fun q => HMJ.out (w6.drewN q) (HF6.out.trans (Fut.drewN w6 q)) z)
                  cases htk : tkn pre j z
                  · rw [htk] at HMZ HG
                    simp only [Bool.false_eq_true, if_false] at HG
                    clear htk
                    go_upto_region 17 with fail
                    go_quiet (first | (go_at_call 70; exact Calls.quiet_of_same ((HMZ.out _).mono fun _ _ ⟨h, h'⟩ => ⟨h, h'.symm⟩)))
                    have HW7 := Lib.hid (HW6.out.trans (Fut.drewN w6 nq))
                    clear d4 e4 hsl hsl2
                    generalize w6.drewN nq = w7 at *
                    go_wp2
                    go_round
                    case rel => exact ⟨j + 1, by omega, by go_num, HG, HW7⟩
                    case measure => simp [intOf]; omega
                  · rw [htk] at HMZ HG
                    simp only [if_true] at HG
                    have hA : A = 13 := HG.out.symm
                    subst hA
                    have hE : E = 13 := by have := HO.out; rw [if_neg (by decide)] at this; exact this.symm
                    subst hE
                    clear htk
                    go_upto_region 17 with fail
                    go_quiet (first | (go_at_call 70; exact Calls.quiet_of_same ((HMZ.out _).mono fun _ _ ⟨h, h'⟩ => ⟨h, h'.symm⟩)))
                    have HF7 := Lib.hid (HF6.out.trans (Fut.drewN w6 nq))
                    clear d4 e4 hsl hsl2
                    generalize w6.drewN nq = w7 at *
                    go_wp2
                    go_ret
                    exact ⟨rfl, HF7.out⟩
            · obtain rfl : j = zs.length := by omega
              rw [List.drop_of_length_le (Nat.le_refl _)] at HG
              have hA : A = 0 := HG.out.symm
              subst hA
              rw [if_pos rfl] at HO
              clear hsl2
              go_wp2
              go_round
              case rel => exact ⟨k + 1, by omega, by go_num, HO, HB2, HFW⟩
              case measure => simp [intOf]; omega
        · rw [if_neg hlen] at HO
          have hE : E = 5 := HO.out.symm
          subst hE
          generalize (lth zss k).length = n at *
          clear hd hI
          by_cases hq : (n : Int) = wd
          · have hq' : ¬ wd ≤ c := fun h => hlen ⟨hq, h⟩
            clear hlen
            subst hq
            go_wp2
            go_ret
            exact ⟨rfl, HF.out⟩
          · clear hlen
            go_wp2
            go_ret
            exact ⟨rfl, HF.out⟩
      · obtain rfl : k = zss.length := by omega
        rw [List.drop_of_length_le (Nat.le_refl _)] at HO
        have hE : E = 0 := HO.out.symm
        subst hE
        go_wp2
        go_ret
        exact ⟨rfl, HF.out⟩
  · rw [if_neg hs]
    have hi1 : sizeE c zss.length = (if (decide (1 ≤ c) && decide (c ≤ 5)) = true then 3 else 1) := by
      unfold sizeE at hs ⊢
      by_cases h1 : c < 1 ∨ 5 < c
      · rw [if_pos h1, if_neg (by simp; omega)]
      · rw [if_neg h1] at hs ⊢
        by_cases h2 : c < zss.length
        · rw [if_pos h2, if_pos (by simp; omega)]
        · rw [if_neg h2] at hs; exact absurd rfl hs
    have hi2 : (decide (1 ≤ c) && decide (c ≤ 5)) = true → c < zss.length := fun h => by
      unfold sizeE at hs
      simp at h
      rw [if_neg (by omega)] at hs
      by_cases h2 : c < zss.length
      · exact h2
      · rw [if_neg h2] at hs; exact absurd rfl hs
    rw [hi1]
    clear hL hs hi1 hcap
    generalize (decide (1 ≤ c) && decide (c ≤ 5)) = b at *
    cases b
    · have H2 := Lib.hid hi2
      clear hi2
      go_enter Try.func78, Try.ntmps78
      go_wp2_with fail
      refine (HI.out _).mono ?_
      rintro _ _ ⟨rfl, rfl⟩
      go_wp2
      go_ret
      exact ⟨rfl, Fut.rfl⟩
    · have h2 := hi2 rfl
      clear hi2
      go_enter Try.func78, Try.ntmps78
      go_wp2_with fail
      refine (HI.out _).mono ?_
      rintro _ _ ⟨rfl, rfl⟩
      go_wp2
      go_ret
      exact ⟨rfl, Fut.rfl⟩
theorem rck_chk (c : Int) (zss : List (List Int)) : rckE c c zss = chkE c zss := by
  unfold rckE chkE
  have key : ∀ (t : List (List Int)) (k : Nat), rckG c c zss t k = chG c zss t k := by
    intro t
    induction t with
    | nil => intro k; rfl
    | cons l t ih =>
      intro k
      unfold rckG chG
      rw [ih (k + 1)]
      by_cases h : (l.length : Int) = c
      · rw [if_pos ⟨h, Int.le_refl _⟩, if_pos h]
      · rw [if_neg (fun q => h q.1), if_neg h]
  rw [key]
theorem rck_cor (c : Int) (zss : List (List Int)) : rckE c ((lth zss 0).length : Int) zss = corE c zss := by
  unfold rckE corE
  have key : ∀ (t : List (List Int)) (k : Nat), rckG c ((lth zss 0).length : Int) zss t k = coG c zss t k := by
    intro t
    induction t with
    | nil => intro k; rfl
    | cons l t ih =>
      intro k
      unfold rckG coG
      rw [ih (k + 1)]
      by_cases h : l.length = (lth zss 0).length ∧ (l.length : Int) ≤ c
      · rw [if_pos ⟨by omega, by omega⟩, if_pos h]
      · rw [if_neg (fun q => h ⟨by omega, by omega⟩), if_neg h]
  rw [key]
theorem rcheck_any (c : Int) (a : Option Addr) (cap : Nat) (zss : List (List Int)) (w : World) (hL : LstC w a zss) (hcap : zss.length ≤ cap) (hcm : cap ≤ 9223372036854775807) :
    Calls Try.prog 25 #[.int .i64 c, .slice a zss.length cap] w fun e w' => e = .returned (.int .i64 (chkE c zss)) ∧ Fut w w' := by
  have H := Lib.hid (rchecked_any c c a cap zss w hL hcap hcm)
  rw [rck_chk] at H
  clear hL
  generalize chkE c zss = E at *
  go_enter Try.func25, Try.ntmps25
  go_wp2_with fail
  refine H.out.mono ?_
  rintro _ w1 ⟨rfl, F⟩
  have HF := Lib.hid F
  clear F
  go_wp2
  go_ret
  exact ⟨rfl, HF.out⟩
end Go.Proofs.Ytpgifeaejjjjnaa
