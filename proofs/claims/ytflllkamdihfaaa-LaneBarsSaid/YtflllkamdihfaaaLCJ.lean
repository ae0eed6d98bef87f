/- the reference's Bar 38, Proves 40 -/
import Derived.Test.YtflllkamdihfaaaLCI
import Derived.Test.YtflllkamdihfaaaLX
import Derived.Test.YtflllkamdihfaaaLY
import Derived.Test.YtflllkamdihfaaaLAG
namespace Go.Proofs.Ytflllkamdihfaaa
open Go.RowKit Go.Sort
set_option maxRecDepth 100000 in
set_option maxHeartbeats 8000000 in
theorem rbar_any (r c : Int) (a : Option Addr) (cap : Nat) (S : List Int) (ya : Option Addr) (yc : Nat) (Y : List Int) (ta : Option Addr) (tc : Nat) (T : List Int) (w : World) (h : InPQ w a S ya yc Y ta tc T) :
    Calls Try.prog 38 #[parV r c a S.length cap, plaV ya Y.length yc ta T.length tc] w (TupI (brE r c S Y T) (brR r c S Y T) w) := by
  have hA : Fut w ((w.alloc (.cells #[.int .i64 r, .int .i64 c, .slice a S.length cap] 29)).alloc (.cells #[.slice ya Y.length yc, .slice ta T.length tc] 30)) := (Fut.alloc _ _).trans (Fut.alloc _ _)
  have hBP := (BoxR.new w r c a S.length cap).fut (Fut.alloc _ (.cells #[.slice ya Y.length yc, .slice ta T.length tc] 30))
  have hBQ := BoxT.new (w.alloc (.cells #[.int .i64 r, .int .i64 c, .slice a S.length cap] 29)) ya Y.length yc ta T.length tc
  rw [World.size_alloc] at hBQ
  have HCK := Lib.hid (fun W (F : Fut w W) => rchk_any r c a cap S ya yc Y ta tc T W (h.fut F))
  have HA := Lib.hid hA
  have HBP := Lib.hid hBP
  have HBQ := Lib.hid hBQ
  have HIN := Lib.hid h
  obtain ⟨_, p0, p1, p2⟩ := hBP
  obtain ⟨_, q0, q1⟩ := hBQ
  have HE : Hid (brE r c S Y T = if chkP r c S Y T = 0 then (if (brO r c S Y T).isSome = true then 0 else 13) else chkP r c S Y T) := Lib.hid rfl
  have HR : Hid (brR r c S Y T = if chkP r c S Y T = 0 then (brO r c S Y T).getD [] else []) := Lib.hid rfl
  generalize brE r c S Y T = Ee at *
  generalize brR r c S Y T = Rr at *
  by_cases hc : chkP r c S Y T = 0
  · have hce := HE.out
    have hcr := HR.out
    rw [if_pos hc] at hce hcr
    rw [hc] at HCK
    have G := chk_all hc
    have HO : Hid (brO r c S Y T = brL c (r * c) S Y T Y.length 0) := Lib.hid rfl
    generalize brO r c S Y T = E at *
    have HBD := Lib.hid (fun k (hk : k < Y.length) W (F : Fut w W) => by
      have := barred_any r c a cap S ya yc Y ta tc T G k [] none 0 0 W (by simpa using hk) (.inl ⟨rfl, rfl⟩) (by have := (side_m G.side).1; omega) (nil_ints _ _) (Nat.le_refl _) (fun _ => rfl) (h.fut F)
      rw [rbE_eq G.side S Y T (fun y hy => G.y y hy), List.append_nil, List.length_nil, Nat.zero_add] at this
      simpa using this)
    have hyx : (Y.length : Int) ≤ 3 := by have := G.three; omega
    have HCE := Lib.hid hce
    have HCR := Lib.hid hcr
    have HG := Lib.hid G
    clear h hA HE HR hce hcr hc G
    generalize r * c = m at *
    go_enter Try.func38, Try.ntmps38
    go_wp2_with fail
    refine (HCK.out _ HA.out).mono ?_
    rintro _ w2 ⟨rfl, F⟩
    have HF2 := Lib.hid (HA.out.trans F)
    have HBP2 := Lib.hid (HBP.out.fut F)
    have HBQ2 := Lib.hid (HBQ.out.fut F)
    clear p0 p1 p2 q0 q1 F
    obtain ⟨_, p0, p1, p2⟩ := HBP2.out
    obtain ⟨_, q0, q1⟩ := HBQ2.out
    have HE0 : Hid (brL c m S Y T (Y.length - 0) 0 = E) := Lib.hid HO.out.symm
    go_wp2_with fail
    go_loopw [7] (fun kv wr => ∃ k : Nat, k ≤ Y.length ∧ kv = .int .i64 k ∧ Hid (brL c m S Y T (Y.length - k) k = E) ∧ Hid (Fut w2 wr)) (fun kv _ => Y.length - (intOf kv).toNat)
    case atStart => exact ⟨0, Nat.zero_le _, rfl, HE0, Lib.hid Fut.rfl⟩
    case round =>
      obtain ⟨k, hk, rfl, HEk, HFX⟩ := hrel
      have HPX := Lib.hid (HBP2.out.fut HFX.out)
      have HQX := Lib.hid (HBQ2.out.fut HFX.out)
      clear p0 p1 p2 q0 q1
      obtain ⟨_, p0, p1, p2⟩ := HPX.out
      obtain ⟨_, q0, q1⟩ := HQX.out
      by_cases hlt : k < Y.length
      · have hkx : (k : Int) < Y.length := by omega
        rw [show Y.length - k = (Y.length - (k + 1)) + 1 by omega] at HEk
        have HEs : Hid ((match fbE c m Y T k S 0 with | some R => some R | none => brL c m S Y T (Y.length - (k + 1)) (k + 1)) = E) := HEk
        have HB := Lib.hid (HBD.out k hlt wr (HF2.out.trans HFX.out))
        clear HEk
        generalize fbE c m Y T k S 0 = Fb at *
        go_wp2_with fail
        refine HB.out.mono ?_
        rintro _ w5 ⟨l5, lc5, n5, rfl, hR5, F5⟩
        have HF5 := Lib.hid (HFX.out.trans F5)
        have HR5 := Lib.hid hR5
        clear hR5 F5 p0 p1 p2 q0 q1
        cases Fb with
        | none =>
          have HNX : Hid (brL c m S Y T (Y.length - (k + 1)) (k + 1) = E) := HEs
          rw [show (none : Option (List Int)).isSome = false from rfl]
          clear HEs HR5 HB
          go_wp2
          go_round
          case rel =>
            first
            | exact ⟨k + 1, by omega, by go_num, HNX, HF5⟩
            | exact ⟨_, _, _, ⟨k + 1, by omega, rfl, HNX, HF5⟩, rfl, rfl, by go_num⟩
          case measure => simp [intOf]; omega
        | some R =>
          have hE : E = some R := HEs.out.symm
          obtain ⟨r1, r2, r3⟩ := HR5.out R rfl
          have HR3 := Lib.hid r3
          rw [show (some R).isSome = true from rfl]
          obtain rfl : Ee = 0 := by rw [HCE.out, hE]; rfl
          obtain rfl : Rr = R := by rw [HCR.out, hE]; rfl
          subst r1
          clear HEs HR5 r3 HB hE
          go_wp2_with fail
          go_ret2
          exact ⟨l5, lc5, rfl, r2, HR3.out, HF2.out.trans HF5.out⟩
      · obtain rfl : Y.length = k := by omega
        rw [Nat.sub_self] at HEk
        have hE : E = none := HEk.out.symm
        obtain rfl : Ee = 13 := by rw [HCE.out, hE]; rfl
        obtain rfl : Rr = [] := by rw [HCR.out, hE]; rfl
        clear HEk hE
        go_wp2
        go_ret2
        exact TupI.nil 13 (HF2.out.trans HFX.out)
  · obtain rfl : Ee = chkP r c S Y T := by rw [HE.out, if_neg hc]
    obtain rfl : Rr = [] := by rw [HR.out, if_neg hc]
    clear HE HR
    generalize chkP r c S Y T = ck at *
    clear h hA
    have hcn : (ck != 0) = true := by simpa using hc
    go_enter Try.func38, Try.ntmps38
    go_wp2_with fail
    refine (HCK.out _ HA.out).mono ?_
    rintro _ w2 ⟨rfl, F⟩
    have HF2 := Lib.hid (HA.out.trans F)
    have HBP2 := Lib.hid (HBP.out.fut F)
    have HBQ2 := Lib.hid (HBQ.out.fut F)
    clear p0 p1 p2 q0 q1 F
    obtain ⟨_, p0, p1, p2⟩ := HBP2.out
    obtain ⟨_, q0, q1⟩ := HBQ2.out
    go_wp2_with fail
    go_ret2
    exact TupI.nil ck HF2.out
set_option maxRecDepth 100000 in
set_option maxHeartbeats 8000000 in
theorem rproves_any (r c : Int) (a : Option Addr) (cap : Nat) (S : List Int) (ya : Option Addr) (yc : Nat) (Y : List Int) (ta : Option Addr) (tc : Nat) (T : List Int) (la : Option Addr) (lc : Nat) (C : List Int) (w : World) (h : InPQ w a S ya yc Y ta tc T) (hC : IntsAt w la C) (hCl : C.length ≤ 1000) :
    Calls Try.prog 40 #[parV r c a S.length cap, plaV ya Y.length yc ta T.length tc, .slice la C.length lc] w fun e w' => e = .returned (.int .i64 (prvE r c S Y T C)) ∧ Fut w w' := by
  have hA : Fut w ((w.alloc (.cells #[.int .i64 r, .int .i64 c, .slice a S.length cap] 29)).alloc (.cells #[.slice ya Y.length yc, .slice ta T.length tc] 30)) := (Fut.alloc _ _).trans (Fut.alloc _ _)
  have hBP := (BoxR.new w r c a S.length cap).fut (Fut.alloc _ (.cells #[.slice ya Y.length yc, .slice ta T.length tc] 30))
  have hBQ := BoxT.new (w.alloc (.cells #[.int .i64 r, .int .i64 c, .slice a S.length cap] 29)) ya Y.length yc ta T.length tc
  rw [World.size_alloc] at hBQ
  have HCK := Lib.hid (fun W (F : Fut w W) => rchk_any r c a cap S ya yc Y ta tc T W (h.fut F))
  have HA := Lib.hid hA
  have HBP := Lib.hid hBP
  have HBQ := Lib.hid hBQ
  have HIN := Lib.hid h
  obtain ⟨_, p0, p1, p2⟩ := hBP
  obtain ⟨_, q0, q1⟩ := hBQ
  unfold prvE
  by_cases hc : chkP r c S Y T = 0
  · rw [if_pos hc]
    rw [hc] at HCK
    have G := chk_all hc
    have HAS := Lib.hid (fun W (F : Fut w W) => rasc_any r c _ G.side a S.length cap la lc C W (hC.fut F) hCl)
    have HBA := Lib.hid (fun W (F : Fut w W) => bars_any r c a cap S ya yc Y ta tc T la lc C W (h.fut F) G (hC.fut F) hCl)
    have HBE : Hid (barR c (r * c) S Y T C = if Y.length ≤ C.length then false else barB c (r * c) (S ++ C) Y T) := Lib.hid (by
      unfold barR
      split
      · rfl
      · rw [bar_met G.side S Y T C (fun y hy => G.y y hy)])
    have HPV : Hid ((if Y.length ≤ C.length then 14 else if barB c (r * c) (S ++ C) Y T = true then 0 else 14) = (if barR c (r * c) S Y T C = true then (0 : Int) else 14)) := Lib.hid (by
      rw [HBE.out]
      by_cases q : Y.length ≤ C.length
      · rw [if_pos q, if_pos q]; rfl
      · rw [if_neg q, if_neg q])
    rw [HPV.out]
    generalize barR c (r * c) S Y T C = br at *
    generalize ascE (r * c) C = ae at *
    clear h hA hc G hC HBE HPV
    by_cases h0 : ae = 0
    · subst h0
      rw [if_pos rfl]
      cases br
      · show Calls Try.prog 40 _ w fun e w' => e = .returned (.int .i64 14) ∧ Fut w w'
        go_enter Try.func40, Try.ntmps40
        go_wp2_with fail
        refine (HCK.out _ HA.out).mono ?_
        rintro _ w2 ⟨rfl, F⟩
        have HF2 := Lib.hid (HA.out.trans F)
        have HBP2 := Lib.hid (HBP.out.fut F)
        have HBQ2 := Lib.hid (HBQ.out.fut F)
        clear p0 p1 p2 q0 q1 F
        obtain ⟨_, p0, p1, p2⟩ := HBP2.out
        obtain ⟨_, q0, q1⟩ := HBQ2.out
        go_wp2_with fail
        refine (HAS.out _ HF2.out).mono ?_
        rintro _ w3 ⟨rfl, F⟩
        have HF3 := Lib.hid (HF2.out.trans F)
        have HBP3 := Lib.hid (HBP2.out.fut F)
        have HBQ3 := Lib.hid (HBQ2.out.fut F)
        clear p0 p1 p2 q0 q1 F
        obtain ⟨_, p0, p1, p2⟩ := HBP3.out
        obtain ⟨_, q0, q1⟩ := HBQ3.out
        go_wp2_with fail
        refine (HBA.out _ HF3.out).mono ?_
        rintro _ w4 ⟨rfl, F⟩
        have HF4 := Lib.hid (HF3.out.trans F)
        have HBP4 := Lib.hid (HBP3.out.fut F)
        have HBQ4 := Lib.hid (HBQ3.out.fut F)
        clear p0 p1 p2 q0 q1 F
        obtain ⟨_, p0, p1, p2⟩ := HBP4.out
        obtain ⟨_, q0, q1⟩ := HBQ4.out
        go_wp2_with fail
        go_ret
        exact ⟨rfl, HF4.out⟩
      · show Calls Try.prog 40 _ w fun e w' => e = .returned (.int .i64 0) ∧ Fut w w'
        go_enter Try.func40, Try.ntmps40
        go_wp2_with fail
        refine (HCK.out _ HA.out).mono ?_
        rintro _ w2 ⟨rfl, F⟩
        have HF2 := Lib.hid (HA.out.trans F)
        have HBP2 := Lib.hid (HBP.out.fut F)
        have HBQ2 := Lib.hid (HBQ.out.fut F)
        clear p0 p1 p2 q0 q1 F
        obtain ⟨_, p0, p1, p2⟩ := HBP2.out
        obtain ⟨_, q0, q1⟩ := HBQ2.out
        go_wp2_with fail
        refine (HAS.out _ HF2.out).mono ?_
        rintro _ w3 ⟨rfl, F⟩
        have HF3 := Lib.hid (HF2.out.trans F)
        have HBP3 := Lib.hid (HBP2.out.fut F)
        have HBQ3 := Lib.hid (HBQ2.out.fut F)
        clear p0 p1 p2 q0 q1 F
        obtain ⟨_, p0, p1, p2⟩ := HBP3.out
        obtain ⟨_, q0, q1⟩ := HBQ3.out
        go_wp2_with fail
        refine (HBA.out _ HF3.out).mono ?_
        rintro _ w4 ⟨rfl, F⟩
        have HF4 := Lib.hid (HF3.out.trans F)
        have HBP4 := Lib.hid (HBP3.out.fut F)
        have HBQ4 := Lib.hid (HBQ3.out.fut F)
        clear p0 p1 p2 q0 q1 F
        obtain ⟨_, p0, p1, p2⟩ := HBP4.out
        obtain ⟨_, q0, q1⟩ := HBQ4.out
        go_wp2_with fail
        go_ret
        exact ⟨rfl, HF4.out⟩
    · rw [if_neg h0]
      have hcn : (ae == 0) = false := by simpa using h0
      clear HBA
      go_enter Try.func40, Try.ntmps40
      go_wp2_with fail
      refine (HCK.out _ HA.out).mono ?_
      rintro _ w2 ⟨rfl, F⟩
      have HF2 := Lib.hid (HA.out.trans F)
      have HBP2 := Lib.hid (HBP.out.fut F)
      have HBQ2 := Lib.hid (HBQ.out.fut F)
      clear p0 p1 p2 q0 q1 F
      obtain ⟨_, p0, p1, p2⟩ := HBP2.out
      obtain ⟨_, q0, q1⟩ := HBQ2.out
      go_wp2_with fail
      refine (HAS.out _ HF2.out).mono ?_
      rintro _ w3 ⟨rfl, F⟩
      have HF3 := Lib.hid (HF2.out.trans F)
      have HBP3 := Lib.hid (HBP2.out.fut F)
      have HBQ3 := Lib.hid (HBQ2.out.fut F)
      clear p0 p1 p2 q0 q1 F
      obtain ⟨_, p0, p1, p2⟩ := HBP3.out
      obtain ⟨_, q0, q1⟩ := HBQ3.out
      go_wp2_with fail
      go_ret
      exact ⟨rfl, HF3.out⟩
  · rw [if_neg hc]
    generalize chkP r c S Y T = ck at *
    clear h hA hC
    have hcn : (ck == 0) = false := by simpa using hc
    go_enter Try.func40, Try.ntmps40
    go_wp2_with fail
    refine (HCK.out _ HA.out).mono ?_
    rintro _ w2 ⟨rfl, F⟩
    have HF2 := Lib.hid (HA.out.trans F)
    have HBP2 := Lib.hid (HBP.out.fut F)
    have HBQ2 := Lib.hid (HBQ.out.fut F)
    clear p0 p1 p2 q0 q1 F
    obtain ⟨_, p0, p1, p2⟩ := HBP2.out
    obtain ⟨_, q0, q1⟩ := HBQ2.out
    go_wp2_with fail
    go_ret
    exact ⟨rfl, HF2.out⟩
end Go.Proofs.Ytflllkamdihfaaa
