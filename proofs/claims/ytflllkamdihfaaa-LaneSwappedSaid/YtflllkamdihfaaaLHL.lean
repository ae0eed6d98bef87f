/- LaneSwapped: law9_any -/
import Derived.Test.YtflllkamdihfaaaLGC
import Derived.Test.YtflllkamdihfaaaLGE
import Derived.Test.YtflllkamdihfaaaLBJ
import Derived.Test.YtflllkamdihfaaaLHK
import Derived.Test.YtflllkamdihfaaaLHJ
import Derived.Test.YtflllkamdihfaaaLHI
import Derived.Test.YtflllkamdihfaaaLHG
import Derived.Test.YtflllkamdihfaaaLHF
import Derived.Test.YtflllkamdihfaaaLHE
import Derived.Test.YtflllkamdihfaaaLHA
import Derived.Test.YtflllkamdihfaaaLGS
import Derived.Test.YtflllkamdihfaaaLHM
namespace Go.Proofs.Ytflllkamdihfaaa
open Go.RowKit Go.Sort
set_option maxRecDepth 100000 in
set_option maxHeartbeats 8000000 in
theorem law9_any (t : Nat → Nat) (ht : t 3 ≤ 65535 ∧ ∀ j, j ≠ 3 → t j ≤ 255) (b : Nat → Nat) (hb : ∀ j, b j ≤ 255) (q : Nat) (hq : q ≤ 255) (w : World) :
    Calls Try.prog 9 #[planV t, thV b, .int .u8 q] w fun e w' => e = .returned (.bool true) ∧ Fut w w' := by
  have HMD := Lib.hid (fun W => made_any t ht W)
  have HF0 : Hid (Fut w ((w.alloc (.cells #[.int .u8 (t 0 : Nat), .int .u8 (t 1 : Nat), .int .u8 (t 2 : Nat), .int .u16 (t 3 : Nat), .int .u8 (t 4 : Nat), .int .u8 (t 5 : Nat), .int .u8 (t 6 : Nat), .int .u8 (t 7 : Nat), .int .u8 (t 8 : Nat), .int .u8 (t 9 : Nat)] 63)).alloc (.cells #[.int .u8 (b 0 : Nat), .int .u8 (b 1 : Nat), .int .u8 (b 2 : Nat)] 61))) := Lib.hid ((Fut.alloc _ _).trans (Fut.alloc _ _))
  have hBT0 := BoxTh.new (w.alloc (.cells #[.int .u8 (t 0 : Nat), .int .u8 (t 1 : Nat), .int .u8 (t 2 : Nat), .int .u16 (t 3 : Nat), .int .u8 (t 4 : Nat), .int .u8 (t 5 : Nat), .int .u8 (t 6 : Nat), .int .u8 (t 7 : Nat), .int .u8 (t 8 : Nat), .int .u8 (t 9 : Nat)] 63)) b
  rw [World.size_alloc] at hBT0
  have HBT0 := Lib.hid hBT0
  have HBB := Lib.hid hb
  clear hBT0 hb
  unfold planV at *
  go_enter Try.func9, Try.ntmps9
  go_wp2_with fail
  generalize hW0 : (w.alloc (.cells #[.int .u8 (t 0 : Nat), .int .u8 (t 1 : Nat), .int .u8 (t 2 : Nat), .int .u16 (t 3 : Nat), .int .u8 (t 4 : Nat), .int .u8 (t 5 : Nat), .int .u8 (t 6 : Nat), .int .u8 (t 7 : Nat), .int .u8 (t 8 : Nat), .int .u8 (t 9 : Nat)] 63)).alloc (.cells #[.int .u8 (b 0 : Nat), .int .u8 (b 1 : Nat), .int .u8 (b 2 : Nat)] 61) = w0 at *
  clear hW0
  refine (HMD.out _).mono ?_
  rintro _ w1 ⟨sa, sc, ya, yc, ta, tc, rfl, hS, hY, hT, F1⟩
  have HF1 := Lib.hid (HF0.out.trans F1)
  have hA : Fut w1 ((w1.alloc (.cells #[.int .i64 (mR t : Nat), .int .i64 (mC t : Nat), .slice sa (mS t).length sc] 24)).alloc (.cells #[.slice ya (mY t).length yc, .slice ta (mT t).length tc] 26)) := (Fut.alloc _ _).trans (Fut.alloc _ _)
  have HBT := Lib.hid ((HBT0.out.fut F1).fut hA)
  have hBP := (BoxP.new w1 (mR t : Nat) (mC t : Nat) sa (mS t).length sc).fut (Fut.alloc _ (.cells #[.slice ya (mY t).length yc, .slice ta (mT t).length tc] 26))
  have hBQ := BoxQ.new (w1.alloc (.cells #[.int .i64 (mR t : Nat), .int .i64 (mC t : Nat), .slice sa (mS t).length sc] 24)) ya (mY t).length yc ta (mT t).length tc
  rw [World.size_alloc] at hBQ
  have HF2 := Lib.hid (HF1.out.trans hA)
  have HBP := Lib.hid hBP
  have HBQ := Lib.hid hBQ
  have hS2 := hS.fut hA
  have hY2 := hY.fut hA
  have hT2 := hT.fut hA
  clear HMD HF0 HF1 hBP hBQ hA hS hY hT F1 HBT0
  cases hok : mOk t
  · clear hS2 hY2 hT2 HBP HBQ hok HBT
    go_wp2_with fail
    refine (works_any _).mono ?_
    rintro _ w3 ⟨rfl, F⟩
    have HF3 := Lib.hid (HF2.out.trans F)
    clear F
    go_wp2_with fail
    go_ret
    exact ⟨rfl, HF3.out⟩
  · have hck := made_chk hok
    have hg := made_g hok
    have hsin := made_sin t
    have hsl : (mS t).length ≤ 16 := Nat.le_trans (shL_len _ _) (by unfold mR mC; exact Nat.mul_le_mul (show 1 + t 0 % 4 ≤ 4 by omega) (show 1 + t 1 % 4 ≤ 4 by omega))
    have h : InPQ _ sa (mS t) ya yc (mY t) ta tc (mT t) := inpq_made hS2 hY2 hT2 (by omega) (by have := hg.three; omega) (by have := hg.three; have := hg.len; omega)
    have HIN := Lib.hid h
    have HCK := Lib.hid hck
    have HGG := Lib.hid hg
    clear hS2 hY2 hT2 hok hck hg hsin h hsl
    generalize mR t = r at *
    generalize mC t = c at *
    generalize mS t = S at *
    generalize mY t = Y at *
    generalize mT t = T at *
    obtain ⟨_, p0, p1, p2⟩ := HBP.out
    obtain ⟨_, q0, q1⟩ := HBQ.out
    have b0 := HBT.out.b 0 (by omega)
    have b1 := HBT.out.b 1 (by omega)
    have b2 := HBT.out.b 2 (by omega)
    go_wp2_with fail
    generalize hW2 : (w1.alloc (.cells #[.int .i64 (r : Int), .int .i64 (c : Int), .slice sa S.length sc] 24)).alloc (.cells #[.slice ya Y.length yc, .slice ta T.length tc] 26) = w2 at *
    clear hW2
    have hFM := family_any (r : Int) (c : Int) _ HGG.out.side sa sc S ya yc Y ta tc T b HBB.out q hq w2 HIN.out HGG.out.len HGG.out.one HGG.out.three (fun k hk => by have := HGG.out.y _ (nth_mem hk); exact ⟨this.1, this.2.1⟩)
    clear p0 p1 p2 q0 q1 b0 b1 b2
    refine hFM.mono ?_
    rintro _ w3 ⟨v3, o3, ok3, rfl, F3, H3⟩
    clear hFM
    have HF3 := Lib.hid (HF2.out.trans F3)
    cases ok3
    · clear H3 HBP HBQ HBT HIN HCK HGG
      go_wp2_with fail
      refine (works_any _).mono ?_
      rintro _ w4 ⟨rfl, F⟩
      have HF4 := Lib.hid (HF3.out.trans F)
      clear F
      go_wp2_with fail
      go_ret
      exact ⟨rfl, HF4.out⟩
    · obtain ⟨hFX, hPO⟩ := H3 rfl
      have hGD := famW_gd HGG.out b q hPO
      generalize famW c ((r : Int) * (c : Int)) S Y T b q Y.length = F at *
      generalize ordW Y.length q Y.length = o at *
      have HFX := Lib.hid hFX
      have HGD := Lib.hid hGD
      have HIN3 := Lib.hid (HIN.out.fut F3)
      have HBP3 := Lib.hid (HBP.out.fut F3)
      have HBQ3 := Lib.hid (HBQ.out.fut F3)
      have HFL : Hid (F.length = Y.length) := Lib.hid hGD.fl
      have HSH := Lib.hid (gd_short HGG.out hGD)
      clear hFX hPO hGD H3 F3 HIN HBP HBQ HBT HF2
      obtain ⟨⟨vals, hr, hE, hap⟩, ho⟩ := HFX.out
      have hX : OwnL w3 (w2.heap.size + 3) v3 F := ⟨vals, hr, hE⟩
      obtain ⟨fa, fc, rfl, hfc1, hfc2, hLC⟩ := hX.listsC
      obtain ⟨oa, oc, rfl, hoc1, hoc2, hOI⟩ := ho.form
      have HLC := Lib.hid hLC
      have HOI := Lib.hid hOI
      have HOL : Hid (o.length = Y.length) := Lib.hid HGD.out.ol
      clear hr hE hap ho hX hLC hOI HFX hfc1 hoc1 hoc2 hfc2
      have HLX : Hid ((F.length : Int) ≤ 3) := Lib.hid (by have := HFL.out; have := HGG.out.three; omega)
      have hlx := HLX.out
      have HM0 : Hid (mtF F 0 = false) := Lib.hid rfl
      have HI0 := Lib.hid (fun i => show mtI F i 0 = false from rfl)
      have HMS := Lib.hid (fun i => show mtF F (i + 1) = (mtF F i || mtI F i i) from rfl)
      have HIS := Lib.hid (fun i k => show mtI F i (k + 1) = (mtI F i k || metW (lth F i) (lth F k)) from rfl)
      have HME := Lib.hid (mtF_fm F)
      go_wp2_with fail
      go_loopw [12, 48] (fun mv iv wr => ∃ i : Nat, i ≤ F.length ∧ iv = .int .i64 i ∧ mv = .bool (mtF F i) ∧ Hid (Fut w3 wr)) (fun _ iv _ => F.length - (intOf iv).toNat)
      case atStart => exact ⟨0, Nat.zero_le _, rfl, by rw [HM0.out], Lib.hid Fut.rfl⟩
      case round =>
        obtain ⟨i, hi, rfl, rfl, HFi⟩ := hrel
        by_cases hil : i < F.length
        · have hix : (i : Int) < F.length := by omega
          go_wp2_with fail
          go_loopw [12, 52] (fun mv kv wr => ∃ k : Nat, k ≤ i ∧ kv = .int .i64 k ∧ mv = .bool (mtF F i || mtI F i k) ∧ Hid (Fut w3 wr)) (fun _ kv _ => i - (intOf kv).toNat)
          case atStart => exact ⟨0, Nat.zero_le _, rfl, by rw [HI0.out, Bool.or_false], HFi⟩
          case round =>
            obtain ⟨k, hk, rfl, rfl, HFk⟩ := hrel
            by_cases hki : k < i
            · have hkx : (k : Int) < i := by omega
              have hkx2 : (k : Int) < F.length := by omega
              have HNX : Hid ((mtF F i || mtI F i (k + 1)) = ((mtF F i || mtI F i k) || metW (lth F i) (lth F k))) := Lib.hid (by rw [HIS.out, Bool.or_assoc])
              obtain ⟨m0, hm0⟩ : ∃ m0, m0 = (mtF F i || mtI F i k) := ⟨_, rfl⟩
              rw [← hm0] at HNX ⊢
              clear hm0
              cases m0
              · go_upto_region 14 with fail
                obtain ⟨fb, fo, ra, rac, rfl, hfb, d1, _, _, hIa⟩ := HLC.out i hil
                obtain ⟨fb2, fo2, rb, rbc, ee, _, d2, _, _, hIb⟩ := HLC.out k (by omega)
                obtain ⟨rfl, rfl⟩ : fb = fb2 ∧ fo = fo2 := by injection ee with ee; injection ee with e2 e3; exact ⟨e2, e3⟩
                have hA := HSH.out i hil
                have hB := HSH.out k (by omega)
                generalize lth F i = A at *
                generalize lth F k = B at *
                have FD : Fut w3 wr.drew := HFk.out.trans (below_drewN Fut.rfl 1)
                have keep : wr.drew.cell? ⟨fb, fo + i, none⟩ = some (.slice ra A.length rac) ∧ wr.drew.cell? ⟨fb, fo + k, none⟩ = some (.slice rb B.length rbc) := ⟨(RowKit.Below.cell FD (p := ⟨fb, fo + i, none⟩) hfb).trans d1, (RowKit.Below.cell FD (p := ⟨fb, fo + k, none⟩) hfb).trans d2⟩
                have HBA := Lib.hid (fun (_ : Unit) => bits_any ra rac A wr.drew (hIa.fut FD) (by omega) hA.2)
                have HBBt := Lib.hid (fun (_ : Unit) => bits_any rb rbc B wr.drew (hIb.fut FD) (by omega) hB.2)
                have HAND : Hid (bits BinOp.and IntKind.u32 (bsN A : Nat) (bsN B : Nat) = ((bsN A &&& bsN B : Nat) : Int)) := Lib.hid (u32_and_nat _ _ (by have := bs_lt hA.2; omega) (by have := bs_lt hB.2; omega))
                have HZZ := Lib.hid (bs_meet hA.2 hB.2)
                have HBM : Hid ((((bsN A &&& bsN B : Nat) : Int) != 0) = metW A B) := Lib.hid (by
                  cases hm : metW A B
                  · rw [HZZ.out.2 hm]; rfl
                  · have : ¬ (bsN A &&& bsN B = 0) := fun e => by rw [HZZ.out.1 e] at hm; cases hm
                    simpa using this)
                have HFR := Lib.hid FD
                clear d1 d2 ee hIa hIb hA hB FD
                generalize bsN A = na at *
                generalize bsN B = nb at *
                refine wp_region_held_drew (S := (fun w' => w'.cell? ⟨fb, fo + i, none⟩ = some (.slice ra A.length rac) ∧ w'.cell? ⟨fb, fo + k, none⟩ = some (.slice rb B.length rbc))) (by kernel_rfl) ?_ (fun hHeld => ?_)
                · exact keep
                generalize wr.drew = u0 at *
                refine wpAnyH_take (i := 0) (oi := { dst := some 55, op := Op.move (Operand.tmp 12), type := 4, pos := "outright.go:266", after := #[], guard := none }) (v := ?_) rfl (by kernel_rfl) (by kernel_rfl) (by kernel_rfl) (fun _ _ _ h => h) (Or.inl ⟨by rfl, ?_⟩) (by assumption) ?_
                rotate_left
                · (intro w hSw; (obtain ⟨s0, s1⟩ := hSw); go_simp <;> with_reducible rfl)
                try simp only [Act.put, List.setIfInBounds_toArray, List.set_cons_zero, List.set_cons_succ]
                refine wpAnyH_take (i := 1) (oi := { dst := some 56, op := Op.move (Operand.tmp 55), type := 4, pos := "outright.go:266", after := #[{ on := 0, ground := Ground.data }], guard := none }) (v := ?_) rfl (by kernel_rfl) (by kernel_rfl) (by kernel_rfl) (fun _ _ _ h => h) (Or.inl ⟨by rfl, ?_⟩) (by assumption) ?_
                rotate_left
                · (intro w hSw; (obtain ⟨s0, s1⟩ := hSw); go_simp <;> with_reducible rfl)
                try simp only [Act.put, List.setIfInBounds_toArray, List.set_cons_zero, List.set_cons_succ]
                refine wpAnyH_take (i := 2) (oi := { dst := some 57, op := Op.move (Operand.tmp 10), type := 35, pos := "outright.go:266", after := #[{ on := 1, ground := Ground.guard }], guard := some (1, false) }) (v := ?_) rfl (by kernel_rfl) (by kernel_rfl) (by kernel_rfl) (fun _ _ _ h => h) (Or.inl ⟨by rfl, ?_⟩) (by assumption) ?_
                rotate_left
                · (intro w hSw; (obtain ⟨s0, s1⟩ := hSw); go_simp <;> with_reducible rfl)
                try simp only [Act.put, List.setIfInBounds_toArray, List.set_cons_zero, List.set_cons_succ]
                refine wpAnyH_take (i := 3) (oi := { dst := some 58, op := Op.move (Operand.tmp 13), type := 3, pos := "outright.go:266", after := #[{ on := 1, ground := Ground.guard }], guard := some (1, false) }) (v := ?_) rfl (by kernel_rfl) (by kernel_rfl) (by kernel_rfl) (fun _ _ _ h => h) (Or.inl ⟨by rfl, ?_⟩) (by assumption) ?_
                rotate_left
                · (intro w hSw; (obtain ⟨s0, s1⟩ := hSw); go_simp <;> with_reducible rfl)
                try simp only [Act.put, List.setIfInBounds_toArray, List.set_cons_zero, List.set_cons_succ]
                refine wpAnyH_take (i := 4) (oi := { dst := some 59, op := Op.indexAddr 35 (Operand.tmp 57) (Operand.tmp 58), type := 0, pos := "outright.go:266", after := #[{ on := 2, ground := Ground.data }, { on := 3, ground := Ground.data }, { on := 1, ground := Ground.guard }], guard := some (1, false) }) (v := ?_) rfl (by kernel_rfl) (by kernel_rfl) (by kernel_rfl) (fun _ _ _ h => h) (Or.inl ⟨by rfl, ?_⟩) (by assumption) ?_
                rotate_left
                · (intro w hSw; (obtain ⟨s0, s1⟩ := hSw); go_simp <;> with_reducible rfl)
                try simp only [Act.put, List.setIfInBounds_toArray, List.set_cons_zero, List.set_cons_succ]
                refine wpAnyH_take (i := 5) (oi := { dst := some 60, op := Op.load 22 (Operand.tmp 59), type := 22, pos := "outright.go:266", after := #[{ on := 4, ground := Ground.data }, { on := 1, ground := Ground.guard }], guard := some (1, false) }) (v := ?_) rfl (by kernel_rfl) (by kernel_rfl) (by kernel_rfl) (fun _ _ _ h => h) (Or.inl ⟨by rfl, ?_⟩) (by assumption) ?_
                rotate_left
                · (intro w hSw; (obtain ⟨s0, s1⟩ := hSw); go_simp <;> with_reducible rfl)
                try simp only [Act.put, List.setIfInBounds_toArray, List.set_cons_zero, List.set_cons_succ]
                refine wpAnyH_take (i := 7) (oi := { dst := some 62, op := Op.move (Operand.tmp 10), type := 35, pos := "outright.go:266", after := #[{ on := 1, ground := Ground.guard }], guard := some (1, false) }) (v := ?_) rfl (by kernel_rfl) (by kernel_rfl) (by kernel_rfl) (fun _ _ _ h => h) (Or.inl ⟨by rfl, ?_⟩) (by assumption) ?_
                rotate_left
                · (intro w hSw; (obtain ⟨s0, s1⟩ := hSw); go_simp <;> with_reducible rfl)
                try simp only [Act.put, List.setIfInBounds_toArray, List.set_cons_zero, List.set_cons_succ]
                refine wpAnyH_take (i := 8) (oi := { dst := some 63, op := Op.move (Operand.tmp 14), type := 3, pos := "outright.go:266", after := #[{ on := 1, ground := Ground.guard }], guard := some (1, false) }) (v := ?_) rfl (by kernel_rfl) (by kernel_rfl) (by kernel_rfl) (fun _ _ _ h => h) (Or.inl ⟨by rfl, ?_⟩) (by assumption) ?_
                rotate_left
                · (intro w hSw; (obtain ⟨s0, s1⟩ := hSw); go_simp <;> with_reducible rfl)
                try simp only [Act.put, List.setIfInBounds_toArray, List.set_cons_zero, List.set_cons_succ]
                refine wpAnyH_take (i := 9) (oi := { dst := some 64, op := Op.indexAddr 35 (Operand.tmp 62) (Operand.tmp 63), type := 0, pos := "outright.go:266", after := #[{ on := 7, ground := Ground.data }, { on := 8, ground := Ground.data }, { on := 1, ground := Ground.guard }], guard := some (1, false) }) (v := ?_) rfl (by kernel_rfl) (by kernel_rfl) (by kernel_rfl) (fun _ _ _ h => h) (Or.inl ⟨by rfl, ?_⟩) (by assumption) ?_
                rotate_left
                · (intro w hSw; (obtain ⟨s0, s1⟩ := hSw); go_simp <;> with_reducible rfl)
                try simp only [Act.put, List.setIfInBounds_toArray, List.set_cons_zero, List.set_cons_succ]
                refine wpAnyH_take (i := 10) (oi := { dst := some 65, op := Op.load 22 (Operand.tmp 64), type := 22, pos := "outright.go:266", after := #[{ on := 9, ground := Ground.data }, { on := 1, ground := Ground.guard }], guard := some (1, false) }) (v := ?_) rfl (by kernel_rfl) (by kernel_rfl) (by kernel_rfl) (fun _ _ _ h => h) (Or.inl ⟨by rfl, ?_⟩) (by assumption) ?_
                rotate_left
                · (intro w hSw; (obtain ⟨s0, s1⟩ := hSw); go_simp <;> with_reducible rfl)
                try simp only [Act.put, List.setIfInBounds_toArray, List.set_cons_zero, List.set_cons_succ]
                refine wpAnyH_ready (rs := [6]) (by kernel_rfl) (by simp) ?_
                refine AllReadyH.cons (o := { dst := some 61, op := Op.call { callee := Callee.value (Operand.func 50), args := #[Operand.tmp 60], argTypes := #[22] }, type := 76, pos := "outright.go:266", after := #[{ on := 5, ground := Ground.data }, { on := 1, ground := Ground.chain }, { on := 1, ground := Ground.guard }], guard := some (1, false) }) rfl (fun K hK => ?_) AllReadyH.nil
                go_simp
                go_at_call 50
                refine (HBA.out ()).mono ?_
                rintro _ _ ⟨rfl, rfl⟩
                try go_wp2_with fail
                refine hK.out _ _ ?_ (fun hHeld => ?_)
                · exact keep
                clear hK K
                try simp only [Act.put, List.setIfInBounds_toArray, List.set_cons_zero, List.set_cons_succ]
                refine wpAnyH_ready (rs := [11]) (by kernel_rfl) (by simp) ?_
                refine AllReadyH.cons (o := { dst := some 66, op := Op.call { callee := Callee.value (Operand.func 50), args := #[Operand.tmp 65], argTypes := #[22] }, type := 76, pos := "outright.go:266", after := #[{ on := 10, ground := Ground.data }, { on := 6, ground := Ground.chain }, { on := 1, ground := Ground.guard }], guard := some (1, false) }) rfl (fun K hK => ?_) AllReadyH.nil
                go_simp
                go_at_call 50
                refine (HBBt.out ()).mono ?_
                rintro _ _ ⟨rfl, rfl⟩
                try go_wp2_with fail
                refine hK.out _ _ ?_ (fun hHeld => ?_)
                · exact keep
                clear hK K
                try simp only [Act.put, List.setIfInBounds_toArray, List.set_cons_zero, List.set_cons_succ]
                refine wpAnyH_take (i := 12) (oi := { dst := some 67, op := Op.binOp BinOp.and 76 (Operand.tmp 61) (Operand.tmp 66) 76, type := 76, pos := "outright.go:266", after := #[{ on := 6, ground := Ground.data }, { on := 11, ground := Ground.data }, { on := 1, ground := Ground.guard }], guard := some (1, false) }) (v := ?_) rfl (by kernel_rfl) (by kernel_rfl) (by kernel_rfl) (fun _ _ _ h => h) (Or.inl ⟨by rfl, ?_⟩) (by assumption) ?_
                rotate_left
                · (intro w hSw; (obtain ⟨s0, s1⟩ := hSw); go_simp <;> with_reducible rfl)
                try simp only [Act.put, List.setIfInBounds_toArray, List.set_cons_zero, List.set_cons_succ]
                refine wpAnyH_take (i := 13) (oi := { dst := some 68, op := Op.binOp BinOp.neq 76 (Operand.tmp 67) (Operand.const (Value.int IntKind.u32 0)) 76, type := 4, pos := "outright.go:266", after := #[{ on := 12, ground := Ground.data }, { on := 1, ground := Ground.guard }], guard := some (1, false) }) (v := ?_) rfl (by kernel_rfl) (by kernel_rfl) (by kernel_rfl) (fun _ _ _ h => h) (Or.inl ⟨by rfl, ?_⟩) (by assumption) ?_
                rotate_left
                · (intro w hSw; (obtain ⟨s0, s1⟩ := hSw); go_simp <;> with_reducible rfl)
                try simp only [Act.put, List.setIfInBounds_toArray, List.set_cons_zero, List.set_cons_succ]
                refine wpAnyH_take (i := 14) (oi := { dst := some 69, op := Op.pick (Operand.tmp 56) (Operand.const (Value.bool true)) (Operand.tmp 68), type := 4, pos := "outright.go:266", after := #[{ on := 1, ground := Ground.data }, { on := 13, ground := Ground.data }], guard := none }) (v := ?_) rfl (by kernel_rfl) (by kernel_rfl) (by kernel_rfl) (fun _ _ _ h => h) (Or.inl ⟨by rfl, ?_⟩) (by assumption) ?_
                rotate_left
                · (intro w hSw; (obtain ⟨s0, s1⟩ := hSw); go_simp <;> with_reducible rfl)
                try simp only [Act.put, List.setIfInBounds_toArray, List.set_cons_zero, List.set_cons_succ]
                refine wpAnyH_ready (rs := [15]) (by kernel_rfl) (by simp) ?_
                refine AllReadyH.cons (o := { dst := some 12, op := Op.assign (Operand.tmp 69), type := 4, pos := "outright.go:266", after := #[{ on := 14, ground := Ground.data }, { on := 11, ground := Ground.chain }, { on := 0, ground := Ground.phase }, { on := 1, ground := Ground.phase }, { on := 2, ground := Ground.phase }, { on := 3, ground := Ground.phase }, { on := 4, ground := Ground.phase }, { on := 5, ground := Ground.phase }, { on := 6, ground := Ground.phase }, { on := 7, ground := Ground.phase }, { on := 8, ground := Ground.phase }, { on := 9, ground := Ground.phase }, { on := 10, ground := Ground.phase }, { on := 11, ground := Ground.phase }, { on := 12, ground := Ground.phase }, { on := 13, ground := Ground.phase }, { on := 14, ground := Ground.phase }], guard := none }) rfl (fun K hK => ?_) AllReadyH.nil
                go_simp
                refine hK.out _ _ ?_ (fun hHeld => ?_)
                · exact keep
                clear hK K
                try simp only [Act.put, List.setIfInBounds_toArray, List.set_cons_zero, List.set_cons_succ]
                refine wpAnyH_done (by kernel_rfl) ?_ _
                go_wp2_with fail
                exact ⟨⟨k + 1, by omega, by go_num, by rw [HNX.out, HAND.out, HBM.out, Bool.false_or], HFR⟩, by simp [intOf]; omega⟩
              · go_upto_region 14 with fail
                refine wp_region_held_drew (S := (fun _ => True)) (by kernel_rfl) ?_ (fun hHeld => ?_)
                · exact trivial
                refine wpAnyH_take (i := 0) (oi := { dst := some 55, op := Op.move (Operand.tmp 12), type := 4, pos := "outright.go:266", after := #[], guard := none }) (v := ?_) rfl (by kernel_rfl) (by kernel_rfl) (by kernel_rfl) (fun _ _ _ h => h) (Or.inl ⟨by rfl, ?_⟩) (by assumption) ?_
                rotate_left
                · (intro w hSw; skip; go_simp <;> with_reducible rfl)
                try simp only [Act.put, List.setIfInBounds_toArray, List.set_cons_zero, List.set_cons_succ]
                refine wpAnyH_take (i := 1) (oi := { dst := some 56, op := Op.move (Operand.tmp 55), type := 4, pos := "outright.go:266", after := #[{ on := 0, ground := Ground.data }], guard := none }) (v := ?_) rfl (by kernel_rfl) (by kernel_rfl) (by kernel_rfl) (fun _ _ _ h => h) (Or.inl ⟨by rfl, ?_⟩) (by assumption) ?_
                rotate_left
                · (intro w hSw; skip; go_simp <;> with_reducible rfl)
                try simp only [Act.put, List.setIfInBounds_toArray, List.set_cons_zero, List.set_cons_succ]
                refine wpAnyH_take (i := 2) (oi := { dst := some 57, op := Op.move (Operand.tmp 10), type := 35, pos := "outright.go:266", after := #[{ on := 1, ground := Ground.guard }], guard := some (1, false) }) (v := undef) rfl (by kernel_rfl) (by kernel_rfl) (by kernel_rfl) (fun _ _ _ h => h) (Or.inr ⟨by rfl, rfl⟩) (by assumption) ?_
                try simp only [Act.put, List.setIfInBounds_toArray, List.set_cons_zero, List.set_cons_succ]
                refine wpAnyH_take (i := 3) (oi := { dst := some 58, op := Op.move (Operand.tmp 13), type := 3, pos := "outright.go:266", after := #[{ on := 1, ground := Ground.guard }], guard := some (1, false) }) (v := undef) rfl (by kernel_rfl) (by kernel_rfl) (by kernel_rfl) (fun _ _ _ h => h) (Or.inr ⟨by rfl, rfl⟩) (by assumption) ?_
                try simp only [Act.put, List.setIfInBounds_toArray, List.set_cons_zero, List.set_cons_succ]
                refine wpAnyH_take (i := 4) (oi := { dst := some 59, op := Op.indexAddr 35 (Operand.tmp 57) (Operand.tmp 58), type := 0, pos := "outright.go:266", after := #[{ on := 2, ground := Ground.data }, { on := 3, ground := Ground.data }, { on := 1, ground := Ground.guard }], guard := some (1, false) }) (v := undef) rfl (by kernel_rfl) (by kernel_rfl) (by kernel_rfl) (fun _ _ _ h => h) (Or.inr ⟨by rfl, rfl⟩) (by assumption) ?_
                try simp only [Act.put, List.setIfInBounds_toArray, List.set_cons_zero, List.set_cons_succ]
                refine wpAnyH_take (i := 5) (oi := { dst := some 60, op := Op.load 22 (Operand.tmp 59), type := 22, pos := "outright.go:266", after := #[{ on := 4, ground := Ground.data }, { on := 1, ground := Ground.guard }], guard := some (1, false) }) (v := undef) rfl (by kernel_rfl) (by kernel_rfl) (by kernel_rfl) (fun _ _ _ h => h) (Or.inr ⟨by rfl, rfl⟩) (by assumption) ?_
                try simp only [Act.put, List.setIfInBounds_toArray, List.set_cons_zero, List.set_cons_succ]
                refine wpAnyH_take (i := 6) (oi := { dst := some 61, op := Op.call { callee := Callee.value (Operand.func 50), args := #[Operand.tmp 60], argTypes := #[22] }, type := 76, pos := "outright.go:266", after := #[{ on := 5, ground := Ground.data }, { on := 1, ground := Ground.chain }, { on := 1, ground := Ground.guard }], guard := some (1, false) }) (v := undef) rfl (by kernel_rfl) (by kernel_rfl) (by kernel_rfl) (fun _ _ _ h => h) (Or.inr ⟨by rfl, rfl⟩) (by assumption) ?_
                try simp only [Act.put, List.setIfInBounds_toArray, List.set_cons_zero, List.set_cons_succ]
                refine wpAnyH_take (i := 7) (oi := { dst := some 62, op := Op.move (Operand.tmp 10), type := 35, pos := "outright.go:266", after := #[{ on := 1, ground := Ground.guard }], guard := some (1, false) }) (v := undef) rfl (by kernel_rfl) (by kernel_rfl) (by kernel_rfl) (fun _ _ _ h => h) (Or.inr ⟨by rfl, rfl⟩) (by assumption) ?_
                try simp only [Act.put, List.setIfInBounds_toArray, List.set_cons_zero, List.set_cons_succ]
                refine wpAnyH_take (i := 8) (oi := { dst := some 63, op := Op.move (Operand.tmp 14), type := 3, pos := "outright.go:266", after := #[{ on := 1, ground := Ground.guard }], guard := some (1, false) }) (v := undef) rfl (by kernel_rfl) (by kernel_rfl) (by kernel_rfl) (fun _ _ _ h => h) (Or.inr ⟨by rfl, rfl⟩) (by assumption) ?_
                try simp only [Act.put, List.setIfInBounds_toArray, List.set_cons_zero, List.set_cons_succ]
                refine wpAnyH_take (i := 9) (oi := { dst := some 64, op := Op.indexAddr 35 (Operand.tmp 62) (Operand.tmp 63), type := 0, pos := "outright.go:266", after := #[{ on := 7, ground := Ground.data }, { on := 8, ground := Ground.data }, { on := 1, ground := Ground.guard }], guard := some (1, false) }) (v := undef) rfl (by kernel_rfl) (by kernel_rfl) (by kernel_rfl) (fun _ _ _ h => h) (Or.inr ⟨by rfl, rfl⟩) (by assumption) ?_
                try simp only [Act.put, List.setIfInBounds_toArray, List.set_cons_zero, List.set_cons_succ]
                refine wpAnyH_take (i := 10) (oi := { dst := some 65, op := Op.load 22 (Operand.tmp 64), type := 22, pos := "outright.go:266", after := #[{ on := 9, ground := Ground.data }, { on := 1, ground := Ground.guard }], guard := some (1, false) }) (v := undef) rfl (by kernel_rfl) (by kernel_rfl) (by kernel_rfl) (fun _ _ _ h => h) (Or.inr ⟨by rfl, rfl⟩) (by assumption) ?_
                try simp only [Act.put, List.setIfInBounds_toArray, List.set_cons_zero, List.set_cons_succ]
                refine wpAnyH_take (i := 11) (oi := { dst := some 66, op := Op.call { callee := Callee.value (Operand.func 50), args := #[Operand.tmp 65], argTypes := #[22] }, type := 76, pos := "outright.go:266", after := #[{ on := 10, ground := Ground.data }, { on := 6, ground := Ground.chain }, { on := 1, ground := Ground.guard }], guard := some (1, false) }) (v := undef) rfl (by kernel_rfl) (by kernel_rfl) (by kernel_rfl) (fun _ _ _ h => h) (Or.inr ⟨by rfl, rfl⟩) (by assumption) ?_
                try simp only [Act.put, List.setIfInBounds_toArray, List.set_cons_zero, List.set_cons_succ]
                refine wpAnyH_take (i := 12) (oi := { dst := some 67, op := Op.binOp BinOp.and 76 (Operand.tmp 61) (Operand.tmp 66) 76, type := 76, pos := "outright.go:266", after := #[{ on := 6, ground := Ground.data }, { on := 11, ground := Ground.data }, { on := 1, ground := Ground.guard }], guard := some (1, false) }) (v := undef) rfl (by kernel_rfl) (by kernel_rfl) (by kernel_rfl) (fun _ _ _ h => h) (Or.inr ⟨by rfl, rfl⟩) (by assumption) ?_
                try simp only [Act.put, List.setIfInBounds_toArray, List.set_cons_zero, List.set_cons_succ]
                refine wpAnyH_take (i := 13) (oi := { dst := some 68, op := Op.binOp BinOp.neq 76 (Operand.tmp 67) (Operand.const (Value.int IntKind.u32 0)) 76, type := 4, pos := "outright.go:266", after := #[{ on := 12, ground := Ground.data }, { on := 1, ground := Ground.guard }], guard := some (1, false) }) (v := undef) rfl (by kernel_rfl) (by kernel_rfl) (by kernel_rfl) (fun _ _ _ h => h) (Or.inr ⟨by rfl, rfl⟩) (by assumption) ?_
                try simp only [Act.put, List.setIfInBounds_toArray, List.set_cons_zero, List.set_cons_succ]
                refine wpAnyH_take (i := 14) (oi := { dst := some 69, op := Op.pick (Operand.tmp 56) (Operand.const (Value.bool true)) (Operand.tmp 68), type := 4, pos := "outright.go:266", after := #[{ on := 1, ground := Ground.data }, { on := 13, ground := Ground.data }], guard := none }) (v := ?_) rfl (by kernel_rfl) (by kernel_rfl) (by kernel_rfl) (fun _ _ _ h => h) (Or.inl ⟨by rfl, ?_⟩) (by assumption) ?_
                rotate_left
                · (intro w hSw; skip; go_simp <;> with_reducible rfl)
                try simp only [Act.put, List.setIfInBounds_toArray, List.set_cons_zero, List.set_cons_succ]
                refine wpAnyH_ready (rs := [15]) (by kernel_rfl) (by simp) ?_
                refine AllReadyH.cons (o := { dst := some 12, op := Op.assign (Operand.tmp 69), type := 4, pos := "outright.go:266", after := #[{ on := 14, ground := Ground.data }, { on := 11, ground := Ground.chain }, { on := 0, ground := Ground.phase }, { on := 1, ground := Ground.phase }, { on := 2, ground := Ground.phase }, { on := 3, ground := Ground.phase }, { on := 4, ground := Ground.phase }, { on := 5, ground := Ground.phase }, { on := 6, ground := Ground.phase }, { on := 7, ground := Ground.phase }, { on := 8, ground := Ground.phase }, { on := 9, ground := Ground.phase }, { on := 10, ground := Ground.phase }, { on := 11, ground := Ground.phase }, { on := 12, ground := Ground.phase }, { on := 13, ground := Ground.phase }, { on := 14, ground := Ground.phase }], guard := none }) rfl (fun K hK => ?_) AllReadyH.nil
                go_simp
                refine hK.out _ _ ?_ (fun hHeld => ?_)
                · exact trivial
                clear hK K
                try simp only [Act.put, List.setIfInBounds_toArray, List.set_cons_zero, List.set_cons_succ]
                refine wpAnyH_done (by kernel_rfl) ?_ _
                have HFR : Hid (Fut w3 wr.drew) := Lib.hid (HFk.out.trans (below_drewN Fut.rfl 1))
                go_wp2_with fail
                exact ⟨⟨k + 1, by omega, by go_num, by rw [HNX.out, Bool.true_or], HFR⟩, by simp [intOf]; omega⟩
            · obtain rfl : k = i := by omega
              have HNX := Lib.hid (HMS.out k)
              go_wp2_with fail
              go_wp2
              exact ⟨⟨k + 1, by omega, by go_num, by rw [HNX.out], HFk⟩, by simp [intOf]; omega⟩
        · obtain rfl : i = F.length := by omega
          have HF4 := Lib.hid (HF3.out.trans HFi.out)
          have HLC4 : Hid (LstC wr fa F) := Lib.hid (HLC.out.fut HFi.out)
          have HOI4 : Hid (IntsAt wr oa o) := Lib.hid (HOI.out.fut HFi.out)
          have HIN4 := Lib.hid (HIN3.out.fut HFi.out)
          have HBP4 := Lib.hid (HBP3.out.fut HFi.out)
          have HBQ4 := Lib.hid (HBQ3.out.fut HFi.out)
          rw [HME.out]
          clear HMS HIS HM0 HI0 HME HFi HF3 HLC HOI HIN3 HBP3 HBQ3
          obtain ⟨mt, hmt⟩ : ∃ mt, mt = (fmE F).isSome := ⟨_, rfl⟩
          rw [← hmt]
          have HMT := Lib.hid hmt
          clear hmt
          generalize wr = w4 at *
          have HKK := Lib.hid (fun k hk => show (lth F k).length ≤ 1000 by have := (HSH.out k hk).1; omega)
          have HOP : Hid (ordP (r : Int) (c : Int) S Y T F = (0, o)) := Lib.hid (ord_good HCK.out HGD.out)
          have HOL3 : Hid (o.length ≤ 3) := Lib.hid (by have := HOL.out; have := HGG.out.three; omega)
          have HFL3 : Hid (F.length ≤ 3) := Lib.hid (by have := HFL.out; have := HGG.out.three; omega)
          have HOR : Hid (∀ W, Fut w4 W → Calls Try.prog 30 #[parV r c sa S.length sc, plaV ya Y.length yc ta T.length tc, .slice fa F.length fc] W (TupL 0 o W)) := Lib.hid (fun W G => by
            have h := order_any r c sa sc S ya yc Y ta tc T fa fc F W (HIN4.out.fut G) (HLC4.out.lst.fut G) (by have := HFL3.out; omega) HKK.out
            rwa [HOP.out] at h)
          have HSM : Hid (∀ W la lc, Fut w4 W → IntsAt W la o → Calls Try.prog 34 #[.slice la o.length lc, .slice oa o.length oc] W fun e w' => e = .returned (.bool true) ∧ Fut W w') := Lib.hid (fun W la lc G h1 => by
            have h := same_any la oa lc oc o o W (by have := HOL3.out; omega) (by have := HOL3.out; omega) h1 (HOI4.out.fut G)
            refine h.mono ?_
            rintro _ w' ⟨rfl, qq, rfl⟩
            exact ⟨by simp [sameB], Fut.drewN _ _⟩)
          have HAP : Hid (∀ W, Fut w4 W → Calls Try.prog 35 #[parV r c sa S.length sc, plaV ya Y.length yc ta T.length tc, .slice fa F.length fc] W fun e w' => e = .returned (.int .i64 (if mt = true then 13 else 0)) ∧ Fut W w') := Lib.hid (fun W G => by
            have h := apart_any r c sa sc S ya yc Y ta tc T fa fc F W (HIN4.out.fut G) (HLC4.out.lst.fut G) (by have := HFL3.out; omega) HKK.out
            rwa [show aptE r c S Y T F = (if mt = true then 13 else 0) by unfold aptE; rw [HOP.out, if_pos rfl, HMT.out]] at h)
          have HSW : Hid (∀ W, Fut w4 W → Calls Try.prog 32 #[parV r c sa S.length sc, plaV ya Y.length yc ta T.length tc, .slice fa F.length fc] W (TupLC (if mt = true then 0 else 13) (if mt = true then phiF F else []) W)) := Lib.hid (fun W G => by
            have h := swap_any r c sa sc S ya yc Y ta tc T fa fc F W (HIN4.out.fut G) (HLC4.out.fut G) (by have := HFL3.out; omega) HKK.out
            rwa [show swE r c S Y T F = (if mt = true then 0 else 13) by unfold swE; rw [HOP.out, if_pos rfl, HMT.out], show swL r c S Y T F = (if mt = true then phiF F else []) by
              unfold swL phiF
              rw [HOP.out, if_pos rfl, HMT.out]
              cases fmE F <;> rfl] at h)
          obtain ⟨_, p0, p1, p2⟩ := HBP4.out
          obtain ⟨_, q0, q1⟩ := HBQ4.out
          go_wp2_with fail
          refine (HOR.out _ Fut.rfl).mono ?_
          rintro _ w5 ⟨l5, c5, rfl, hI5, F5⟩
          have HI5 := Lib.hid hI5
          have HG5 := Lib.hid F5
          clear p0 p1 p2 q0 q1 hI5 F5
          obtain ⟨_, p0, p1, p2⟩ := HBP4.out.fut HG5.out
          obtain ⟨_, q0, q1⟩ := HBQ4.out.fut HG5.out
          cases mt
          · go_wp2_with fail
            refine (HSW.out _ HG5.out).mono ?_
            rintro _ w6 ⟨l6, c6, rfl, _, _, _, F6⟩
            simp only [if_false, Bool.false_eq_true, List.length_nil]
            have HG6 := Lib.hid (HG5.out.trans F6)
            have HI6 := Lib.hid (HI5.out.fut F6)
            clear p0 p1 p2 q0 q1 F6 HI5 HG5
            go_wp2_with fail
            refine (HSM.out _ l5 c5 HG6.out HI6.out).mono ?_
            rintro _ w7 ⟨rfl, F7⟩
            have HG7 := Lib.hid (HG6.out.trans F7)
            clear HI6 HG6 F7
            obtain ⟨_, p0, p1, p2⟩ := HBP4.out.fut HG7.out
            obtain ⟨_, q0, q1⟩ := HBQ4.out.fut HG7.out
            go_wp2_with fail
            refine (HAP.out _ HG7.out).mono ?_
            rintro _ w8 ⟨rfl, F8⟩
            simp only [if_false, Bool.false_eq_true]
            have HF8 := Lib.hid (HF4.out.trans (HG7.out.trans F8))
            clear F8 p0 p1 p2 q0 q1
            go_wp2_with fail
            refine (works_any _).mono ?_
            rintro _ w9 ⟨rfl, F9⟩
            have HF9 := Lib.hid (HF8.out.trans F9)
            clear F9
            go_wp2_with fail
            go_ret
            exact ⟨rfl, HF9.out⟩
          · go_wp2_with fail
            refine (HSW.out _ HG5.out).mono ?_
            rintro _ w6 ⟨l6, c6, rfl, hc6, hd6, hL6, F6⟩
            simp only [if_true] at hL6 hc6 hd6 ⊢
            have HG6 := Lib.hid (HG5.out.trans F6)
            have HL6 := Lib.hid hL6
            have HI6 := Lib.hid (HI5.out.fut F6)
            clear p0 p1 p2 q0 q1 hL6 F6 HI5 HG5
            go_wp2_with fail
            refine (HSM.out _ l5 c5 HG6.out HI6.out).mono ?_
            rintro _ w7 ⟨rfl, F7⟩
            have HG7 := Lib.hid (HG6.out.trans F7)
            have HL7 := Lib.hid (HL6.out.fut F7)
            clear HL6 HI6 HG6 F7
            obtain ⟨_, p0, p1, p2⟩ := HBP4.out.fut HG7.out
            obtain ⟨_, q0, q1⟩ := HBQ4.out.fut HG7.out
            obtain ⟨o', hGD', hm', hpp, hol', hsg, hprm, hch⟩ := swap_facts HGG.out HGD.out (by rw [← HMT.out])
            generalize phiF F = G at *
            have hGL : G.length = F.length := by rw [hGD'.fl, HGD.out.fl]
            rw [hGL]
            have HLG : Hid (LstC w7 l6 G) := HL7
            have HSG := Lib.hid (gd_short HGG.out hGD')
            have HGD' := Lib.hid hGD'
            have HPP := Lib.hid hpp
            have HOL' := Lib.hid hol'
            have HSGN := Lib.hid hsg
            have HPRM := Lib.hid hprm
            have HCH := Lib.hid hch
            have HGLN := Lib.hid hGL
            have HOP' : Hid (ordP (r : Int) (c : Int) S Y T G = (0, o')) := Lib.hid (ord_good HCK.out hGD')
            have HM' := Lib.hid hm'
            clear hGD' hpp hol' hsg hprm hch hGL hm' HL7
            have HKG := Lib.hid (fun k hk => show (lth G k).length ≤ 1000 by have := (HSG.out k hk).1; omega)
            have HOR' : Hid (∀ W, Fut w7 W → Calls Try.prog 30 #[parV r c sa S.length sc, plaV ya Y.length yc ta T.length tc, .slice l6 F.length c6] W (TupL 0 o' W)) := Lib.hid (fun W X => by
              have h := order_any r c sa sc S ya yc Y ta tc T l6 c6 G W (HIN4.out.fut (HG7.out.trans X)) (HLG.out.lst.fut X) (by have := HFL3.out; have := HGLN.out; omega) HKG.out
              rwa [HOP'.out, HGLN.out] at h)
            have HSW' : Hid (∀ W, Fut w7 W → Calls Try.prog 32 #[parV r c sa S.length sc, plaV ya Y.length yc ta T.length tc, .slice l6 F.length c6] W (TupLC 0 F W)) := Lib.hid (fun W X => by
              have h := swap_any r c sa sc S ya yc Y ta tc T l6 c6 G W (HIN4.out.fut (HG7.out.trans X)) (HLG.out.fut X) (by have := HFL3.out; have := HGLN.out; omega) HKG.out
              rwa [HGLN.out, show swE r c S Y T G = 0 by unfold swE; rw [HOP'.out, if_pos rfl, if_pos HM'.out], show swL r c S Y T G = F by
                have e := HPP.out
                have e2 := HM'.out
                unfold phiF at e
                unfold swL
                rw [HOP'.out, if_pos rfl]
                cases hf : fmE G with
                | none => rw [hf] at e2; cases e2
                | some v => rw [hf] at e; exact e] at h)
            go_wp2_with fail
            refine (HAP.out _ HG7.out).mono ?_
            rintro _ w8 ⟨rfl, F8⟩
            have HG8 := Lib.hid (HG7.out.trans F8)
            have HH8 := Lib.hid F8
            simp only [if_true]
            clear p0 p1 p2 q0 q1 F8
            obtain ⟨_, p0, p1, p2⟩ := HBP4.out.fut HG8.out
            obtain ⟨_, q0, q1⟩ := HBQ4.out.fut HG8.out
            go_wp2_with fail
            refine (HOR'.out _ HH8.out).mono ?_
            rintro _ w9 ⟨l9, c9, rfl, hI9, F9⟩
            have HG9 := Lib.hid (HG8.out.trans F9)
            have HH9 := Lib.hid (HH8.out.trans F9)
            have HI9 := Lib.hid hI9
            clear p0 p1 p2 q0 q1 F9 hI9 HG8 HH8
            obtain ⟨_, p0, p1, p2⟩ := HBP4.out.fut HG9.out
            obtain ⟨_, q0, q1⟩ := HBQ4.out.fut HG9.out
            rw [HOL'.out]
            go_wp2_with fail
            refine (HSW'.out _ HH9.out).mono ?_
            rintro _ w10 ⟨l10, c10, rfl, hc10, hd10, hL10, F10⟩
            have HG10 := Lib.hid (HG9.out.trans F10)
            have HH10 := Lib.hid (HH9.out.trans F10)
            have HI10 := Lib.hid (HI9.out.fut F10)
            have HL10 := Lib.hid hL10
            have HALK : Hid (∀ W, Fut w10 W → Calls Try.prog 20 #[.slice l10 F.length c10, .slice fa F.length fc] W fun e w' => e = .returned (.bool true) ∧ Fut W w') := Lib.hid (fun W X => lists_self F W (HL10.out.fut X) (HLC4.out.fut (HG10.out.trans X)) (by have := HFL3.out; omega))
            have HSG1 : Hid (∀ W, Fut w10 W → Calls Try.prog 44 #[.slice l9 o.length c9] W fun e w' => e = .returned (.int .i64 (sgnO o')) ∧ Fut W w') := Lib.hid (fun W X => by
              have h := sign_any l9 c9 o' W (HI10.out.fut X) (by rw [HOL'.out]; have := HOL3.out; omega)
              rw [HOL'.out] at h
              refine h.mono ?_
              rintro _ w' ⟨rfl, qq, rfl⟩
              exact ⟨rfl, Fut.drewN _ _⟩)
            have HSG2 : Hid (∀ W, Fut w10 W → Calls Try.prog 44 #[.slice oa o.length oc] W fun e w' => e = .returned (.int .i64 (sgnO o)) ∧ Fut W w') := Lib.hid (fun W X => by
              have h := sign_any oa oc o W (HOI4.out.fut (HG10.out.trans X)) (by have := HOL3.out; omega)
              refine h.mono ?_
              rintro _ w' ⟨rfl, qq, rfl⟩
              exact ⟨rfl, Fut.drewN _ _⟩)
            clear p0 p1 p2 q0 q1 F10 hL10 hc10 hd10 HG9 HH9 HI9
            go_wp2_with fail
            refine (HALK.out _ Fut.rfl).mono ?_
            rintro _ w11 ⟨rfl, F11⟩
            have HH11 := Lib.hid F11
            clear F11
            go_wp2_with fail
            refine (HSG1.out _ HH11.out).mono ?_
            rintro _ w12 ⟨rfl, F12⟩
            have HH12 := Lib.hid (HH11.out.trans F12)
            clear F12 HH11
            go_wp2_with fail
            refine (HSG2.out _ HH12.out).mono ?_
            rintro _ w13 ⟨rfl, F13⟩
            have HH13 := Lib.hid (HH12.out.trans F13)
            clear F13 HH12
            have hsne : ¬ sgnO o' = sgnO o := HSGN.out
            go_wp2_with fail
            have HG13 := Lib.hid (HG10.out.trans HH13.out)
            have HLF13 := Lib.hid (HLC4.out.fut HG13.out)
            have HLG13 : Hid (LstC w13 l6 G) := Lib.hid (HLG.out.fut (HH10.out.trans HH13.out))
            have HFN : Hid (F.flatten.length ≤ 1000) := Lib.hid (flat_short HFL3.out fun k hk => (HSH.out k hk).1)
            have HGN3 : Hid (G.length ≤ 3) := Lib.hid (by have := HGLN.out; have := HFL3.out; omega)
            have HGN : Hid (G.flatten.length ≤ 1000) := Lib.hid (flat_short HGN3.out fun k hk => (HSG.out k hk).1)
            have HG14 := Lib.hid (HF4.out.trans HG13.out)
            clear hsne HALK HSG1 HSG2 HL10 HI10 HH10 HH13 HG10 HSGN HOR HOR' HSW HSW' HSM HAP HOP HOP' HM' HPP HIN4 HBP4 HBQ4 HOI4 HG7 HF4
            clear HLG HG13 HOL' HGD'
            obtain ⟨A, hAe⟩ : ∃ A, A = F.flatten := ⟨_, rfl⟩
            obtain ⟨Bl, hBe⟩ : ∃ Bl, Bl = G.flatten := ⟨_, rfl⟩
            rw [← hAe] at HFN HPRM
            rw [← hBe] at HGN HPRM
            have HC1 : Hid (Calls Try.prog 46 #[.slice fa F.length fc] w13 fun e w' => ∃ v, e = .returned v ∧ Owns w' w13.heap.size v A ∧ Fut w13 w') := Lib.hid (by
              rw [hAe]
              exact concat_any fa fc F w13 HLF13.out.lst (by have := HFL3.out; omega) HKK.out)
            have HC2F : Hid (∀ W, LstC W l6 G → Calls Try.prog 46 #[.slice l6 F.length c6] W fun e w' => ∃ v, e = .returned v ∧ Owns w' W.heap.size v Bl ∧ Fut W w') := Lib.hid (fun W X => by
              have h := concat_any l6 c6 G W X.lst (by have := HGN3.out; omega) HKG.out
              rwa [HGLN.out, ← hBe] at h)
            clear hAe hBe
            refine HC1.out.mono ?_
            rintro _ w14 ⟨v14, rfl, hO14, F14⟩
            obtain ⟨a14, c14, rfl, _, _, _⟩ := hO14.form
            have HO14 := Lib.hid hO14
            have HH14 := Lib.hid F14
            have HLG14 : Hid (LstC w14 l6 G) := Lib.hid (HLG13.out.fut F14)
            clear HC1 hO14 F14
            go_wp2_with fail
            refine (HC2F.out w14 HLG14.out).mono ?_
            rintro _ w15 ⟨v15, rfl, hO15, F15⟩
            obtain ⟨a15, c15, rfl, _, _, _⟩ := hO15.form
            rw [← HPRM.out.length_eq] at *
            have HO14b := Lib.hid (HO14.out.fut F15)
            have HAP14 : Hid (∀ g, (Value.slice a14 A.length c14).ownBlock = some g → g < w14.heap.size) := Lib.hid (fun g hg => (World.ownsRow.lt HO14.out g hg).2)
            have HO15 := Lib.hid hO15
            have HH15 := Lib.hid (HH14.out.trans F15)
            have HGF : Hid (Bl.length = A.length) := Lib.hid HPRM.out.length_eq.symm
            have HZE : Hid (srtI Bl = srtI A) := Lib.hid (srt_eq_of_perm HPRM.out.symm)
            have HZL : Hid ((srtI A).length = A.length) := Lib.hid (srt_len _)
            clear HC2F hO15 F15 HO14
            go_wp2_with fail
            have HS1 := Lib.hid (sort_first HO14b.out rfl HFN.out HO15.out HAP14.out)
            refine HS1.out.mono ?_
            rintro _ w16 ⟨rfl, hI16, hO16, hB16⟩
            have HI16 := Lib.hid hI16
            have HO16 := Lib.hid hO16
            have HH16 : Hid (Fut w13 w16) := Lib.hid (RowKit.Below.trans HH15.out hB16)
            clear HS1 hI16 hO16 hB16 HO14b HO15 HH15
            go_wp2_with fail
            have HS2 := Lib.hid (sort_second HO16.out HGF.out.symm (by rw [HGF.out]; exact HGN.out) HI16.out (fun g hg => HAP14.out g.block (by rw [hg]; rfl)))
            refine HS2.out.mono ?_
            rintro _ w17 ⟨rfl, hI17, hJ17, hB17⟩
            rw [HZE.out] at hI17
            have HS3 : Hid (Calls Try.prog 34 #[.slice a14 A.length c14, .slice a15 A.length c15] w17 fun e w' => e = .returned (.bool true) ∧ Fut w17 w') := Lib.hid (by
              have h := same_any a14 a15 c14 c15 (srtI A) (srtI A) w17 (by have := HZL.out; have := HFN.out; omega) (by have := HZL.out; have := HFN.out; omega) hJ17 hI17
              rw [HZL.out] at h
              refine h.mono ?_
              rintro _ w' ⟨rfl, qq, rfl⟩
              exact ⟨by simp [sameB], Fut.drewN _ _⟩)
            have HH17 : Hid (Fut w13 w17) := Lib.hid (RowKit.Below.trans HH16.out (RowKit.Below.mono hB17 (RowKit.Below.size HH14.out)))
            clear HS2 hI17 hJ17 hB17 HI16 HO16 HH16 HZE HZL HGF HPRM HAP14 HFN HGN
            go_wp2_with fail
            refine HS3.out.mono ?_
            rintro _ w18 ⟨rfl, F18⟩
            have HH18 := Lib.hid (HH17.out.trans F18)
            have HF18 := Lib.hid (HG14.out.trans HH18.out)
            have HLF18 := Lib.hid (HLF13.out.fut HH18.out)
            have HLG18 := Lib.hid (HLG13.out.fut HH18.out)
            have HC0 : Hid (chN F G 0 = 0) := Lib.hid rfl
            have HC1 := Lib.hid (fun k (h : lth F k = lth G k) => show chN F G (k + 1) = chN F G k by rw [chN, if_pos h]; rfl)
            have HC2 := Lib.hid (fun k (h : ¬ lth F k = lth G k) => show chN F G (k + 1) = chN F G k + 1 by rw [chN, if_neg h])
            have HCE : Hid (chN F G F.length = 2) := Lib.hid (by rw [HFL.out]; exact HCH.out)
            have HCB : Hid (∀ k, k ≤ F.length → chN F G k ≤ k) := Lib.hid (fun k _ => chN_le F G k)
            clear HS3 F18 HH18 HH17 HG14 HH14 HLF13 HLG13 HLG14 HLC4 HCH
            have hlx := HLX.out
            go_wp2_with fail
            go_loopw [23, 183] (fun nv iv wr => ∃ i : Nat, i ≤ F.length ∧ iv = .int .i64 i ∧ nv = .int .i64 (chN F G i : Nat) ∧ Hid (Fut w18 wr)) (fun _ iv _ => F.length - (intOf iv).toNat)
            case atStart => exact ⟨0, Nat.zero_le _, rfl, by rw [HC0.out]; rfl, Lib.hid Fut.rfl⟩
            case round =>
              obtain ⟨i, hi, rfl, rfl, HFi⟩ := hrel
              by_cases hil : i < F.length
              · have hix : (i : Int) < F.length := by omega
                go_upto_region 38 with fail
                obtain ⟨fb, fo, ra, rac, rfl, hfb, d1, _, _, hIa⟩ := HLF18.out i hil
                obtain ⟨gb, go_, rb, rbc, rfl, hgb, d2, _, _, hIb⟩ := HLG18.out i (by rw [HGLN.out]; exact hil)
                have hA := (HSH.out i hil).1
                have hB := (HSG.out i (by rw [HGLN.out]; exact hil)).1
                have hN1 := HC1.out i
                have hN2 := HC2.out i
                have hNB := HCB.out i (by omega)
                generalize lth F i = A at *
                generalize lth G i = Bl at *
                generalize hce : chN F G i = ci at *
                generalize hce2 : chN F G (i + 1) = cj at *
                have HCI := Lib.hid hce
                have HCJ := Lib.hid hce2
                clear hce hce2
                have FD : Fut w18 wr.drew := HFi.out.trans (below_drewN Fut.rfl 1)
                have keepI : ∀ W, Fut wr.drew W → W.cell? ⟨fb, fo + i, none⟩ = some (.slice ra A.length rac) ∧ W.cell? ⟨gb, go_ + i, none⟩ = some (.slice rb Bl.length rbc) := fun W X => ⟨(RowKit.Below.cell (FD.trans X) (p := ⟨fb, fo + i, none⟩) hfb).trans d1, (RowKit.Below.cell (FD.trans X) (p := ⟨gb, go_ + i, none⟩) hgb).trans d2⟩
                have HSA := Lib.hid (fun (_ : Unit) => same_any ra rb rac rbc A Bl wr.drew (by omega) (by omega) (hIa.fut FD) (hIb.fut FD))
                have HN1 := Lib.hid hN1
                have HN2 := Lib.hid hN2
                have HFR := Lib.hid FD
                have hiG : (i : Int) < (F.length : Int) := hix
                clear d1 d2 hIa hIb hA hB FD hN1 hN2
                refine wp_region_held_drew (S := (fun w' => w'.cell? ⟨fb, fo + i, none⟩ = some (.slice ra A.length rac) ∧ w'.cell? ⟨gb, go_ + i, none⟩ = some (.slice rb Bl.length rbc))) (by kernel_rfl) ?_ (fun hHeld => ?_)
                · exact keepI _ Fut.rfl
                generalize wr.drew = u0 at *
                refine wpAnyH_take (i := 0) (oi := { dst := some 186, op := Op.move (Operand.tmp 10), type := 35, pos := "outright.go:294", after := #[], guard := none }) (v := ?_) rfl (by kernel_rfl) (by kernel_rfl) (by kernel_rfl) (fun _ _ _ h => h) (Or.inl ⟨by rfl, ?_⟩) (by assumption) ?_
                rotate_left
                · (intro w hSw; (obtain ⟨s0, s1⟩ := hSw); go_simp <;> with_reducible rfl)
                try simp only [Act.put, List.setIfInBounds_toArray, List.set_cons_zero, List.set_cons_succ]
                refine wpAnyH_take (i := 1) (oi := { dst := some 187, op := Op.move (Operand.tmp 24), type := 3, pos := "outright.go:294", after := #[], guard := none }) (v := ?_) rfl (by kernel_rfl) (by kernel_rfl) (by kernel_rfl) (fun _ _ _ h => h) (Or.inl ⟨by rfl, ?_⟩) (by assumption) ?_
                rotate_left
                · (intro w hSw; (obtain ⟨s0, s1⟩ := hSw); go_simp <;> with_reducible rfl)
                try simp only [Act.put, List.setIfInBounds_toArray, List.set_cons_zero, List.set_cons_succ]
                refine wpAnyH_take (i := 2) (oi := { dst := some 188, op := Op.indexAddr 35 (Operand.tmp 186) (Operand.tmp 187), type := 0, pos := "outright.go:294", after := #[{ on := 0, ground := Ground.data }, { on := 1, ground := Ground.data }], guard := none }) (v := ?_) rfl (by kernel_rfl) (by kernel_rfl) (by kernel_rfl) (fun _ _ _ h => h) (Or.inl ⟨by rfl, ?_⟩) (by assumption) ?_
                rotate_left
                · (intro w hSw; (obtain ⟨s0, s1⟩ := hSw); go_simp <;> with_reducible rfl)
                try simp only [Act.put, List.setIfInBounds_toArray, List.set_cons_zero, List.set_cons_succ]
                refine wpAnyH_take (i := 3) (oi := { dst := some 189, op := Op.load 22 (Operand.tmp 188), type := 22, pos := "outright.go:294", after := #[{ on := 2, ground := Ground.data }], guard := none }) (v := ?_) rfl (by kernel_rfl) (by kernel_rfl) (by kernel_rfl) (fun _ _ _ h => h) (Or.inl ⟨by rfl, ?_⟩) (by assumption) ?_
                rotate_left
                · (intro w hSw; (obtain ⟨s0, s1⟩ := hSw); go_simp <;> with_reducible rfl)
                try simp only [Act.put, List.setIfInBounds_toArray, List.set_cons_zero, List.set_cons_succ]
                refine wpAnyH_take (i := 4) (oi := { dst := some 190, op := Op.move (Operand.tmp 17), type := 35, pos := "outright.go:294", after := #[], guard := none }) (v := ?_) rfl (by kernel_rfl) (by kernel_rfl) (by kernel_rfl) (fun _ _ _ h => h) (Or.inl ⟨by rfl, ?_⟩) (by assumption) ?_
                rotate_left
                · (intro w hSw; (obtain ⟨s0, s1⟩ := hSw); go_simp <;> with_reducible rfl)
                try simp only [Act.put, List.setIfInBounds_toArray, List.set_cons_zero, List.set_cons_succ]
                refine wpAnyH_take (i := 5) (oi := { dst := some 191, op := Op.move (Operand.tmp 24), type := 3, pos := "outright.go:294", after := #[], guard := none }) (v := ?_) rfl (by kernel_rfl) (by kernel_rfl) (by kernel_rfl) (fun _ _ _ h => h) (Or.inl ⟨by rfl, ?_⟩) (by assumption) ?_
                rotate_left
                · (intro w hSw; (obtain ⟨s0, s1⟩ := hSw); go_simp <;> with_reducible rfl)
                try simp only [Act.put, List.setIfInBounds_toArray, List.set_cons_zero, List.set_cons_succ]
                refine wpAnyH_take (i := 6) (oi := { dst := some 192, op := Op.indexAddr 35 (Operand.tmp 190) (Operand.tmp 191), type := 0, pos := "outright.go:294", after := #[{ on := 4, ground := Ground.data }, { on := 5, ground := Ground.data }], guard := none }) (v := ?_) rfl (by kernel_rfl) (by kernel_rfl) (by kernel_rfl) (fun _ _ _ h => h) (Or.inl ⟨by rfl, ?_⟩) (by assumption) ?_
                rotate_left
                · (intro w hSw; (obtain ⟨s0, s1⟩ := hSw); go_simp <;> with_reducible rfl)
                try simp only [Act.put, List.setIfInBounds_toArray, List.set_cons_zero, List.set_cons_succ]
                refine wpAnyH_take (i := 7) (oi := { dst := some 193, op := Op.load 22 (Operand.tmp 192), type := 22, pos := "outright.go:294", after := #[{ on := 6, ground := Ground.data }], guard := none }) (v := ?_) rfl (by kernel_rfl) (by kernel_rfl) (by kernel_rfl) (fun _ _ _ h => h) (Or.inl ⟨by rfl, ?_⟩) (by assumption) ?_
                rotate_left
                · (intro w hSw; (obtain ⟨s0, s1⟩ := hSw); go_simp <;> with_reducible rfl)
                try simp only [Act.put, List.setIfInBounds_toArray, List.set_cons_zero, List.set_cons_succ]
                refine wpAnyH_ready (rs := [8]) (by kernel_rfl) (by simp) ?_
                refine AllReadyH.cons (o := { dst := some 194, op := Op.call { callee := Callee.value (Operand.func 34), args := #[Operand.tmp 189, Operand.tmp 193], argTypes := #[22, 22] }, type := 4, pos := "outright.go:294", after := #[{ on := 3, ground := Ground.data }, { on := 7, ground := Ground.data }], guard := none }) rfl (fun K hK => ?_) AllReadyH.nil
                go_simp
                go_at_call 34
                refine (HSA.out ()).mono ?_
                rintro _ w19 ⟨rfl, qq, hqq⟩
                have HF19 : Hid (Fut u0 w19) := Lib.hid (by rw [hqq]; exact Fut.drewN _ _)
                clear hqq
                try go_wp2_with fail
                refine hK.out _ _ ?_ (fun hHeld => ?_)
                · exact keepI _ HF19.out
                clear hK K
                try simp only [Act.put, List.setIfInBounds_toArray, List.set_cons_zero, List.set_cons_succ]
                refine wpAnyH_take (i := 9) (oi := { dst := some 195, op := Op.unOp UnOp.not 4 (Operand.tmp 194), type := 4, pos := "outright.go:294", after := #[{ on := 8, ground := Ground.data }], guard := none }) (v := ?_) rfl (by kernel_rfl) (by kernel_rfl) (by kernel_rfl) (fun _ _ _ h => h) (Or.inl ⟨by rfl, ?_⟩) (by assumption) ?_
                rotate_left
                · (intro w hSw; (obtain ⟨s0, s1⟩ := hSw); go_simp <;> with_reducible rfl)
                try simp only [Act.put, List.setIfInBounds_toArray, List.set_cons_zero, List.set_cons_succ]
                refine wpAnyH_done (by kernel_rfl) ?_ _
                skip
                have HFZ := Lib.hid (HFR.out.trans HF19.out)
                by_cases he : A = Bl
                · have hs : sameB A Bl = true := by simp [sameB, he]
                  rw [hs]
                  have HEQ := Lib.hid (HN1.out he)
                  clear hs he hHeld keepI HN1 HN2
                  go_wp2_with fail
                  exact ⟨⟨i + 1, by omega, by go_num, by rw [HCJ.out, HEQ.out], HFZ⟩, by simp [intOf]; omega⟩
                · have hs : sameB A Bl = false := by simp [sameB, he]
                  rw [hs]
                  have HEQ := Lib.hid (HN2.out he)
                  clear hs he hHeld keepI HN1 HN2
                  go_wp2_with fail
                  exact ⟨⟨i + 1, by omega, by go_num, by rw [HCJ.out, HEQ.out]; rfl, HFZ⟩, by simp [intOf]; omega⟩
              · obtain rfl : i = F.length := by omega
                have HF19 := Lib.hid (HF18.out.trans HFi.out)
                rw [HCE.out]
                go_wp2_with fail
                refine (works_any _).mono ?_
                rintro _ w20 ⟨rfl, F20⟩
                have HF20 := Lib.hid (HF19.out.trans F20)
                clear F20
                go_wp2_with fail
                go_ret
                exact ⟨rfl, HF20.out⟩
end Go.Proofs.Ytflllkamdihfaaa
