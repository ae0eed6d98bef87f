/- LaneShut: law12_any -/
import Derived.Test.YtflllkamdihfaaaLGE
import Derived.Test.YtflllkamdihfaaaLGC
import Derived.Test.YtflllkamdihfaaaLGA
import Derived.Test.YtflllkamdihfaaaLGB
import Derived.Test.YtflllkamdihfaaaLBG
import Derived.Test.YtflllkamdihfaaaLBJ
import Derived.Test.YtflllkamdihfaaaLMA
import Derived.Test.YtflllkamdihfaaaLMC
import Derived.Test.YtflllkamdihfaaaLGD
import Derived.Test.YtflllkamdihfaaaLGS
import Derived.Test.YtflllkamdihfaaaLCD
import Derived.Test.YtflllkamdihfaaaLMB
import Derived.Deep.DeepCutAuto
namespace Go.Proofs.Ytflllkamdihfaaa
open Go.RowKit Go.Sort
set_option maxRecDepth 100000 in
set_option maxHeartbeats 8000000 in
theorem law12_any (t : Nat → Nat) (ht : t 3 ≤ 65535 ∧ ∀ j, j ≠ 3 → t j ≤ 255) (o f q : Nat) (ho : o ≤ 255) (hf : f ≤ 255) (hq : q ≤ 255) (w : World) :
    Calls Try.prog 12 #[planV t, .int .u8 o, .int .u8 f, .int .u8 q] w fun e w' => e = .returned (.bool true) ∧ Fut w w' := by
  have HMD := Lib.hid (fun W => made_any t ht W)
  have HF0 : Hid (Fut w (w.alloc (.cells #[.int .u8 (t 0 : Nat), .int .u8 (t 1 : Nat), .int .u8 (t 2 : Nat), .int .u16 (t 3 : Nat), .int .u8 (t 4 : Nat), .int .u8 (t 5 : Nat), .int .u8 (t 6 : Nat), .int .u8 (t 7 : Nat), .int .u8 (t 8 : Nat), .int .u8 (t 9 : Nat)] 63))) := Lib.hid (Fut.alloc _ _)
  unfold planV at *
  go_enter Try.func12, Try.ntmps12
  go_wp2_with fail
  refine (HMD.out _).mono ?_
  rintro _ w1 ⟨sa, sc, ya, yc, ta, tc, rfl, hS, hY, hT, F1⟩
  have HF1 := Lib.hid (HF0.out.trans F1)
  have hA : Fut w1 ((w1.alloc (.cells #[.int .i64 (mR t : Nat), .int .i64 (mC t : Nat), .slice sa (mS t).length sc] 24)).alloc (.cells #[.slice ya (mY t).length yc, .slice ta (mT t).length tc] 26)) := (Fut.alloc _ _).trans (Fut.alloc _ _)
  have hBP := (BoxP.new w1 (mR t : Nat) (mC t : Nat) sa (mS t).length sc).fut (Fut.alloc _ (.cells #[.slice ya (mY t).length yc, .slice ta (mT t).length tc] 26))
  have hBQ := BoxQ.new (w1.alloc (.cells #[.int .i64 (mR t : Nat), .int .i64 (mC t : Nat), .slice sa (mS t).length sc] 24)) ya (mY t).length yc ta (mT t).length tc
  rw [World.size_alloc] at hBQ
  have HF2 := Lib.hid (HF1.out.trans hA)
  have HBP := Lib.hid hBP
  have HBQ := Lib.hid hBQ
  have hS2 := hS.fut hA
  have hY2 := hY.fut hA
  have hT2 := hT.fut hA
  clear HMD HF0 HF1 hBP hBQ hA hS hY hT F1
  cases hok : mOk t
  · clear hS2 hY2 hT2 HBP HBQ hok
    go_wp2_with fail
    refine (works_any _).mono ?_
    rintro _ w3 ⟨rfl, F⟩
    have HF3 := Lib.hid (HF2.out.trans F)
    clear F
    go_wp2_with fail
    go_ret
    exact ⟨rfl, HF3.out⟩
  · have hck := made_chk hok
    have hg := made_g hok
    have hsin := made_sin t
    have hsl : (mS t).length ≤ 16 := Nat.le_trans (shL_len _ _) (by unfold mR mC; exact Nat.mul_le_mul (show 1 + t 0 % 4 ≤ 4 by omega) (show 1 + t 1 % 4 ≤ 4 by omega))
    have HSA : Hid ((mS t).Pairwise (· < ·)) := Lib.hid (sh_asc _ _)
    have h : InPQ _ sa (mS t) ya yc (mY t) ta tc (mT t) := inpq_made hS2 hY2 hT2 (by omega) (by have := hg.three; omega) (by have := hg.three; have := hg.len; omega)
    have HIN := Lib.hid h
    have HOS := Lib.hid hS2
    have HCK := Lib.hid hck
    have HGG := Lib.hid hg
    have HSIN := Lib.hid hsin
    obtain ⟨M, hM⟩ : ∃ M, M = mR t * mC t := ⟨_, rfl⟩
    have HMI : Hid (((mR t : Nat) : Int) * ((mC t : Nat) : Int) = (M : Int)) := Lib.hid (by rw [hM, Int.natCast_mul])
    have hM16 : 1 ≤ M ∧ M ≤ 16 := by have := side_m hg.side; rw [HMI.out] at this; omega
    have HRC : Hid (1 ≤ mR t ∧ mR t ≤ 4 ∧ 1 ≤ mC t ∧ mC t ≤ 4) := Lib.hid (by unfold mR mC; omega)
    clear hS2 hY2 hT2 hok hck hg hsin h hM
    generalize mR t = r at *
    generalize mC t = c at *
    generalize mS t = S at *
    generalize mY t = Y at *
    generalize mT t = T at *
    obtain ⟨hM1, hM2⟩ := hM16
    have hwM : IntKind.i64.wrap ((r : Int) * (c : Int)) = (M : Int) := by rw [HMI.out]; exact IntWalk.i64_in _ ⟨by omega, by omega⟩
    obtain ⟨x, hx⟩ : ∃ x, x = f % M := ⟨_, rfl⟩
    obtain ⟨y, hy⟩ : ∃ y, y = q % M := ⟨_, rfl⟩
    have hxM : x < M := by rw [hx]; exact Nat.mod_lt _ (by omega)
    have hyM : y < M := by rw [hy]; exact Nat.mod_lt _ (by omega)
    have hwf : IntKind.i64.wrap ((f : Nat) : Int) = ((f : Nat) : Int) := IntWalk.i64_in _ ⟨by omega, by omega⟩
    have hwq : IntKind.i64.wrap ((q : Nat) : Int) = ((q : Nat) : Int) := IntWalk.i64_in _ ⟨by omega, by omega⟩
    have hxr : (IntKind.i64.wrap ((f : Nat) : Int)).tmod (M : Int) = (x : Int) := by rw [hwf, Int.tmod_eq_emod_of_nonneg (by omega), hx]; simp
    have hyr : (IntKind.i64.wrap ((q : Nat) : Int)).tmod (M : Int) = (y : Int) := by rw [hwq, Int.tmod_eq_emod_of_nonneg (by omega), hy]; simp
    have hwx : IntKind.i64.wrap (x : Int) = (x : Int) := IntWalk.i64_in _ ⟨by omega, by omega⟩
    have hwy : IntKind.i64.wrap (y : Int) = (y : Int) := IntWalk.i64_in _ ⟨by omega, by omega⟩
    have hM0 : ¬ (M : Int) = 0 := by omega
    clear hx hy
    obtain ⟨_, p0, p1, p2⟩ := HBP.out
    obtain ⟨_, q0, q1⟩ := HBQ.out
    go_wp2_with fail
    generalize hW2 : (w1.alloc (.cells #[.int .i64 (r : Int), .int .i64 (c : Int), .slice sa S.length sc] 24)).alloc (.cells #[.slice ya Y.length yc, .slice ta T.length tc] 26) = w2 at *
    clear hW2
    go_upto_region 5 with fail
    go_quiet (fail)
    rw [hwf] at hxr
    rw [hwq] at hyr
    have hxr2 : ((f : Nat) : Int) % (M : Int) = (x : Int) := by rw [← hxr, Int.tmod_eq_emod_of_nonneg (by omega)]
    have hyr2 : ((q : Nat) : Int) % (M : Int) = (y : Int) := by rw [← hyr, Int.tmod_eq_emod_of_nonneg (by omega)]
    rw [hxr2, hyr2]
    clear hxr hyr hxr2 hyr2 hwf hwq
    have F3 : Fut w2 (w2.drewN nq) := Fut.drewN _ _
    have HF3 := Lib.hid (HF2.out.trans F3)
    have HBP3 := Lib.hid (HBP.out.fut F3)
    have HBQ3 := Lib.hid (HBQ.out.fut F3)
    have HIN3 := Lib.hid (HIN.out.fut F3)
    have HOS3 := Lib.hid (HOS.out.fut F3)
    clear F3 HF2 HBP HBQ HIN HOS p0 p1 p2 q0 q1
    generalize w2.drewN nq = w3 at *
    have HWY := Lib.hid (fun (x y : Nat) (hx : x < M) (hy : y < M) W (F : Fut w3 W) => ways_ok (cap := sc) (HIN3.out.fut F) HCK.out (x := (x : Int)) (y := (y : Int)) (by rw [HMI.out]; omega) (by rw [HMI.out]; omega))
    have HLW := Lib.hid (fun (y x : Int) (hx : 0 ≤ x ∧ x < (M : Int)) W (F : Fut w3 W) la lc (hT : IntsAt W la [y]) => lways_any r c M (HMI.out ▸ HGG.out.side) sa sc S x hx la lc [y] W (HIN3.out.fut F).s (HIN3.out).sl hT (by simp))
    have HWL := Lib.hid (fun k tz => (lwL_perm (c := (c : Int)) (m := (M : Int)) S k tz).length_eq)
    obtain ⟨_, p0, p1, p2⟩ := HBP3.out
    obtain ⟨_, q0, q1⟩ := HBQ3.out
    go_wp2_with fail
    refine (HWY.out x y hxM hyM _ Fut.rfl).mono ?_
    rintro _ w4 ⟨rfl, F4⟩
    have HFR : Hid (Fut w3 w4.drew) := Lib.hid (F4.trans (below_drewN Fut.rfl 1))
    have HBX : Hid (BoxP w4.drew w1.heap.size (r : Int) (c : Int) sa S.length sc ∧ BoxQ w4.drew (w1.heap.size + 1) ya Y.length yc ta T.length tc) := Lib.hid ⟨HBP3.out.fut HFR.out, HBQ3.out.fut HFR.out⟩
    have HFU := HFR
    clear F4 HBP3 HBQ3 p0 p1 p2 q0 q1
    rw [HMI.out]
    obtain ⟨V, hV⟩ : ∃ V, V = wayN (c : Int) (M : Int) S (x : Int) (y : Int) := ⟨_, rfl⟩
    have HWV : Hid ((lwL (stL (c : Int) (M : Int) S) S [(y : Int)] (x : Int)).length = V) := Lib.hid (by rw [hV, HWL.out, wayN_len (HMI.out ▸ HGG.out.side) S _ _ ⟨by omega, by omega⟩])
    have HV := Lib.hid hV
    rw [← hV]
    clear hV
    go_upto_region 7 with fail
    refine wp_region_held_drew (S := (fun w' => BoxP w' w1.heap.size (r : Int) (c : Int) sa S.length sc ∧ BoxQ w' (w1.heap.size + 1) ya Y.length yc ta T.length tc)) (by kernel_rfl) ?_ (fun hHeld => ?_)
    · exact HBX.out
    generalize w4.drew = u0 at *
    refine wpAnyH_take (i := 0) (oi := { dst := some 59, op := Op.move (Operand.tmp 16), type := 31, pos := "outright.go:373", after := #[], guard := none }) (v := ?_) rfl (by kernel_rfl) (by kernel_rfl) (by kernel_rfl) (fun _ _ _ h => h) (Or.inl ⟨by rfl, ?_⟩) (by assumption) ?_
    rotate_left
    · (intro w hSw; (obtain ⟨⟨_, s0, s1, s2⟩, ⟨_, s3, s4⟩⟩ := hSw); go_simp <;> with_reducible rfl)
    try simp only [Act.put, List.setIfInBounds_toArray, List.set_cons_zero, List.set_cons_succ]
    refine wpAnyH_take (i := 1) (oi := { dst := some 60, op := Op.binOp BinOp.neq 31 (Operand.tmp 59) (Operand.const (Value.int IntKind.i64 0)) 31, type := 4, pos := "outright.go:373", after := #[{ on := 0, ground := Ground.data }], guard := none }) (v := ?_) rfl (by kernel_rfl) (by kernel_rfl) (by kernel_rfl) (fun _ _ _ h => h) (Or.inl ⟨by rfl, ?_⟩) (by assumption) ?_
    rotate_left
    · (intro w hSw; (obtain ⟨⟨_, s0, s1, s2⟩, ⟨_, s3, s4⟩⟩ := hSw); go_simp <;> with_reducible rfl)
    try simp only [Act.put, List.setIfInBounds_toArray, List.set_cons_zero, List.set_cons_succ]
    refine wpAnyH_take (i := 2) (oi := { dst := some 61, op := Op.move (Operand.tmp 60), type := 4, pos := "outright.go:373", after := #[{ on := 1, ground := Ground.data }], guard := none }) (v := ?_) rfl (by kernel_rfl) (by kernel_rfl) (by kernel_rfl) (fun _ _ _ h => h) (Or.inl ⟨by rfl, ?_⟩) (by assumption) ?_
    rotate_left
    · (intro w hSw; (obtain ⟨⟨_, s0, s1, s2⟩, ⟨_, s3, s4⟩⟩ := hSw); go_simp <;> with_reducible rfl)
    try simp only [Act.put, List.setIfInBounds_toArray, List.set_cons_zero, List.set_cons_succ]
    refine wpAnyH_take (i := 3) (oi := { dst := some 62, op := Op.move (Operand.tmp 15), type := 3, pos := "outright.go:373", after := #[{ on := 2, ground := Ground.guard }], guard := some (2, false) }) (v := ?_) rfl (by kernel_rfl) (by kernel_rfl) (by kernel_rfl) (fun _ _ _ h => h) (Or.inl ⟨by rfl, ?_⟩) (by assumption) ?_
    rotate_left
    · (intro w hSw; (obtain ⟨⟨_, s0, s1, s2⟩, ⟨_, s3, s4⟩⟩ := hSw); go_simp <;> with_reducible rfl)
    try simp only [Act.put, List.setIfInBounds_toArray, List.set_cons_zero, List.set_cons_succ]
    refine wpAnyH_take (i := 4) (oi := { dst := some 63, op := Op.load 24 (Operand.tmp 9), type := 24, pos := "outright.go:373", after := #[{ on := 2, ground := Ground.guard }], guard := some (2, false) }) (v := ?_) rfl (by kernel_rfl) (by kernel_rfl) (by kernel_rfl) (fun _ _ _ h => h) (Or.inl ⟨by rfl, ?_⟩) (by assumption) ?_
    rotate_left
    · (intro w hSw; (obtain ⟨⟨_, s0, s1, s2⟩, ⟨_, s3, s4⟩⟩ := hSw); go_simp <;> with_reducible rfl)
    try simp only [Act.put, List.setIfInBounds_toArray, List.set_cons_zero, List.set_cons_succ]
    refine wpAnyH_take (i := 5) (oi := { dst := some 64, op := Op.move (Operand.tmp 13), type := 3, pos := "outright.go:373", after := #[{ on := 2, ground := Ground.guard }], guard := some (2, false) }) (v := ?_) rfl (by kernel_rfl) (by kernel_rfl) (by kernel_rfl) (fun _ _ _ h => h) (Or.inl ⟨by rfl, ?_⟩) (by assumption) ?_
    rotate_left
    · (intro w hSw; (obtain ⟨⟨_, s0, s1, s2⟩, ⟨_, s3, s4⟩⟩ := hSw); go_simp <;> with_reducible rfl)
    try simp only [Act.put, List.setIfInBounds_toArray, List.set_cons_zero, List.set_cons_succ]
    refine wpAnyH_take (i := 6) (oi := { dst := some 65, op := Op.move (Operand.tmp 14), type := 3, pos := "outright.go:373", after := #[{ on := 2, ground := Ground.guard }], guard := some (2, false) }) (v := ?_) rfl (by kernel_rfl) (by kernel_rfl) (by kernel_rfl) (fun _ _ _ h => h) (Or.inl ⟨by rfl, ?_⟩) (by assumption) ?_
    rotate_left
    · (intro w hSw; (obtain ⟨⟨_, s0, s1, s2⟩, ⟨_, s3, s4⟩⟩ := hSw); go_simp <;> with_reducible rfl)
    try simp only [Act.put, List.setIfInBounds_toArray, List.set_cons_zero, List.set_cons_succ]
    refine wpAnyH_ready (rs := [7]) (by kernel_rfl) (by simp) ?_
    refine AllReadyH.cons (o := { dst := some 66, op := Op.buildSlice 22 1 #[(0, Operand.tmp 65)], type := 22, pos := "outright.go:373", after := #[{ on := 6, ground := Ground.data }, { on := 2, ground := Ground.guard }], guard := some (2, false) }) rfl (fun K hK => ?_) AllReadyH.nil
    go_simp
    refine hK.out _ _ ?_ (fun hHeld => ?_)
    · exact ⟨HBX.out.1.fut (Fut.alloc u0 _), HBX.out.2.fut (Fut.alloc u0 _)⟩
    clear hK K
    try simp only [Act.put, List.setIfInBounds_toArray, List.set_cons_zero, List.set_cons_succ]
    refine wpAnyH_ready (rs := [8]) (by kernel_rfl) (by simp) ?_
    refine AllReadyH.cons (o := { dst := some 67, op := Op.call { callee := Callee.value (Operand.func 48), args := #[Operand.tmp 66], argTypes := #[22] }, type := 22, pos := "outright.go:373", after := #[{ on := 7, ground := Ground.data }, { on := 2, ground := Ground.chain }, { on := 2, ground := Ground.guard }], guard := some (2, false) }) rfl (fun K hK => ?_) AllReadyH.nil
    go_simp
    go_at_call 48
    refine (list_id _ _).mono ?_
    rintro _ _ ⟨rfl, rfl⟩
    try go_wp2_with fail
    refine hK.out _ _ ?_ (fun hHeld => ?_)
    · exact ⟨HBX.out.1.fut (Fut.alloc u0 _), HBX.out.2.fut (Fut.alloc u0 _)⟩
    clear hK K
    try simp only [Act.put, List.setIfInBounds_toArray, List.set_cons_zero, List.set_cons_succ]
    refine wpAnyH_ready (rs := [9]) (by kernel_rfl) (by simp) ?_
    refine AllReadyH.cons (o := { dst := some 68, op := Op.call { callee := Callee.value (Operand.func 47), args := #[Operand.tmp 63, Operand.tmp 64, Operand.tmp 67], argTypes := #[24, 3, 22] }, type := 35, pos := "outright.go:373", after := #[{ on := 4, ground := Ground.data }, { on := 5, ground := Ground.data }, { on := 8, ground := Ground.data }, { on := 8, ground := Ground.chain }, { on := 2, ground := Ground.guard }], guard := some (2, false) }) rfl (fun K hK => ?_) AllReadyH.nil
    go_simp
    go_at_call 47
    refine (HLW.out (y : Int) (x : Int) ⟨by omega, by omega⟩ (u0.alloc (.cells #[.int .i64 (y : Int)] 3)) (HFU.out.trans (Fut.alloc _ _)) (some ⟨u0.heap.size, 0, none⟩) 1 (one_at _ _)).mono ?_
    rintro _ w5 ⟨v5, rfl, hX5, F5⟩
    obtain ⟨l5, c5, e5, _, _, _⟩ := hX5.listsC
    rw [HWV.out] at e5
    subst e5
    have HF5 : Hid (Fut u0 w5) := Lib.hid ((Fut.alloc u0 _).trans F5)
    clear hX5 F5
    try go_wp2_with fail
    refine hK.out _ _ ?_ (fun hHeld => ?_)
    · exact ⟨HBX.out.1.fut HF5.out, HBX.out.2.fut HF5.out⟩
    clear hK K
    try simp only [Act.put, List.setIfInBounds_toArray, List.set_cons_zero, List.set_cons_succ]
    refine wpAnyH_take (i := 10) (oi := { dst := some 69, op := Op.call { callee := Callee.builtin Builtin.len, args := #[Operand.tmp 68], argTypes := #[35] }, type := 3, pos := "outright.go:373", after := #[{ on := 9, ground := Ground.data }, { on := 2, ground := Ground.guard }], guard := some (2, false) }) (v := ?_) rfl (by kernel_rfl) (by kernel_rfl) (by kernel_rfl) (fun _ _ _ h => h) (Or.inl ⟨by rfl, ?_⟩) (by assumption) ?_
    rotate_left
    · (intro w hSw; (obtain ⟨⟨_, s0, s1, s2⟩, ⟨_, s3, s4⟩⟩ := hSw); go_simp <;> with_reducible rfl)
    try simp only [Act.put, List.setIfInBounds_toArray, List.set_cons_zero, List.set_cons_succ]
    refine wpAnyH_take (i := 11) (oi := { dst := some 70, op := Op.binOp BinOp.neq 3 (Operand.tmp 62) (Operand.tmp 69) 3, type := 4, pos := "outright.go:373", after := #[{ on := 3, ground := Ground.data }, { on := 10, ground := Ground.data }, { on := 2, ground := Ground.guard }], guard := some (2, false) }) (v := ?_) rfl (by kernel_rfl) (by kernel_rfl) (by kernel_rfl) (fun _ _ _ h => h) (Or.inl ⟨by rfl, ?_⟩) (by assumption) ?_
    rotate_left
    · (intro w hSw; (obtain ⟨⟨_, s0, s1, s2⟩, ⟨_, s3, s4⟩⟩ := hSw); go_simp <;> with_reducible rfl)
    try simp only [Act.put, List.setIfInBounds_toArray, List.set_cons_zero, List.set_cons_succ]
    refine wpAnyH_take (i := 12) (oi := { dst := some 71, op := Op.pick (Operand.tmp 61) (Operand.const (Value.bool true)) (Operand.tmp 70), type := 4, pos := "outright.go:373", after := #[{ on := 2, ground := Ground.data }, { on := 11, ground := Ground.data }], guard := none }) (v := ?_) rfl (by kernel_rfl) (by kernel_rfl) (by kernel_rfl) (fun _ _ _ h => h) (Or.inl ⟨by rfl, ?_⟩) (by assumption) ?_
    rotate_left
    · (intro w hSw; (obtain ⟨⟨_, s0, s1, s2⟩, ⟨_, s3, s4⟩⟩ := hSw); go_simp <;> with_reducible rfl)
    try simp only [Act.put, List.setIfInBounds_toArray, List.set_cons_zero, List.set_cons_succ]
    refine wpAnyH_done (by kernel_rfl) ?_ _
    skip
    have HF6 := Lib.hid (HF3.out.trans (HFU.out.trans HF5.out))
    have HFB := Lib.hid (HFU.out.trans HF5.out)
    have HB6 := Lib.hid (HBX.out.1.fut HF5.out)
    have HQ6 := Lib.hid (HBX.out.2.fut HF5.out)
    have HIN6 := Lib.hid (HIN3.out.fut (HFU.out.trans HF5.out))
    have HOS6 := Lib.hid (HOS3.out.fut (HFU.out.trans HF5.out))
    have HWY6 := Lib.hid (fun (x y : Nat) (hx : x < M) (hy : y < M) W (F : Fut w5 W) => by have := HWY.out x y hx hy W (HFB.out.trans F); rwa [HMI.out] at this)
    have HCN6 := Lib.hid (fun z W (F : Fut w5 W) => contains_any sa sc S z W (HIN6.out.fut F).s HIN6.out.sl)
    clear HF3 HF5 HFU HBX HIN3 HOS3 HWY HLW HWL HFB
    try clear HFR
    go_upto_region 9 with fail
    go_cut [81] from 72 to 82 (fun s81 wx => ∃ b, s81 = .bool b ∧ Hid (b = true → x ≠ y ∧ (x : Int) ∉ S) ∧ Hid (Fut w5 wx))
    case first =>
      obtain ⟨_, p0, p1, p2⟩ := HB6.out
      by_cases hxy : x = y
      · subst hxy
        go_wp2_with fail
        go_meet
        exact ⟨false, rfl, Lib.hid (fun e => by cases e), Lib.hid Fut.rfl⟩
      · have hne : ¬ (x : Int) = (y : Int) := by omega
        have HXY := Lib.hid hxy
        obtain ⟨cb, HCB⟩ : ∃ cb, Hid (S.contains (x : Int) = cb) := ⟨_, Lib.hid rfl⟩
        have hQ0 := HCN6.out (x : Int) w5 Fut.rfl
        rw [HCB.out] at hQ0
        have HQ := Lib.hid hQ0
        clear hQ0 hxy
        go_wp2_with fail
        refine HQ.out.mono ?_
        rintro _ _ ⟨rfl, rfl⟩
        cases cb
        · go_wp2_with fail
          go_meet
          exact ⟨_, rfl, Lib.hid (fun _ => ⟨HXY.out, by have := HCB.out; simpa using this⟩), Lib.hid Fut.rfl⟩
        · go_wp2_with fail
          go_meet
          exact ⟨false, rfl, Lib.hid (fun e => by cases e), Lib.hid Fut.rfl⟩
    case rest =>
      obtain ⟨b, rfl, HBB, HFC⟩ := hcut
      obtain ⟨w6, hw6⟩ : ∃ w6, w6 = wc := ⟨_, rfl⟩
      subst hw6
      have HF7 := Lib.hid (HF6.out.trans HFC.out)
      have HB7 := Lib.hid (HB6.out.fut HFC.out)
      have HQ7 := Lib.hid (HQ6.out.fut HFC.out)
      have HIN7 := Lib.hid (HIN6.out.fut HFC.out)
      have HOS7 := Lib.hid (HOS6.out.fut HFC.out)
      have HWY7 := Lib.hid (fun (x y : Nat) (hx : x < M) (hy : y < M) W (F : Fut w6 W) => HWY6.out x y hx hy W (HFC.out.trans F))
      clear HF6 HB6 HQ6 HIN6 HOS6 HWY6 HCN6 HFC
      go_upto_if 81 with fail
      go_cut [] from 17 to 132 (fun wx => Hid (Fut w6 wx))
      case first =>
        cases b
        · go_wp2_with fail
          go_meet
          exact Lib.hid Fut.rfl
        · have hxy := (HBB.out rfl).1
          have hnS := (HBB.out rfl).2
          obtain ⟨j0, hj0⟩ : ∃ j0, j0 = (x : Int) + 1 := ⟨_, rfl⟩
          obtain ⟨j1, hj1⟩ : ∃ j1, j1 = (x : Int) + c := ⟨_, rfl⟩
          obtain ⟨jv, hjv⟩ : ∃ jv : Nat → Int, jv = fun i => if i = 0 then j0 else j1 := ⟨_, rfl⟩
          obtain ⟨vl, hvl⟩ : ∃ vl : Int → Nat, vl = fun j => if (j = (x : Int) + 1 ∧ j % (c : Int) = 0) ∨ (M : Int) ≤ j then 0 else wayN (c : Int) (M : Int) S j (y : Int) := ⟨_, rfl⟩
          have HSUM : Hid ((c : Int) ≠ 1 → vl (jv 0) + vl (jv 1) = V) := Lib.hid (fun hc1 => by
            have h := way_sum (HMI.out ▸ HGG.out.side) S (x : Int) (y : Int) ⟨by omega, by omega⟩ hnS (by omega)
            rw [← HV.out] at h
            have hc0 := HRC.out
            subst hjv hvl hj0 hj1
            simp only [if_true, if_false, show ¬ (1 = 0) by omega]
            rw [h]
            congr 1
            · simp only [true_and]
            · have : ¬ ((x : Int) + (c : Int) = (x : Int) + 1) := by omega
              simp only [this, false_and, false_or])
          have HJV : Hid (jv 0 = j0 ∧ jv 1 = j1) := Lib.hid (by subst hjv; exact ⟨rfl, rfl⟩)
          have HJ0 := Lib.hid hj0
          have HJ1 := Lib.hid hj1
          have HVL := Lib.hid hvl
          have hrc := HRC.out
          have hw1 : IntKind.i64.wrap ((x : Int) + 1) = j0 := by rw [HJ0.out]; exact IntWalk.i64_in _ ⟨by omega, by omega⟩
          have hw2 : IntKind.i64.wrap ((x : Int) + (c : Int)) = j1 := by rw [HJ1.out]; exact IntWalk.i64_in _ ⟨by omega, by omega⟩
          clear hjv hvl hnS hxy hj0 hj1
          obtain ⟨_, p0, p1, p2⟩ := HB7.out
          have HCE : Hid (∀ W, Fut (w6.alloc (.cells #[.int .i64 j0, .int .i64 j1] 3)) W → ∀ i, i < 2 → W.cell? ⟨w6.heap.size, i, none⟩ = some (.int .i64 (jv i))) := Lib.hid (fun W F i hi => by
            have hn := heap_fut (World.alloc_heap_new w6 (.cells #[.int .i64 j0, .int .i64 j1] 3)) F
            rcases (by omega : i = 0 ∨ i = 1) with rfl | rfl <;> (unfold World.cell?; rw [hn])
            · rw [HJV.out.1]; rfl
            · rw [HJV.out.2]; rfl)
          have HFA : Hid (Fut w6 (w6.alloc (.cells #[.int .i64 j0, .int .i64 j1] 3))) := Lib.hid (Fut.alloc _ _)
          obtain ⟨sm, hsm⟩ : ∃ sm : Nat → Nat, sm = fun i => ((List.range i).map fun k => vl (jv k)).sum := ⟨_, rfl⟩
          have HS0 : Hid (sm 0 = 0) := Lib.hid (by rw [hsm]; rfl)
          have HSS : Hid (∀ i, sm (i + 1) = sm i + vl (jv i)) := Lib.hid (fun i => by rw [hsm]; simp [List.range_succ])
          have HVB : Hid (∀ j, vl j ≤ 65535) := Lib.hid (fun j => by
            rw [HVL.out]
            show (if _ then 0 else _) ≤ 65535
            split
            · exact Nat.zero_le _
            · unfold wayN
              split
              · rw [wn_len (HMI.out ▸ HGG.out.side) S _ 16 j (by have := at_in (by assumption); omega) (by have := at_in (by assumption); omega) (by have := at_in (by assumption); omega)]
                have := rtL_le (c : Int) (M : Int) S (y : Int) 16 j
                omega
              · exact Nat.zero_le _)
          clear hsm
          go_wp2_with fail
          go_loopw [17, 90] (fun sv iv wr => ∃ i, i ≤ 2 ∧ iv = .int .i64 (i : Nat) ∧ sv = .int .i64 (sm i : Nat) ∧ Hid (sm i ≤ 65535 * i) ∧ Hid (Fut (w6.alloc (.cells #[.int .i64 j0, .int .i64 j1] 3)) wr)) (fun _ iv _ => 2 - (intOf iv).toNat)
          case atStart => exact ⟨0, by omega, rfl, by rw [HS0.out]; rfl, Lib.hid (by rw [HS0.out]; omega), Lib.hid Fut.rfl⟩
          case round =>
            obtain ⟨i, hi, rfl, rfl, HSB, HFR⟩ := hrel
            have HF := Lib.hid (HFA.out.trans HFR.out)
            clear p0 p1 p2
            obtain ⟨_, p0, p1, p2⟩ := HB7.out.fut HF.out
            obtain ⟨_, q0, q1⟩ := HQ7.out.fut HF.out
            by_cases hil : i < 2
            · have hix : (i : Int) < 2 := by omega
              have cj := HCE.out wr HFR.out i hil
              have HSI := Lib.hid (HSS.out i)
              have HVI := Lib.hid (HVB.out (jv i))
              have HJI : Hid (jv i = (x : Int) + 1 ∨ jv i = (x : Int) + c) := Lib.hid (by
                rcases (by omega : i = 0 ∨ i = 1) with rfl | rfl
                · exact .inl (HJV.out.1.trans HJ0.out)
                · exact .inr (HJV.out.2.trans HJ1.out))
              obtain ⟨n, hn⟩ : ∃ n : Nat, (n : Int) = jv i := ⟨(jv i).toNat, by have := HJI.out; omega⟩
              have HVN : Hid (vl (jv i) = if ((n : Int) = (x : Int) + 1 ∧ (n : Int) % (c : Int) = 0) ∨ (M : Int) ≤ (n : Int) then 0 else wayN (c : Int) (M : Int) S (n : Int) (y : Int)) := Lib.hid (by rw [HVL.out, hn])
              rw [← hn] at cj
              generalize vl (jv i) = vi at *
              have hnb : (n : Int) ≤ 40 := by have := HJI.out; omega
              obtain ⟨wo, hwo⟩ : ∃ wo, wo = wr := ⟨_, rfl⟩
              subst hwo
              have hc0 : ¬ (c : Int) = 0 := by omega
              have hcp : (0 : Int) < c := by omega
              clear hn
              go_upto_region 14 with fail
              go_cut [109] from 94 to 110 (fun s109 wx => ∃ b, s109 = .bool b ∧ Hid (b = true ↔ ((n : Int) = (x : Int) + 1 ∧ (n : Int) % (c : Int) = 0) ∨ (M : Int) ≤ (n : Int)) ∧ Hid (Fut wo wx))
              case first =>
                by_cases e1 : j0 = (n : Int)
                · subst e1
                  have HE1 : Hid ((n : Int) = (x : Int) + 1) := Lib.hid HJ0.out
                  by_cases e2 : (n : Int) % (c : Int) = 0
                  · go_wp2_with fail
                    go_meet
                    exact ⟨true, rfl, Lib.hid ⟨fun _ => .inl ⟨HE1.out, e2⟩, fun _ => rfl⟩, Lib.hid Fut.rfl⟩
                  · have e2b : ((n : Int) % (c : Int) == 0) = false := by rw [beq_eq_false_iff_ne]; exact e2
                    by_cases e3 : (M : Int) ≤ (n : Int)
                    · go_wp2_with fail
                      go_meet
                      exact ⟨true, rfl, Lib.hid ⟨fun _ => .inr e3, fun _ => rfl⟩, Lib.hid Fut.rfl⟩
                    · go_wp2_with fail
                      go_meet
                      exact ⟨false, rfl, Lib.hid ⟨fun h => (by cases h), fun h => (h.elim (fun h => absurd h.2 e2) (fun h => absurd h (by omega)))⟩, Lib.hid Fut.rfl⟩
                · have e1n : ¬ (n : Int) = j0 := fun e => e1 e.symm
                  have HE1 : Hid (¬ (n : Int) = (x : Int) + 1) := Lib.hid (fun e => e1n (e.trans HJ0.out.symm))
                  clear e1
                  by_cases e3 : (M : Int) ≤ (n : Int)
                  · go_wp2_with fail
                    go_meet
                    exact ⟨true, rfl, Lib.hid ⟨fun _ => .inr e3, fun _ => rfl⟩, Lib.hid Fut.rfl⟩
                  · go_wp2_with fail
                    go_meet
                    exact ⟨false, rfl, Lib.hid ⟨fun h => (by cases h), fun h => (h.elim (fun h => absurd h.1 HE1.out) (fun h => absurd h (by omega)))⟩, Lib.hid Fut.rfl⟩
              case rest =>
                obtain ⟨b, rfl, HBC, HFC⟩ := hcut
                obtain ⟨wp, hwp⟩ : ∃ wp, wp = wc := ⟨_, rfl⟩
                subst hwp
                have HFR2 := Lib.hid (HFR.out.trans HFC.out)
                clear p0 p1 p2 q0 q1
                obtain ⟨_, p0, p1, p2⟩ := HB7.out.fut (HFA.out.trans HFR2.out)
                obtain ⟨_, q0, q1⟩ := HQ7.out.fut (HFA.out.trans HFR2.out)
                cases b
                · have hnM : n < M := by
                    refine Classical.byContradiction fun q => ?_
                    have := HBC.out.2 (.inr (by omega)); cases this
                  have HVW : Hid (vi = wayN (c : Int) (M : Int) S (n : Int) (y : Int)) := Lib.hid (by
                    rw [HVN.out, if_neg (fun q => by have := HBC.out.2 q; cases this)])
                  have hQ := HWY7.out n y hnM hyM wp (HFA.out.trans HFR2.out)
                  rw [← HVW.out] at hQ
                  have HQ := Lib.hid hQ
                  have hvb := HVI.out
                  have hsb := HSB.out
                  have hwi : IntKind.i64.wrap ((sm i : Nat) + (vi : Nat) : Int) = ((sm (i + 1) : Nat) : Int) := by rw [HSI.out, Int.natCast_add]; exact IntWalk.i64_in _ ⟨by omega, by omega⟩
                  clear hQ
                  go_wp2_with fail
                  refine HQ.out.mono ?_
                  rintro _ wq ⟨rfl, Fq⟩
                  have HFR3 := Lib.hid (HFR2.out.trans Fq)
                  clear Fq
                  go_wp2_with fail
                  go_roundw
                  case rel => first
                    | exact ⟨i + 1, by omega, by go_num, rfl, Lib.hid (by rw [HSI.out]; omega), HFR3⟩
                    | ((repeat apply Exists.intro); exact ⟨⟨i + 1, by omega, by go_num, rfl, Lib.hid (by rw [HSI.out]; omega), HFR3⟩, rfl⟩)
                  case measure => simp [intOf]; omega
                · have HV0 : Hid (vi = 0) := Lib.hid (by rw [HVN.out, if_pos (HBC.out.1 rfl)])
                  have HSE : Hid (sm (i + 1) = sm i) := Lib.hid (by rw [HSI.out, HV0.out]; rfl)
                  have hsb := HSB.out
                  go_wp2_with fail
                  go_roundw
                  case rel => first
                    | exact ⟨i + 1, by omega, by go_num, by rw [HSE.out], Lib.hid (by rw [HSE.out]; omega), HFR2⟩
                    | ((repeat apply Exists.intro); exact ⟨⟨i + 1, by omega, by go_num, by rw [HSE.out], Lib.hid (by rw [HSE.out]; omega), HFR2⟩, rfl⟩)
                  case measure => simp [intOf]; omega
            · obtain rfl : i = 2 := by omega
              have HS2 : Hid (sm 2 = vl (jv 0) + vl (jv 1)) := Lib.hid (by rw [HSS.out 1, HSS.out 0, HS0.out, Nat.zero_add])
              have HFE := Lib.hid (HFA.out.trans HFR.out)
              by_cases hsv : sm 2 = V
              · rw [hsv]
                clear hsv
                go_wp2_with fail
                go_meet
                exact HFE
              · have hne : ¬ ((sm 2 : Nat) : Int) = (V : Int) := by omega
                have hcn : ¬ (1 : Int) < (c : Int) := fun q => by
                  have := HSUM.out (by omega)
                  rw [← HS2.out] at this; exact hsv this
                clear hsv
                go_wp2_with fail
                go_meet
                exact HFE
      case rest =>
        obtain ⟨w8, hw8⟩ : ∃ w8, w8 = wc := ⟨_, rfl⟩
        subst hw8
        have HF8 := Lib.hid (HF7.out.trans hcut.out)
        have HB8 := Lib.hid (HB7.out.fut hcut.out)
        have HQ8 := Lib.hid (HQ7.out.fut hcut.out)
        have HIN8 := Lib.hid (HIN7.out.fut hcut.out)
        have HOS8 := Lib.hid (HOS7.out.fut hcut.out)
        clear HF7 HB7 HQ7 HIN7 HOS7 HWY7 hcut
        obtain ⟨z, hz⟩ : ∃ z, z = o % M := ⟨_, rfl⟩
        have hzM : z < M := by rw [hz]; exact Nat.mod_lt _ (by omega)
        have hwo : IntKind.i64.wrap ((o : Nat) : Int) = ((o : Nat) : Int) := IntWalk.i64_in _ ⟨by omega, by omega⟩
        have hzr : ((o : Nat) : Int) % (M : Int) = (z : Int) := by rw [hz]; simp
        have hzr2 : ((o : Nat) : Int).tmod (M : Int) = (z : Int) := by rw [Int.tmod_eq_emod_of_nonneg (by omega), hzr]
        have hwz : IntKind.i64.wrap (z : Int) = (z : Int) := IntWalk.i64_in _ ⟨by omega, by omega⟩
        clear hz
        have HC1 := Lib.hid (fun W (F : Fut w8 W) => contains_any sa sc S (z : Int) W (HIN8.out.fut F).s HIN8.out.sl)
        have HC2 := Lib.hid (fun W (F : Fut w8 W) => contains_any ya yc Y (z : Int) W (HIN8.out.fut F).y HIN8.out.yl)
        have HC3 := Lib.hid (fun W (F : Fut w8 W) => contains_any ta tc T (z : Int) W (HIN8.out.fut F).t HIN8.out.tl)
        obtain ⟨_, p0, p1, p2⟩ := HB8.out
        obtain ⟨_, q0, q1⟩ := HQ8.out
        go_upto_region 23 with fail
        go_cut [151] from 136 to 152 (fun s151 wx => ∃ b, s151 = .bool b ∧ Hid (b = false → (z : Int) ∉ S ∧ (z : Int) ∉ Y ∧ (z : Int) ∉ T) ∧ Hid (Fut w8 wx))
        case first =>
          obtain ⟨b1, HB1⟩ : ∃ b1, Hid (S.contains (z : Int) = b1) := ⟨_, Lib.hid rfl⟩
          obtain ⟨b2, HB2⟩ : ∃ b2, Hid (Y.contains (z : Int) = b2) := ⟨_, Lib.hid rfl⟩
          obtain ⟨b3, HB3⟩ : ∃ b3, Hid (T.contains (z : Int) = b3) := ⟨_, Lib.hid rfl⟩
          have h1 := HC1.out w8 Fut.rfl
          have h2 := HC2.out w8 Fut.rfl
          have h3 := HC3.out w8 Fut.rfl
          rw [HB1.out] at h1
          rw [HB2.out] at h2
          rw [HB3.out] at h3
          have HD1 := Lib.hid h1
          have HD2 := Lib.hid h2
          have HD3 := Lib.hid h3
          clear h1 h2 h3 HC1 HC2 HC3
          go_wp2_with fail
          refine HD1.out.mono ?_
          rintro _ _ ⟨rfl, rfl⟩
          cases b1
          · go_wp2_with fail
            refine HD2.out.mono ?_
            rintro _ _ ⟨rfl, rfl⟩
            cases b2
            · go_wp2_with fail
              refine HD3.out.mono ?_
              rintro _ _ ⟨rfl, rfl⟩
              go_wp2_with fail
              go_meet
              exact ⟨b3, rfl, Lib.hid (fun e => ⟨by have := HB1.out; simpa using this, by have := HB2.out; simpa using this, by have := HB3.out; rw [e] at this; simpa using this⟩), Lib.hid Fut.rfl⟩
            · go_wp2_with fail
              go_meet
              exact ⟨true, rfl, Lib.hid (fun e => by cases e), Lib.hid Fut.rfl⟩
          · go_wp2_with fail
            go_meet
            exact ⟨true, rfl, Lib.hid (fun e => by cases e), Lib.hid Fut.rfl⟩
        case rest =>
          obtain ⟨b, rfl, HBZ, HFC⟩ := hcut
          obtain ⟨w9, hw9⟩ : ∃ w9, w9 = wc := ⟨_, rfl⟩
          subst hw9
          have HF9 := Lib.hid (HF8.out.trans HFC.out)
          have HB9 := Lib.hid (HB8.out.fut HFC.out)
          have HQ9 := Lib.hid (HQ8.out.fut HFC.out)
          have HIN9 := Lib.hid (HIN8.out.fut HFC.out)
          clear HF8 HB8 HQ8 HIN8 HOS8 HFC HC1 HC2 HC3 p0 p1 p2 q0 q1
          cases b
          rotate_left
          · go_wp2_with fail
            refine (works_any _).mono ?_
            rintro _ w10 ⟨rfl, F⟩
            have HF10 := Lib.hid (HF9.out.trans F)
            clear F
            go_wp2_with fail
            go_ret
            exact ⟨rfl, HF10.out⟩
          · obtain ⟨hzS, hzY, hzT⟩ := HBZ.out rfl
            have HZZ := Lib.hid (And.intro hzS (And.intro hzY hzT))
            obtain ⟨i0, hi0, hz0, hz1, hz2⟩ := info_parts info3
            clear hzS hzY hzT
            go_upto_region 25 with fail
            go_cut [23] from 153 to 164 (fun s23 wx => ∃ (B g cp : Nat), s23 = .pointer (some ⟨B, 0, none⟩) ∧ Hid (B ≠ g) ∧ Hid (BoxP wx B (r : Int) (c : Int) (some ⟨g, 0, none⟩) (S.length + 1) cp) ∧ Hid (Owns wx w9.heap.size (.slice (some ⟨g, 0, none⟩) (S.length + 1) cp) (S ++ [(z : Int)])) ∧ Hid (Fut w9 wx))
            case first =>
              have FD : Fut w9 w9.drew := below_drewN Fut.rfl 1
              have HB0 : Hid (BoxP w9.drew w1.heap.size (r : Int) (c : Int) sa S.length sc ∧ BoxQ w9.drew (w1.heap.size + 1) ya Y.length yc ta T.length tc) := Lib.hid ⟨HB9.out.fut FD, HQ9.out.fut FD⟩
              have HCL := Lib.hid (fun W (F : Fut w9.drew W) => clone_any sa sc S W (HIN9.out.fut (FD.trans F)).s HIN9.out.sl)
              have HSD : Hid (w9.drew.heap.size = w9.heap.size) := Lib.hid rfl
              have HFD := Lib.hid FD
              clear FD
              refine wp_region_held_drew (S := (fun w' => BoxP w' w1.heap.size (r : Int) (c : Int) sa S.length sc ∧ BoxQ w' (w1.heap.size + 1) ya Y.length yc ta T.length tc)) (by kernel_rfl) ?_ (fun hHeld => ?_)
              · exact HB0.out
              generalize w9.drew = u0 at *
              refine wpAnyH_take (i := 0) (oi := { dst := some 153, op := Op.fieldAddr 24 (Operand.tmp 9) 0, type := 0, pos := "outright.go:396", after := #[], guard := none }) (v := ?_) rfl (by kernel_rfl) (by kernel_rfl) (by kernel_rfl) (fun _ _ _ h => h) (Or.inl ⟨by rfl, ?_⟩) (by assumption) ?_
              rotate_left
              · (intro w hSw; (obtain ⟨⟨_, s0, s1, s2⟩, ⟨_, s3, s4⟩⟩ := hSw); go_simp <;> with_reducible rfl)
              try simp only [Act.put, List.setIfInBounds_toArray, List.set_cons_zero, List.set_cons_succ]
              refine wpAnyH_take (i := 1) (oi := { dst := some 154, op := Op.load 3 (Operand.tmp 153), type := 3, pos := "outright.go:396", after := #[{ on := 0, ground := Ground.data }], guard := none }) (v := ?_) rfl (by kernel_rfl) (by kernel_rfl) (by kernel_rfl) (fun _ _ _ h => h) (Or.inl ⟨by rfl, ?_⟩) (by assumption) ?_
              rotate_left
              · (intro w hSw; (obtain ⟨⟨_, s0, s1, s2⟩, ⟨_, s3, s4⟩⟩ := hSw); go_simp <;> with_reducible rfl)
              try simp only [Act.put, List.setIfInBounds_toArray, List.set_cons_zero, List.set_cons_succ]
              refine wpAnyH_take (i := 2) (oi := { dst := some 155, op := Op.fieldAddr 24 (Operand.tmp 9) 1, type := 0, pos := "outright.go:396", after := #[], guard := none }) (v := ?_) rfl (by kernel_rfl) (by kernel_rfl) (by kernel_rfl) (fun _ _ _ h => h) (Or.inl ⟨by rfl, ?_⟩) (by assumption) ?_
              rotate_left
              · (intro w hSw; (obtain ⟨⟨_, s0, s1, s2⟩, ⟨_, s3, s4⟩⟩ := hSw); go_simp <;> with_reducible rfl)
              try simp only [Act.put, List.setIfInBounds_toArray, List.set_cons_zero, List.set_cons_succ]
              refine wpAnyH_take (i := 3) (oi := { dst := some 156, op := Op.load 3 (Operand.tmp 155), type := 3, pos := "outright.go:396", after := #[{ on := 2, ground := Ground.data }], guard := none }) (v := ?_) rfl (by kernel_rfl) (by kernel_rfl) (by kernel_rfl) (fun _ _ _ h => h) (Or.inl ⟨by rfl, ?_⟩) (by assumption) ?_
              rotate_left
              · (intro w hSw; (obtain ⟨⟨_, s0, s1, s2⟩, ⟨_, s3, s4⟩⟩ := hSw); go_simp <;> with_reducible rfl)
              try simp only [Act.put, List.setIfInBounds_toArray, List.set_cons_zero, List.set_cons_succ]
              refine wpAnyH_take (i := 4) (oi := { dst := some 157, op := Op.fieldAddr 24 (Operand.tmp 9) 2, type := 0, pos := "outright.go:396", after := #[], guard := none }) (v := ?_) rfl (by kernel_rfl) (by kernel_rfl) (by kernel_rfl) (fun _ _ _ h => h) (Or.inl ⟨by rfl, ?_⟩) (by assumption) ?_
              rotate_left
              · (intro w hSw; (obtain ⟨⟨_, s0, s1, s2⟩, ⟨_, s3, s4⟩⟩ := hSw); go_simp <;> with_reducible rfl)
              try simp only [Act.put, List.setIfInBounds_toArray, List.set_cons_zero, List.set_cons_succ]
              refine wpAnyH_take (i := 5) (oi := { dst := some 158, op := Op.load 22 (Operand.tmp 157), type := 22, pos := "outright.go:396", after := #[{ on := 4, ground := Ground.data }], guard := none }) (v := ?_) rfl (by kernel_rfl) (by kernel_rfl) (by kernel_rfl) (fun _ _ _ h => h) (Or.inl ⟨by rfl, ?_⟩) (by assumption) ?_
              rotate_left
              · (intro w hSw; (obtain ⟨⟨_, s0, s1, s2⟩, ⟨_, s3, s4⟩⟩ := hSw); go_simp <;> with_reducible rfl)
              try simp only [Act.put, List.setIfInBounds_toArray, List.set_cons_zero, List.set_cons_succ]
              refine wpAnyH_take (i := 7) (oi := { dst := some 160, op := Op.move (Operand.tmp 22), type := 3, pos := "outright.go:396", after := #[], guard := none }) (v := ?_) rfl (by kernel_rfl) (by kernel_rfl) (by kernel_rfl) (fun _ _ _ h => h) (Or.inl ⟨by rfl, ?_⟩) (by assumption) ?_
              rotate_left
              · (intro w hSw; (obtain ⟨⟨_, s0, s1, s2⟩, ⟨_, s3, s4⟩⟩ := hSw); go_simp <;> with_reducible rfl)
              try simp only [Act.put, List.setIfInBounds_toArray, List.set_cons_zero, List.set_cons_succ]
              refine wpAnyH_ready (rs := [6, 8, 11]) (by kernel_rfl) (by simp) ?_
              refine AllReadyH.cons (o := { dst := some 159, op := Op.call { callee := Callee.value (Operand.func 59), args := #[Operand.tmp 158], argTypes := #[22] }, type := 22, pos := "outright.go:396", after := #[{ on := 5, ground := Ground.data }], guard := none }) rfl (fun K hK => ?_) (AllReadyH.cons (o := { dst := some 161, op := Op.buildSlice 22 1 #[(0, Operand.tmp 160)], type := 22, pos := "outright.go:396", after := #[{ on := 7, ground := Ground.data }], guard := none }) rfl (fun K hK => ?_) (AllReadyH.cons (o := { dst := some 23, op := Op.alloc 24, type := 0, pos := "outright.go:396", after := #[], guard := none }) rfl (fun K hK => ?_) (AllReadyH.nil)))
              · go_simp
                go_at_call 59
                refine (HCL.out u0 Fut.rfl).mono ?_
                rintro _ v6 ⟨y6, rfl, hO6, F6⟩
                obtain ⟨_, c6, e6, _, _, hI6⟩ := hO6.form
                subst e6
                have G6 : Hid (Fut u0 v6) := Lib.hid (F6)
                have HO6 := Lib.hid (Owns.base hO6 (Nat.le_refl _ : u0.heap.size ≤ _))
                clear hO6 hI6 F6
                try go_wp2_with fail
                refine hK.out _ _ ?_ (fun hHeld => ?_)
                · exact ⟨HB0.out.1.fut G6.out, HB0.out.2.fut G6.out⟩
                clear hK K
                try simp only [Act.put, List.setIfInBounds_toArray, List.set_cons_zero, List.set_cons_succ]
                refine wpAnyH_ready (rs := [8, 11]) (by kernel_rfl) (by simp) ?_
                refine AllReadyH.cons (o := { dst := some 161, op := Op.buildSlice 22 1 #[(0, Operand.tmp 160)], type := 22, pos := "outright.go:396", after := #[{ on := 7, ground := Ground.data }], guard := none }) rfl (fun K hK => ?_) (AllReadyH.cons (o := { dst := some 23, op := Op.alloc 24, type := 0, pos := "outright.go:396", after := #[], guard := none }) rfl (fun K hK => ?_) (AllReadyH.nil))
                · go_simp
                  refine hK.out _ _ ?_ (fun hHeld => ?_)
                  · exact ⟨HB0.out.1.fut (G6.out.trans (Fut.alloc v6 (.cells #[.int .i64 (z : Int)] 3))), HB0.out.2.fut (G6.out.trans (Fut.alloc v6 (.cells #[.int .i64 (z : Int)] 3)))⟩
                  clear hK K
                  try simp only [Act.put, List.setIfInBounds_toArray, List.set_cons_zero, List.set_cons_succ]
                  refine wpAnyH_ready (rs := [9, 11]) (by kernel_rfl) (by simp) ?_
                  refine AllReadyH.cons (o := { dst := some 162, op := Op.call { callee := Callee.builtin Builtin.append, args := #[Operand.tmp 159, Operand.tmp 161], argTypes := #[22, 22] }, type := 22, pos := "outright.go:396", after := #[{ on := 6, ground := Ground.data }, { on := 8, ground := Ground.data }, { on := 6, ground := Ground.chain }], guard := none }) rfl (fun K hK => ?_) (AllReadyH.cons (o := { dst := some 23, op := Op.alloc 24, type := 0, pos := "outright.go:396", after := #[], guard := none }) rfl (fun K hK => ?_) (AllReadyH.nil))
                  · obtain ⟨v8, hv8⟩ : ∃ v8, v8 = v6.alloc (.cells #[.int .i64 (z : Int)] 3) := ⟨_, rfl⟩
                    have F8 : Fut v6 v8 := by rw [hv8]; exact Fut.alloc _ _
                    have C8 : Hid (v8.cell? ⟨v6.heap.size, 0, none⟩ = some (.int .i64 (z : Int)) ∧ v6.heap.size < v8.heap.size) := Lib.hid ⟨by rw [hv8]; exact alloc_cell _ _ _, by rw [hv8]; simp⟩
                    have G8 : Hid (Fut u0 v8) := Lib.hid (G6.out.trans F8)
                    have HO6 := Lib.hid (HO6.out.fut F8)
                    rw [← hv8] at hHeld ⊢
                    clear hv8 F8
                    refine step_append_lies v8 rfl _ _ 22 rfl u0.heap.size 3 i0 (.int .i64 0) 1 8 Try.underlying22 hi0 hz0 hz1 hz2 rfl (by decide) _ S.length (S.map (Value.int .i64)) rfl HO6.out ⟨v6.heap.size, 0, none⟩ 1 1 [.int .i64 (z : Int)] rfl rfl (cell_one C8.out.1) (by simp [Value.oneCell']) (by omega) (by unfold maxLen; omega) (by omega) (RowKit.Below.size G8.out) _ rfl ?_
                    intro g9 c9 v9 hown9 hgr9 _ hlt9
                    have G9 : Hid (Fut u0 v9) := Lib.hid (RowKit.Below.grown G8.out hgr9 (RowKit.Below.size G8.out) fun q hq => (World.ownsRow.lt HO6.out q hq).1)
                    have HO9 : Hid (Owns v9 u0.heap.size (.slice (some ⟨g9, 0, none⟩) (S.length + 1) c9) (S ++ [(z : Int)])) := Lib.hid (by unfold Owns; rw [List.length_append, List.length_singleton, List.map_append]; exact hown9)
                    clear hown9 hgr9 hlt9 HO6
                    refine hK.out _ _ ?_ (fun hHeld => ?_)
                    · exact ⟨HB0.out.1.fut G9.out, HB0.out.2.fut G9.out⟩
                    clear hK K
                    try simp only [Act.put, List.setIfInBounds_toArray, List.set_cons_zero, List.set_cons_succ]
                    refine wpAnyH_take (i := 10) (oi := { dst := some 163, op := Op.build 24 #[(0, Operand.tmp 154), (1, Operand.tmp 156), (2, Operand.tmp 162)], type := 24, pos := "outright.go:396", after := #[{ on := 1, ground := Ground.data }, { on := 3, ground := Ground.data }, { on := 9, ground := Ground.data }], guard := none }) (v := ?_) rfl (by kernel_rfl) (by kernel_rfl) (by kernel_rfl) (fun _ _ _ h => h) (Or.inl ⟨by rfl, ?_⟩) (by assumption) ?_
                    rotate_left
                    · (intro w hSw; (obtain ⟨⟨_, s0, s1, s2⟩, ⟨_, s3, s4⟩⟩ := hSw); go_simp <;> with_reducible rfl)
                    try simp only [Act.put, List.setIfInBounds_toArray, List.set_cons_zero, List.set_cons_succ]
                    refine wpAnyH_ready (rs := [11]) (by kernel_rfl) (by simp) ?_
                    refine AllReadyH.cons (o := { dst := some 23, op := Op.alloc 24, type := 0, pos := "outright.go:396", after := #[], guard := none }) rfl (fun K hK => ?_) AllReadyH.nil
                    go_simp
                    refine hK.out _ _ ?_ (fun hHeld => ?_)
                    · exact ⟨HB0.out.1.fut (G9.out.trans (Fut.alloc v9 (.cells #[.int .i64 0, .int .i64 0, .slice none 0 0] 24))), HB0.out.2.fut (G9.out.trans (Fut.alloc v9 (.cells #[.int .i64 0, .int .i64 0, .slice none 0 0] 24)))⟩
                    clear hK K
                    try simp only [Act.put, List.setIfInBounds_toArray, List.set_cons_zero, List.set_cons_succ]
                    refine wpAnyH_ready (rs := [12]) (by kernel_rfl) (by simp) ?_
                    refine AllReadyH.cons (o := { dst := none, op := Op.store 24 (Operand.tmp 23) (Operand.tmp 163), type := 0, pos := "outright.go:396", after := #[{ on := 11, ground := Ground.data }, { on := 10, ground := Ground.data }, { on := 9, ground := Ground.chain }, { on := 0, ground := Ground.phase }, { on := 1, ground := Ground.phase }, { on := 2, ground := Ground.phase }, { on := 3, ground := Ground.phase }, { on := 4, ground := Ground.phase }, { on := 5, ground := Ground.phase }, { on := 6, ground := Ground.phase }, { on := 7, ground := Ground.phase }, { on := 8, ground := Ground.phase }, { on := 9, ground := Ground.phase }, { on := 10, ground := Ground.phase }, { on := 11, ground := Ground.phase }], guard := none }) rfl (fun K hK => ?_) AllReadyH.nil
                    obtain ⟨v11, hv11⟩ : ∃ v11, v11 = v9.alloc (.cells #[.int .i64 0, .int .i64 0, .slice none 0 0] 24) := ⟨_, rfl⟩
                    have F11 : Fut v9 v11 := by rw [hv11]; exact Fut.alloc _ _
                    have H11 : Hid (v11.heap[v9.heap.size]? = some (.cells #[.int .i64 0, .int .i64 0, .slice none 0 0] 24)) := Lib.hid (by rw [hv11]; exact World.alloc_heap_new _ _)
                    have G11 : Hid (Fut u0 v11) := Lib.hid (G9.out.trans F11)
                    have HO9 := Lib.hid (HO9.out.fut F11)
                    rw [← hv11] at hHeld ⊢
                    clear hv11 F11
                    obtain ⟨⟨x1, x2⟩, ⟨x3, x4⟩, ⟨x5, x6⟩, x7⟩ := store3 (.int .i64 (r : Int)) (.int .i64 (c : Int)) (.slice (some ⟨g9, 0, none⟩) (S.length + 1) c9) H11.out
                    have hA : u0.heap.size ≤ v9.heap.size := RowKit.Below.size G9.out
                    have hb2 := (((But.refl (fun q => q = v9.heap.size) v11).setCell (p := ⟨v9.heap.size, 0, none⟩) (.inl rfl) (.int .i64 (r : Int))).setCell (p := ⟨v9.heap.size, 1, none⟩) (.inl rfl) (.int .i64 (c : Int))).setCell (p := ⟨v9.heap.size, 2, none⟩) (.inl rfl) (.slice (some ⟨g9, 0, none⟩) (S.length + 1) c9)
                    have hFE := RowKit.Below.trans G11.out (But.below hb2 u0.heap.size (RowKit.Below.size G11.out) (fun q hq => by subst hq; exact hA))
                    have HFE := Lib.hid hFE
                    have HNE : Hid (v9.heap.size ≠ g9) := Lib.hid (fun e => (own_ty HO9.out H11.out) (by rw [e]; rfl))
                    have hOE := own_but HO9.out hb2 (own_ty HO9.out H11.out)
                    have HOE := Lib.hid hOE
                    have HBE := Lib.hid (boxP_of x7)
                    clear hb2 hFE hOE x7
                    go_simp
                    refine hK.out _ _ ?_ (fun hHeld => ?_)
                    · exact ⟨HB0.out.1.fut HFE.out, HB0.out.2.fut HFE.out⟩
                    clear hK K
                    try simp only [Act.put, List.setIfInBounds_toArray, List.set_cons_zero, List.set_cons_succ]
                    refine wpAnyH_done (by kernel_rfl) ?_ _
                    clear x1 x2 x3 x4 x5 x6
                    have HOE2 := Lib.hid (HOE.out.base (B' := w9.heap.size) (by rw [HSD.out]; exact Nat.le_refl _))
                    have HFE2 := Lib.hid (HFD.out.trans HFE.out)
                    go_wp2_with fail
                    go_meet
                    exact ⟨_, _, _, rfl, HNE, HBE, HOE2, HFE2⟩
                  · obtain ⟨v8, hv8⟩ : ∃ v8, v8 = v6.alloc (.cells #[.int .i64 (z : Int)] 3) := ⟨_, rfl⟩
                    have F8 : Fut v6 v8 := by rw [hv8]; exact Fut.alloc _ _
                    have C8 : Hid (v8.cell? ⟨v6.heap.size, 0, none⟩ = some (.int .i64 (z : Int)) ∧ v6.heap.size < v8.heap.size) := Lib.hid ⟨by rw [hv8]; exact alloc_cell _ _ _, by rw [hv8]; simp⟩
                    have G8 : Hid (Fut u0 v8) := Lib.hid (G6.out.trans F8)
                    have HO6 := Lib.hid (HO6.out.fut F8)
                    rw [← hv8] at hHeld ⊢
                    clear hv8 F8
                    go_simp
                    refine hK.out _ _ ?_ (fun hHeld => ?_)
                    · exact ⟨HB0.out.1.fut (G8.out.trans (Fut.alloc v8 (.cells #[.int .i64 0, .int .i64 0, .slice none 0 0] 24))), HB0.out.2.fut (G8.out.trans (Fut.alloc v8 (.cells #[.int .i64 0, .int .i64 0, .slice none 0 0] 24)))⟩
                    clear hK K
                    try simp only [Act.put, List.setIfInBounds_toArray, List.set_cons_zero, List.set_cons_succ]
                    refine wpAnyH_ready (rs := [9]) (by kernel_rfl) (by simp) ?_
                    refine AllReadyH.cons (o := { dst := some 162, op := Op.call { callee := Callee.builtin Builtin.append, args := #[Operand.tmp 159, Operand.tmp 161], argTypes := #[22, 22] }, type := 22, pos := "outright.go:396", after := #[{ on := 6, ground := Ground.data }, { on := 8, ground := Ground.data }, { on := 6, ground := Ground.chain }], guard := none }) rfl (fun K hK => ?_) AllReadyH.nil
                    obtain ⟨v11, hv11⟩ : ∃ v11, v11 = v8.alloc (.cells #[.int .i64 0, .int .i64 0, .slice none 0 0] 24) := ⟨_, rfl⟩
                    have F11 : Fut v8 v11 := by rw [hv11]; exact Fut.alloc _ _
                    have H11 : Hid (v11.heap[v8.heap.size]? = some (.cells #[.int .i64 0, .int .i64 0, .slice none 0 0] 24)) := Lib.hid (by rw [hv11]; exact World.alloc_heap_new _ _)
                    have G11 : Hid (Fut u0 v11) := Lib.hid (G8.out.trans F11)
                    have C8 := Lib.hid (cell_fut C8.out F11)
                    have HO6 := Lib.hid (HO6.out.fut F11)
                    rw [← hv11] at hHeld ⊢
                    clear hv11 F11
                    refine step_append_lies v11 rfl _ _ 22 rfl u0.heap.size 3 i0 (.int .i64 0) 1 8 Try.underlying22 hi0 hz0 hz1 hz2 rfl (by decide) _ S.length (S.map (Value.int .i64)) rfl HO6.out ⟨v6.heap.size, 0, none⟩ 1 1 [.int .i64 (z : Int)] rfl rfl (cell_one C8.out.1) (by simp [Value.oneCell']) (by omega) (by unfold maxLen; omega) (by omega) (RowKit.Below.size G11.out) _ rfl ?_
                    intro g9 c9 v9 hown9 hgr9 _ hlt9
                    have G9 : Hid (Fut u0 v9) := Lib.hid (RowKit.Below.grown G11.out hgr9 (RowKit.Below.size G11.out) fun q hq => (World.ownsRow.lt HO6.out q hq).1)
                    have HO9 : Hid (Owns v9 u0.heap.size (.slice (some ⟨g9, 0, none⟩) (S.length + 1) c9) (S ++ [(z : Int)])) := Lib.hid (by unfold Owns; rw [List.length_append, List.length_singleton, List.map_append]; exact hown9)
                    have H11 := Lib.hid (heap_kept H11.out hgr9 (own_ty HO6.out H11.out))
                    clear hown9 hgr9 hlt9 HO6
                    refine hK.out _ _ ?_ (fun hHeld => ?_)
                    · exact ⟨HB0.out.1.fut G9.out, HB0.out.2.fut G9.out⟩
                    clear hK K
                    try simp only [Act.put, List.setIfInBounds_toArray, List.set_cons_zero, List.set_cons_succ]
                    refine wpAnyH_take (i := 10) (oi := { dst := some 163, op := Op.build 24 #[(0, Operand.tmp 154), (1, Operand.tmp 156), (2, Operand.tmp 162)], type := 24, pos := "outright.go:396", after := #[{ on := 1, ground := Ground.data }, { on := 3, ground := Ground.data }, { on := 9, ground := Ground.data }], guard := none }) (v := ?_) rfl (by kernel_rfl) (by kernel_rfl) (by kernel_rfl) (fun _ _ _ h => h) (Or.inl ⟨by rfl, ?_⟩) (by assumption) ?_
                    rotate_left
                    · (intro w hSw; (obtain ⟨⟨_, s0, s1, s2⟩, ⟨_, s3, s4⟩⟩ := hSw); go_simp <;> with_reducible rfl)
                    try simp only [Act.put, List.setIfInBounds_toArray, List.set_cons_zero, List.set_cons_succ]
                    refine wpAnyH_ready (rs := [12]) (by kernel_rfl) (by simp) ?_
                    refine AllReadyH.cons (o := { dst := none, op := Op.store 24 (Operand.tmp 23) (Operand.tmp 163), type := 0, pos := "outright.go:396", after := #[{ on := 11, ground := Ground.data }, { on := 10, ground := Ground.data }, { on := 9, ground := Ground.chain }, { on := 0, ground := Ground.phase }, { on := 1, ground := Ground.phase }, { on := 2, ground := Ground.phase }, { on := 3, ground := Ground.phase }, { on := 4, ground := Ground.phase }, { on := 5, ground := Ground.phase }, { on := 6, ground := Ground.phase }, { on := 7, ground := Ground.phase }, { on := 8, ground := Ground.phase }, { on := 9, ground := Ground.phase }, { on := 10, ground := Ground.phase }, { on := 11, ground := Ground.phase }], guard := none }) rfl (fun K hK => ?_) AllReadyH.nil
                    obtain ⟨⟨x1, x2⟩, ⟨x3, x4⟩, ⟨x5, x6⟩, x7⟩ := store3 (.int .i64 (r : Int)) (.int .i64 (c : Int)) (.slice (some ⟨g9, 0, none⟩) (S.length + 1) c9) H11.out
                    have hA : u0.heap.size ≤ v8.heap.size := RowKit.Below.size G8.out
                    have hb2 := (((But.refl (fun q => q = v8.heap.size) v9).setCell (p := ⟨v8.heap.size, 0, none⟩) (.inl rfl) (.int .i64 (r : Int))).setCell (p := ⟨v8.heap.size, 1, none⟩) (.inl rfl) (.int .i64 (c : Int))).setCell (p := ⟨v8.heap.size, 2, none⟩) (.inl rfl) (.slice (some ⟨g9, 0, none⟩) (S.length + 1) c9)
                    have hFE := RowKit.Below.trans G9.out (But.below hb2 u0.heap.size (RowKit.Below.size G9.out) (fun q hq => by subst hq; exact hA))
                    have HFE := Lib.hid hFE
                    have HNE : Hid (v8.heap.size ≠ g9) := Lib.hid (fun e => (own_ty HO9.out H11.out) (by rw [e]; rfl))
                    have hOE := own_but HO9.out hb2 (own_ty HO9.out H11.out)
                    have HOE := Lib.hid hOE
                    have HBE := Lib.hid (boxP_of x7)
                    clear hb2 hFE hOE x7
                    go_simp
                    refine hK.out _ _ ?_ (fun hHeld => ?_)
                    · exact ⟨HB0.out.1.fut HFE.out, HB0.out.2.fut HFE.out⟩
                    clear hK K
                    try simp only [Act.put, List.setIfInBounds_toArray, List.set_cons_zero, List.set_cons_succ]
                    refine wpAnyH_done (by kernel_rfl) ?_ _
                    clear x1 x2 x3 x4 x5 x6
                    have HOE2 := Lib.hid (HOE.out.base (B' := w9.heap.size) (by rw [HSD.out]; exact Nat.le_refl _))
                    have HFE2 := Lib.hid (HFD.out.trans HFE.out)
                    go_wp2_with fail
                    go_meet
                    exact ⟨_, _, _, rfl, HNE, HBE, HOE2, HFE2⟩
                · go_simp
                  refine hK.out _ _ ?_ (fun hHeld => ?_)
                  · exact ⟨HB0.out.1.fut (G6.out.trans (Fut.alloc v6 (.cells #[.int .i64 0, .int .i64 0, .slice none 0 0] 24))), HB0.out.2.fut (G6.out.trans (Fut.alloc v6 (.cells #[.int .i64 0, .int .i64 0, .slice none 0 0] 24)))⟩
                  clear hK K
                  try simp only [Act.put, List.setIfInBounds_toArray, List.set_cons_zero, List.set_cons_succ]
                  refine wpAnyH_ready (rs := [8]) (by kernel_rfl) (by simp) ?_
                  refine AllReadyH.cons (o := { dst := some 161, op := Op.buildSlice 22 1 #[(0, Operand.tmp 160)], type := 22, pos := "outright.go:396", after := #[{ on := 7, ground := Ground.data }], guard := none }) rfl (fun K hK => ?_) AllReadyH.nil
                  obtain ⟨v11, hv11⟩ : ∃ v11, v11 = v6.alloc (.cells #[.int .i64 0, .int .i64 0, .slice none 0 0] 24) := ⟨_, rfl⟩
                  have F11 : Fut v6 v11 := by rw [hv11]; exact Fut.alloc _ _
                  have H11 : Hid (v11.heap[v6.heap.size]? = some (.cells #[.int .i64 0, .int .i64 0, .slice none 0 0] 24)) := Lib.hid (by rw [hv11]; exact World.alloc_heap_new _ _)
                  have G11 : Hid (Fut u0 v11) := Lib.hid (G6.out.trans F11)
                  have HO6 := Lib.hid (HO6.out.fut F11)
                  rw [← hv11] at hHeld ⊢
                  clear hv11 F11
                  go_simp
                  refine hK.out _ _ ?_ (fun hHeld => ?_)
                  · exact ⟨HB0.out.1.fut (G11.out.trans (Fut.alloc v11 (.cells #[.int .i64 (z : Int)] 3))), HB0.out.2.fut (G11.out.trans (Fut.alloc v11 (.cells #[.int .i64 (z : Int)] 3)))⟩
                  clear hK K
                  try simp only [Act.put, List.setIfInBounds_toArray, List.set_cons_zero, List.set_cons_succ]
                  refine wpAnyH_ready (rs := [9]) (by kernel_rfl) (by simp) ?_
                  refine AllReadyH.cons (o := { dst := some 162, op := Op.call { callee := Callee.builtin Builtin.append, args := #[Operand.tmp 159, Operand.tmp 161], argTypes := #[22, 22] }, type := 22, pos := "outright.go:396", after := #[{ on := 6, ground := Ground.data }, { on := 8, ground := Ground.data }, { on := 6, ground := Ground.chain }], guard := none }) rfl (fun K hK => ?_) AllReadyH.nil
                  obtain ⟨v8, hv8⟩ : ∃ v8, v8 = v11.alloc (.cells #[.int .i64 (z : Int)] 3) := ⟨_, rfl⟩
                  have F8 : Fut v11 v8 := by rw [hv8]; exact Fut.alloc _ _
                  have C8 : Hid (v8.cell? ⟨v11.heap.size, 0, none⟩ = some (.int .i64 (z : Int)) ∧ v11.heap.size < v8.heap.size) := Lib.hid ⟨by rw [hv8]; exact alloc_cell _ _ _, by rw [hv8]; simp⟩
                  have G8 : Hid (Fut u0 v8) := Lib.hid (G11.out.trans F8)
                  have H11 := Lib.hid (heap_fut H11.out F8)
                  have HO6 := Lib.hid (HO6.out.fut F8)
                  rw [← hv8] at hHeld ⊢
                  clear hv8 F8
                  refine step_append_lies v8 rfl _ _ 22 rfl u0.heap.size 3 i0 (.int .i64 0) 1 8 Try.underlying22 hi0 hz0 hz1 hz2 rfl (by decide) _ S.length (S.map (Value.int .i64)) rfl HO6.out ⟨v11.heap.size, 0, none⟩ 1 1 [.int .i64 (z : Int)] rfl rfl (cell_one C8.out.1) (by simp [Value.oneCell']) (by omega) (by unfold maxLen; omega) (by omega) (RowKit.Below.size G8.out) _ rfl ?_
                  intro g9 c9 v9 hown9 hgr9 _ hlt9
                  have G9 : Hid (Fut u0 v9) := Lib.hid (RowKit.Below.grown G8.out hgr9 (RowKit.Below.size G8.out) fun q hq => (World.ownsRow.lt HO6.out q hq).1)
                  have HO9 : Hid (Owns v9 u0.heap.size (.slice (some ⟨g9, 0, none⟩) (S.length + 1) c9) (S ++ [(z : Int)])) := Lib.hid (by unfold Owns; rw [List.length_append, List.length_singleton, List.map_append]; exact hown9)
                  have H11 := Lib.hid (heap_kept H11.out hgr9 (own_ty HO6.out H11.out))
                  clear hown9 hgr9 hlt9 HO6
                  refine hK.out _ _ ?_ (fun hHeld => ?_)
                  · exact ⟨HB0.out.1.fut G9.out, HB0.out.2.fut G9.out⟩
                  clear hK K
                  try simp only [Act.put, List.setIfInBounds_toArray, List.set_cons_zero, List.set_cons_succ]
                  refine wpAnyH_take (i := 10) (oi := { dst := some 163, op := Op.build 24 #[(0, Operand.tmp 154), (1, Operand.tmp 156), (2, Operand.tmp 162)], type := 24, pos := "outright.go:396", after := #[{ on := 1, ground := Ground.data }, { on := 3, ground := Ground.data }, { on := 9, ground := Ground.data }], guard := none }) (v := ?_) rfl (by kernel_rfl) (by kernel_rfl) (by kernel_rfl) (fun _ _ _ h => h) (Or.inl ⟨by rfl, ?_⟩) (by assumption) ?_
                  rotate_left
                  · (intro w hSw; (obtain ⟨⟨_, s0, s1, s2⟩, ⟨_, s3, s4⟩⟩ := hSw); go_simp <;> with_reducible rfl)
                  try simp only [Act.put, List.setIfInBounds_toArray, List.set_cons_zero, List.set_cons_succ]
                  refine wpAnyH_ready (rs := [12]) (by kernel_rfl) (by simp) ?_
                  refine AllReadyH.cons (o := { dst := none, op := Op.store 24 (Operand.tmp 23) (Operand.tmp 163), type := 0, pos := "outright.go:396", after := #[{ on := 11, ground := Ground.data }, { on := 10, ground := Ground.data }, { on := 9, ground := Ground.chain }, { on := 0, ground := Ground.phase }, { on := 1, ground := Ground.phase }, { on := 2, ground := Ground.phase }, { on := 3, ground := Ground.phase }, { on := 4, ground := Ground.phase }, { on := 5, ground := Ground.phase }, { on := 6, ground := Ground.phase }, { on := 7, ground := Ground.phase }, { on := 8, ground := Ground.phase }, { on := 9, ground := Ground.phase }, { on := 10, ground := Ground.phase }, { on := 11, ground := Ground.phase }], guard := none }) rfl (fun K hK => ?_) AllReadyH.nil
                  obtain ⟨⟨x1, x2⟩, ⟨x3, x4⟩, ⟨x5, x6⟩, x7⟩ := store3 (.int .i64 (r : Int)) (.int .i64 (c : Int)) (.slice (some ⟨g9, 0, none⟩) (S.length + 1) c9) H11.out
                  have hA : u0.heap.size ≤ v6.heap.size := RowKit.Below.size G6.out
                  have hb2 := (((But.refl (fun q => q = v6.heap.size) v9).setCell (p := ⟨v6.heap.size, 0, none⟩) (.inl rfl) (.int .i64 (r : Int))).setCell (p := ⟨v6.heap.size, 1, none⟩) (.inl rfl) (.int .i64 (c : Int))).setCell (p := ⟨v6.heap.size, 2, none⟩) (.inl rfl) (.slice (some ⟨g9, 0, none⟩) (S.length + 1) c9)
                  have hFE := RowKit.Below.trans G9.out (But.below hb2 u0.heap.size (RowKit.Below.size G9.out) (fun q hq => by subst hq; exact hA))
                  have HFE := Lib.hid hFE
                  have HNE : Hid (v6.heap.size ≠ g9) := Lib.hid (fun e => (own_ty HO9.out H11.out) (by rw [e]; rfl))
                  have hOE := own_but HO9.out hb2 (own_ty HO9.out H11.out)
                  have HOE := Lib.hid hOE
                  have HBE := Lib.hid (boxP_of x7)
                  clear hb2 hFE hOE x7
                  go_simp
                  refine hK.out _ _ ?_ (fun hHeld => ?_)
                  · exact ⟨HB0.out.1.fut HFE.out, HB0.out.2.fut HFE.out⟩
                  clear hK K
                  try simp only [Act.put, List.setIfInBounds_toArray, List.set_cons_zero, List.set_cons_succ]
                  refine wpAnyH_done (by kernel_rfl) ?_ _
                  clear x1 x2 x3 x4 x5 x6
                  have HOE2 := Lib.hid (HOE.out.base (B' := w9.heap.size) (by rw [HSD.out]; exact Nat.le_refl _))
                  have HFE2 := Lib.hid (HFD.out.trans HFE.out)
                  go_wp2_with fail
                  go_meet
                  exact ⟨_, _, _, rfl, HNE, HBE, HOE2, HFE2⟩
              · go_simp
                refine hK.out _ _ ?_ (fun hHeld => ?_)
                · exact ⟨HB0.out.1.fut (Fut.alloc u0 (.cells #[.int .i64 (z : Int)] 3)), HB0.out.2.fut (Fut.alloc u0 (.cells #[.int .i64 (z : Int)] 3))⟩
                clear hK K
                try simp only [Act.put, List.setIfInBounds_toArray, List.set_cons_zero, List.set_cons_succ]
                refine wpAnyH_ready (rs := [6, 11]) (by kernel_rfl) (by simp) ?_
                refine AllReadyH.cons (o := { dst := some 159, op := Op.call { callee := Callee.value (Operand.func 59), args := #[Operand.tmp 158], argTypes := #[22] }, type := 22, pos := "outright.go:396", after := #[{ on := 5, ground := Ground.data }], guard := none }) rfl (fun K hK => ?_) (AllReadyH.cons (o := { dst := some 23, op := Op.alloc 24, type := 0, pos := "outright.go:396", after := #[], guard := none }) rfl (fun K hK => ?_) (AllReadyH.nil))
                · obtain ⟨v8, hv8⟩ : ∃ v8, v8 = u0.alloc (.cells #[.int .i64 (z : Int)] 3) := ⟨_, rfl⟩
                  have F8 : Fut u0 v8 := by rw [hv8]; exact Fut.alloc _ _
                  have C8 : Hid (v8.cell? ⟨u0.heap.size, 0, none⟩ = some (.int .i64 (z : Int)) ∧ u0.heap.size < v8.heap.size) := Lib.hid ⟨by rw [hv8]; exact alloc_cell _ _ _, by rw [hv8]; simp⟩
                  have G8 : Hid (Fut u0 v8) := Lib.hid (F8)
                  rw [← hv8] at hHeld ⊢
                  clear hv8 F8
                  go_simp
                  go_at_call 59
                  refine (HCL.out v8 G8.out).mono ?_
                  rintro _ v6 ⟨y6, rfl, hO6, F6⟩
                  obtain ⟨_, c6, e6, _, _, hI6⟩ := hO6.form
                  subst e6
                  have G6 : Hid (Fut u0 v6) := Lib.hid (G8.out.trans F6)
                  have HO6 := Lib.hid (Owns.base hO6 (RowKit.Below.size G8.out : u0.heap.size ≤ _))
                  have C8 := Lib.hid (cell_fut C8.out F6)
                  clear hO6 hI6 F6
                  try go_wp2_with fail
                  refine hK.out _ _ ?_ (fun hHeld => ?_)
                  · exact ⟨HB0.out.1.fut G6.out, HB0.out.2.fut G6.out⟩
                  clear hK K
                  try simp only [Act.put, List.setIfInBounds_toArray, List.set_cons_zero, List.set_cons_succ]
                  refine wpAnyH_ready (rs := [9, 11]) (by kernel_rfl) (by simp) ?_
                  refine AllReadyH.cons (o := { dst := some 162, op := Op.call { callee := Callee.builtin Builtin.append, args := #[Operand.tmp 159, Operand.tmp 161], argTypes := #[22, 22] }, type := 22, pos := "outright.go:396", after := #[{ on := 6, ground := Ground.data }, { on := 8, ground := Ground.data }, { on := 6, ground := Ground.chain }], guard := none }) rfl (fun K hK => ?_) (AllReadyH.cons (o := { dst := some 23, op := Op.alloc 24, type := 0, pos := "outright.go:396", after := #[], guard := none }) rfl (fun K hK => ?_) (AllReadyH.nil))
                  · refine step_append_lies v6 rfl _ _ 22 rfl u0.heap.size 3 i0 (.int .i64 0) 1 8 Try.underlying22 hi0 hz0 hz1 hz2 rfl (by decide) _ S.length (S.map (Value.int .i64)) rfl HO6.out ⟨u0.heap.size, 0, none⟩ 1 1 [.int .i64 (z : Int)] rfl rfl (cell_one C8.out.1) (by simp [Value.oneCell']) (by omega) (by unfold maxLen; omega) (by omega) (RowKit.Below.size G6.out) _ rfl ?_
                    intro g9 c9 v9 hown9 hgr9 _ hlt9
                    have G9 : Hid (Fut u0 v9) := Lib.hid (RowKit.Below.grown G6.out hgr9 (RowKit.Below.size G6.out) fun q hq => (World.ownsRow.lt HO6.out q hq).1)
                    have HO9 : Hid (Owns v9 u0.heap.size (.slice (some ⟨g9, 0, none⟩) (S.length + 1) c9) (S ++ [(z : Int)])) := Lib.hid (by unfold Owns; rw [List.length_append, List.length_singleton, List.map_append]; exact hown9)
                    clear hown9 hgr9 hlt9 HO6
                    refine hK.out _ _ ?_ (fun hHeld => ?_)
                    · exact ⟨HB0.out.1.fut G9.out, HB0.out.2.fut G9.out⟩
                    clear hK K
                    try simp only [Act.put, List.setIfInBounds_toArray, List.set_cons_zero, List.set_cons_succ]
                    refine wpAnyH_take (i := 10) (oi := { dst := some 163, op := Op.build 24 #[(0, Operand.tmp 154), (1, Operand.tmp 156), (2, Operand.tmp 162)], type := 24, pos := "outright.go:396", after := #[{ on := 1, ground := Ground.data }, { on := 3, ground := Ground.data }, { on := 9, ground := Ground.data }], guard := none }) (v := ?_) rfl (by kernel_rfl) (by kernel_rfl) (by kernel_rfl) (fun _ _ _ h => h) (Or.inl ⟨by rfl, ?_⟩) (by assumption) ?_
                    rotate_left
                    · (intro w hSw; (obtain ⟨⟨_, s0, s1, s2⟩, ⟨_, s3, s4⟩⟩ := hSw); go_simp <;> with_reducible rfl)
                    try simp only [Act.put, List.setIfInBounds_toArray, List.set_cons_zero, List.set_cons_succ]
                    refine wpAnyH_ready (rs := [11]) (by kernel_rfl) (by simp) ?_
                    refine AllReadyH.cons (o := { dst := some 23, op := Op.alloc 24, type := 0, pos := "outright.go:396", after := #[], guard := none }) rfl (fun K hK => ?_) AllReadyH.nil
                    go_simp
                    refine hK.out _ _ ?_ (fun hHeld => ?_)
                    · exact ⟨HB0.out.1.fut (G9.out.trans (Fut.alloc v9 (.cells #[.int .i64 0, .int .i64 0, .slice none 0 0] 24))), HB0.out.2.fut (G9.out.trans (Fut.alloc v9 (.cells #[.int .i64 0, .int .i64 0, .slice none 0 0] 24)))⟩
                    clear hK K
                    try simp only [Act.put, List.setIfInBounds_toArray, List.set_cons_zero, List.set_cons_succ]
                    refine wpAnyH_ready (rs := [12]) (by kernel_rfl) (by simp) ?_
                    refine AllReadyH.cons (o := { dst := none, op := Op.store 24 (Operand.tmp 23) (Operand.tmp 163), type := 0, pos := "outright.go:396", after := #[{ on := 11, ground := Ground.data }, { on := 10, ground := Ground.data }, { on := 9, ground := Ground.chain }, { on := 0, ground := Ground.phase }, { on := 1, ground := Ground.phase }, { on := 2, ground := Ground.phase }, { on := 3, ground := Ground.phase }, { on := 4, ground := Ground.phase }, { on := 5, ground := Ground.phase }, { on := 6, ground := Ground.phase }, { on := 7, ground := Ground.phase }, { on := 8, ground := Ground.phase }, { on := 9, ground := Ground.phase }, { on := 10, ground := Ground.phase }, { on := 11, ground := Ground.phase }], guard := none }) rfl (fun K hK => ?_) AllReadyH.nil
                    obtain ⟨v11, hv11⟩ : ∃ v11, v11 = v9.alloc (.cells #[.int .i64 0, .int .i64 0, .slice none 0 0] 24) := ⟨_, rfl⟩
                    have F11 : Fut v9 v11 := by rw [hv11]; exact Fut.alloc _ _
                    have H11 : Hid (v11.heap[v9.heap.size]? = some (.cells #[.int .i64 0, .int .i64 0, .slice none 0 0] 24)) := Lib.hid (by rw [hv11]; exact World.alloc_heap_new _ _)
                    have G11 : Hid (Fut u0 v11) := Lib.hid (G9.out.trans F11)
                    have HO9 := Lib.hid (HO9.out.fut F11)
                    rw [← hv11] at hHeld ⊢
                    clear hv11 F11
                    obtain ⟨⟨x1, x2⟩, ⟨x3, x4⟩, ⟨x5, x6⟩, x7⟩ := store3 (.int .i64 (r : Int)) (.int .i64 (c : Int)) (.slice (some ⟨g9, 0, none⟩) (S.length + 1) c9) H11.out
                    have hA : u0.heap.size ≤ v9.heap.size := RowKit.Below.size G9.out
                    have hb2 := (((But.refl (fun q => q = v9.heap.size) v11).setCell (p := ⟨v9.heap.size, 0, none⟩) (.inl rfl) (.int .i64 (r : Int))).setCell (p := ⟨v9.heap.size, 1, none⟩) (.inl rfl) (.int .i64 (c : Int))).setCell (p := ⟨v9.heap.size, 2, none⟩) (.inl rfl) (.slice (some ⟨g9, 0, none⟩) (S.length + 1) c9)
                    have hFE := RowKit.Below.trans G11.out (But.below hb2 u0.heap.size (RowKit.Below.size G11.out) (fun q hq => by subst hq; exact hA))
                    have HFE := Lib.hid hFE
                    have HNE : Hid (v9.heap.size ≠ g9) := Lib.hid (fun e => (own_ty HO9.out H11.out) (by rw [e]; rfl))
                    have hOE := own_but HO9.out hb2 (own_ty HO9.out H11.out)
                    have HOE := Lib.hid hOE
                    have HBE := Lib.hid (boxP_of x7)
                    clear hb2 hFE hOE x7
                    go_simp
                    refine hK.out _ _ ?_ (fun hHeld => ?_)
                    · exact ⟨HB0.out.1.fut HFE.out, HB0.out.2.fut HFE.out⟩
                    clear hK K
                    try simp only [Act.put, List.setIfInBounds_toArray, List.set_cons_zero, List.set_cons_succ]
                    refine wpAnyH_done (by kernel_rfl) ?_ _
                    clear x1 x2 x3 x4 x5 x6
                    have HOE2 := Lib.hid (HOE.out.base (B' := w9.heap.size) (by rw [HSD.out]; exact Nat.le_refl _))
                    have HFE2 := Lib.hid (HFD.out.trans HFE.out)
                    go_wp2_with fail
                    go_meet
                    exact ⟨_, _, _, rfl, HNE, HBE, HOE2, HFE2⟩
                  · go_simp
                    refine hK.out _ _ ?_ (fun hHeld => ?_)
                    · exact ⟨HB0.out.1.fut (G6.out.trans (Fut.alloc v6 (.cells #[.int .i64 0, .int .i64 0, .slice none 0 0] 24))), HB0.out.2.fut (G6.out.trans (Fut.alloc v6 (.cells #[.int .i64 0, .int .i64 0, .slice none 0 0] 24)))⟩
                    clear hK K
                    try simp only [Act.put, List.setIfInBounds_toArray, List.set_cons_zero, List.set_cons_succ]
                    refine wpAnyH_ready (rs := [9]) (by kernel_rfl) (by simp) ?_
                    refine AllReadyH.cons (o := { dst := some 162, op := Op.call { callee := Callee.builtin Builtin.append, args := #[Operand.tmp 159, Operand.tmp 161], argTypes := #[22, 22] }, type := 22, pos := "outright.go:396", after := #[{ on := 6, ground := Ground.data }, { on := 8, ground := Ground.data }, { on := 6, ground := Ground.chain }], guard := none }) rfl (fun K hK => ?_) AllReadyH.nil
                    obtain ⟨v11, hv11⟩ : ∃ v11, v11 = v6.alloc (.cells #[.int .i64 0, .int .i64 0, .slice none 0 0] 24) := ⟨_, rfl⟩
                    have F11 : Fut v6 v11 := by rw [hv11]; exact Fut.alloc _ _
                    have H11 : Hid (v11.heap[v6.heap.size]? = some (.cells #[.int .i64 0, .int .i64 0, .slice none 0 0] 24)) := Lib.hid (by rw [hv11]; exact World.alloc_heap_new _ _)
                    have G11 : Hid (Fut u0 v11) := Lib.hid (G6.out.trans F11)
                    have C8 := Lib.hid (cell_fut C8.out F11)
                    have HO6 := Lib.hid (HO6.out.fut F11)
                    rw [← hv11] at hHeld ⊢
                    clear hv11 F11
                    refine step_append_lies v11 rfl _ _ 22 rfl u0.heap.size 3 i0 (.int .i64 0) 1 8 Try.underlying22 hi0 hz0 hz1 hz2 rfl (by decide) _ S.length (S.map (Value.int .i64)) rfl HO6.out ⟨u0.heap.size, 0, none⟩ 1 1 [.int .i64 (z : Int)] rfl rfl (cell_one C8.out.1) (by simp [Value.oneCell']) (by omega) (by unfold maxLen; omega) (by omega) (RowKit.Below.size G11.out) _ rfl ?_
                    intro g9 c9 v9 hown9 hgr9 _ hlt9
                    have G9 : Hid (Fut u0 v9) := Lib.hid (RowKit.Below.grown G11.out hgr9 (RowKit.Below.size G11.out) fun q hq => (World.ownsRow.lt HO6.out q hq).1)
                    have HO9 : Hid (Owns v9 u0.heap.size (.slice (some ⟨g9, 0, none⟩) (S.length + 1) c9) (S ++ [(z : Int)])) := Lib.hid (by unfold Owns; rw [List.length_append, List.length_singleton, List.map_append]; exact hown9)
                    have H11 := Lib.hid (heap_kept H11.out hgr9 (own_ty HO6.out H11.out))
                    clear hown9 hgr9 hlt9 HO6
                    refine hK.out _ _ ?_ (fun hHeld => ?_)
                    · exact ⟨HB0.out.1.fut G9.out, HB0.out.2.fut G9.out⟩
                    clear hK K
                    try simp only [Act.put, List.setIfInBounds_toArray, List.set_cons_zero, List.set_cons_succ]
                    refine wpAnyH_take (i := 10) (oi := { dst := some 163, op := Op.build 24 #[(0, Operand.tmp 154), (1, Operand.tmp 156), (2, Operand.tmp 162)], type := 24, pos := "outright.go:396", after := #[{ on := 1, ground := Ground.data }, { on := 3, ground := Ground.data }, { on := 9, ground := Ground.data }], guard := none }) (v := ?_) rfl (by kernel_rfl) (by kernel_rfl) (by kernel_rfl) (fun _ _ _ h => h) (Or.inl ⟨by rfl, ?_⟩) (by assumption) ?_
                    rotate_left
                    · (intro w hSw; (obtain ⟨⟨_, s0, s1, s2⟩, ⟨_, s3, s4⟩⟩ := hSw); go_simp <;> with_reducible rfl)
                    try simp only [Act.put, List.setIfInBounds_toArray, List.set_cons_zero, List.set_cons_succ]
                    refine wpAnyH_ready (rs := [12]) (by kernel_rfl) (by simp) ?_
                    refine AllReadyH.cons (o := { dst := none, op := Op.store 24 (Operand.tmp 23) (Operand.tmp 163), type := 0, pos := "outright.go:396", after := #[{ on := 11, ground := Ground.data }, { on := 10, ground := Ground.data }, { on := 9, ground := Ground.chain }, { on := 0, ground := Ground.phase }, { on := 1, ground := Ground.phase }, { on := 2, ground := Ground.phase }, { on := 3, ground := Ground.phase }, { on := 4, ground := Ground.phase }, { on := 5, ground := Ground.phase }, { on := 6, ground := Ground.phase }, { on := 7, ground := Ground.phase }, { on := 8, ground := Ground.phase }, { on := 9, ground := Ground.phase }, { on := 10, ground := Ground.phase }, { on := 11, ground := Ground.phase }], guard := none }) rfl (fun K hK => ?_) AllReadyH.nil
                    obtain ⟨⟨x1, x2⟩, ⟨x3, x4⟩, ⟨x5, x6⟩, x7⟩ := store3 (.int .i64 (r : Int)) (.int .i64 (c : Int)) (.slice (some ⟨g9, 0, none⟩) (S.length + 1) c9) H11.out
                    have hA : u0.heap.size ≤ v6.heap.size := RowKit.Below.size G6.out
                    have hb2 := (((But.refl (fun q => q = v6.heap.size) v9).setCell (p := ⟨v6.heap.size, 0, none⟩) (.inl rfl) (.int .i64 (r : Int))).setCell (p := ⟨v6.heap.size, 1, none⟩) (.inl rfl) (.int .i64 (c : Int))).setCell (p := ⟨v6.heap.size, 2, none⟩) (.inl rfl) (.slice (some ⟨g9, 0, none⟩) (S.length + 1) c9)
                    have hFE := RowKit.Below.trans G9.out (But.below hb2 u0.heap.size (RowKit.Below.size G9.out) (fun q hq => by subst hq; exact hA))
                    have HFE := Lib.hid hFE
                    have HNE : Hid (v6.heap.size ≠ g9) := Lib.hid (fun e => (own_ty HO9.out H11.out) (by rw [e]; rfl))
                    have hOE := own_but HO9.out hb2 (own_ty HO9.out H11.out)
                    have HOE := Lib.hid hOE
                    have HBE := Lib.hid (boxP_of x7)
                    clear hb2 hFE hOE x7
                    go_simp
                    refine hK.out _ _ ?_ (fun hHeld => ?_)
                    · exact ⟨HB0.out.1.fut HFE.out, HB0.out.2.fut HFE.out⟩
                    clear hK K
                    try simp only [Act.put, List.setIfInBounds_toArray, List.set_cons_zero, List.set_cons_succ]
                    refine wpAnyH_done (by kernel_rfl) ?_ _
                    clear x1 x2 x3 x4 x5 x6
                    have HOE2 := Lib.hid (HOE.out.base (B' := w9.heap.size) (by rw [HSD.out]; exact Nat.le_refl _))
                    have HFE2 := Lib.hid (HFD.out.trans HFE.out)
                    go_wp2_with fail
                    go_meet
                    exact ⟨_, _, _, rfl, HNE, HBE, HOE2, HFE2⟩
                · obtain ⟨v8, hv8⟩ : ∃ v8, v8 = u0.alloc (.cells #[.int .i64 (z : Int)] 3) := ⟨_, rfl⟩
                  have F8 : Fut u0 v8 := by rw [hv8]; exact Fut.alloc _ _
                  have C8 : Hid (v8.cell? ⟨u0.heap.size, 0, none⟩ = some (.int .i64 (z : Int)) ∧ u0.heap.size < v8.heap.size) := Lib.hid ⟨by rw [hv8]; exact alloc_cell _ _ _, by rw [hv8]; simp⟩
                  have G8 : Hid (Fut u0 v8) := Lib.hid (F8)
                  rw [← hv8] at hHeld ⊢
                  clear hv8 F8
                  go_simp
                  refine hK.out _ _ ?_ (fun hHeld => ?_)
                  · exact ⟨HB0.out.1.fut (G8.out.trans (Fut.alloc v8 (.cells #[.int .i64 0, .int .i64 0, .slice none 0 0] 24))), HB0.out.2.fut (G8.out.trans (Fut.alloc v8 (.cells #[.int .i64 0, .int .i64 0, .slice none 0 0] 24)))⟩
                  clear hK K
                  try simp only [Act.put, List.setIfInBounds_toArray, List.set_cons_zero, List.set_cons_succ]
                  refine wpAnyH_ready (rs := [6]) (by kernel_rfl) (by simp) ?_
                  refine AllReadyH.cons (o := { dst := some 159, op := Op.call { callee := Callee.value (Operand.func 59), args := #[Operand.tmp 158], argTypes := #[22] }, type := 22, pos := "outright.go:396", after := #[{ on := 5, ground := Ground.data }], guard := none }) rfl (fun K hK => ?_) AllReadyH.nil
                  obtain ⟨v11, hv11⟩ : ∃ v11, v11 = v8.alloc (.cells #[.int .i64 0, .int .i64 0, .slice none 0 0] 24) := ⟨_, rfl⟩
                  have F11 : Fut v8 v11 := by rw [hv11]; exact Fut.alloc _ _
                  have H11 : Hid (v11.heap[v8.heap.size]? = some (.cells #[.int .i64 0, .int .i64 0, .slice none 0 0] 24)) := Lib.hid (by rw [hv11]; exact World.alloc_heap_new _ _)
                  have G11 : Hid (Fut u0 v11) := Lib.hid (G8.out.trans F11)
                  have C8 := Lib.hid (cell_fut C8.out F11)
                  rw [← hv11] at hHeld ⊢
                  clear hv11 F11
                  go_simp
                  go_at_call 59
                  refine (HCL.out v11 G11.out).mono ?_
                  rintro _ v6 ⟨y6, rfl, hO6, F6⟩
                  obtain ⟨_, c6, e6, _, _, hI6⟩ := hO6.form
                  subst e6
                  have G6 : Hid (Fut u0 v6) := Lib.hid (G11.out.trans F6)
                  have HO6 := Lib.hid (Owns.base hO6 (RowKit.Below.size G11.out : u0.heap.size ≤ _))
                  have C8 := Lib.hid (cell_fut C8.out F6)
                  have H11 := Lib.hid (heap_fut H11.out F6)
                  clear hO6 hI6 F6
                  try go_wp2_with fail
                  refine hK.out _ _ ?_ (fun hHeld => ?_)
                  · exact ⟨HB0.out.1.fut G6.out, HB0.out.2.fut G6.out⟩
                  clear hK K
                  try simp only [Act.put, List.setIfInBounds_toArray, List.set_cons_zero, List.set_cons_succ]
                  refine wpAnyH_ready (rs := [9]) (by kernel_rfl) (by simp) ?_
                  refine AllReadyH.cons (o := { dst := some 162, op := Op.call { callee := Callee.builtin Builtin.append, args := #[Operand.tmp 159, Operand.tmp 161], argTypes := #[22, 22] }, type := 22, pos := "outright.go:396", after := #[{ on := 6, ground := Ground.data }, { on := 8, ground := Ground.data }, { on := 6, ground := Ground.chain }], guard := none }) rfl (fun K hK => ?_) AllReadyH.nil
                  refine step_append_lies v6 rfl _ _ 22 rfl u0.heap.size 3 i0 (.int .i64 0) 1 8 Try.underlying22 hi0 hz0 hz1 hz2 rfl (by decide) _ S.length (S.map (Value.int .i64)) rfl HO6.out ⟨u0.heap.size, 0, none⟩ 1 1 [.int .i64 (z : Int)] rfl rfl (cell_one C8.out.1) (by simp [Value.oneCell']) (by omega) (by unfold maxLen; omega) (by omega) (RowKit.Below.size G6.out) _ rfl ?_
                  intro g9 c9 v9 hown9 hgr9 _ hlt9
                  have G9 : Hid (Fut u0 v9) := Lib.hid (RowKit.Below.grown G6.out hgr9 (RowKit.Below.size G6.out) fun q hq => (World.ownsRow.lt HO6.out q hq).1)
                  have HO9 : Hid (Owns v9 u0.heap.size (.slice (some ⟨g9, 0, none⟩) (S.length + 1) c9) (S ++ [(z : Int)])) := Lib.hid (by unfold Owns; rw [List.length_append, List.length_singleton, List.map_append]; exact hown9)
                  have H11 := Lib.hid (heap_kept H11.out hgr9 (own_ty HO6.out H11.out))
                  clear hown9 hgr9 hlt9 HO6
                  refine hK.out _ _ ?_ (fun hHeld => ?_)
                  · exact ⟨HB0.out.1.fut G9.out, HB0.out.2.fut G9.out⟩
                  clear hK K
                  try simp only [Act.put, List.setIfInBounds_toArray, List.set_cons_zero, List.set_cons_succ]
                  refine wpAnyH_take (i := 10) (oi := { dst := some 163, op := Op.build 24 #[(0, Operand.tmp 154), (1, Operand.tmp 156), (2, Operand.tmp 162)], type := 24, pos := "outright.go:396", after := #[{ on := 1, ground := Ground.data }, { on := 3, ground := Ground.data }, { on := 9, ground := Ground.data }], guard := none }) (v := ?_) rfl (by kernel_rfl) (by kernel_rfl) (by kernel_rfl) (fun _ _ _ h => h) (Or.inl ⟨by rfl, ?_⟩) (by assumption) ?_
                  rotate_left
                  · (intro w hSw; (obtain ⟨⟨_, s0, s1, s2⟩, ⟨_, s3, s4⟩⟩ := hSw); go_simp <;> with_reducible rfl)
                  try simp only [Act.put, List.setIfInBounds_toArray, List.set_cons_zero, List.set_cons_succ]
                  refine wpAnyH_ready (rs := [12]) (by kernel_rfl) (by simp) ?_
                  refine AllReadyH.cons (o := { dst := none, op := Op.store 24 (Operand.tmp 23) (Operand.tmp 163), type := 0, pos := "outright.go:396", after := #[{ on := 11, ground := Ground.data }, { on := 10, ground := Ground.data }, { on := 9, ground := Ground.chain }, { on := 0, ground := Ground.phase }, { on := 1, ground := Ground.phase }, { on := 2, ground := Ground.phase }, { on := 3, ground := Ground.phase }, { on := 4, ground := Ground.phase }, { on := 5, ground := Ground.phase }, { on := 6, ground := Ground.phase }, { on := 7, ground := Ground.phase }, { on := 8, ground := Ground.phase }, { on := 9, ground := Ground.phase }, { on := 10, ground := Ground.phase }, { on := 11, ground := Ground.phase }], guard := none }) rfl (fun K hK => ?_) AllReadyH.nil
                  obtain ⟨⟨x1, x2⟩, ⟨x3, x4⟩, ⟨x5, x6⟩, x7⟩ := store3 (.int .i64 (r : Int)) (.int .i64 (c : Int)) (.slice (some ⟨g9, 0, none⟩) (S.length + 1) c9) H11.out
                  have hA : u0.heap.size ≤ v8.heap.size := RowKit.Below.size G8.out
                  have hb2 := (((But.refl (fun q => q = v8.heap.size) v9).setCell (p := ⟨v8.heap.size, 0, none⟩) (.inl rfl) (.int .i64 (r : Int))).setCell (p := ⟨v8.heap.size, 1, none⟩) (.inl rfl) (.int .i64 (c : Int))).setCell (p := ⟨v8.heap.size, 2, none⟩) (.inl rfl) (.slice (some ⟨g9, 0, none⟩) (S.length + 1) c9)
                  have hFE := RowKit.Below.trans G9.out (But.below hb2 u0.heap.size (RowKit.Below.size G9.out) (fun q hq => by subst hq; exact hA))
                  have HFE := Lib.hid hFE
                  have HNE : Hid (v8.heap.size ≠ g9) := Lib.hid (fun e => (own_ty HO9.out H11.out) (by rw [e]; rfl))
                  have hOE := own_but HO9.out hb2 (own_ty HO9.out H11.out)
                  have HOE := Lib.hid hOE
                  have HBE := Lib.hid (boxP_of x7)
                  clear hb2 hFE hOE x7
                  go_simp
                  refine hK.out _ _ ?_ (fun hHeld => ?_)
                  · exact ⟨HB0.out.1.fut HFE.out, HB0.out.2.fut HFE.out⟩
                  clear hK K
                  try simp only [Act.put, List.setIfInBounds_toArray, List.set_cons_zero, List.set_cons_succ]
                  refine wpAnyH_done (by kernel_rfl) ?_ _
                  clear x1 x2 x3 x4 x5 x6
                  have HOE2 := Lib.hid (HOE.out.base (B' := w9.heap.size) (by rw [HSD.out]; exact Nat.le_refl _))
                  have HFE2 := Lib.hid (HFD.out.trans HFE.out)
                  go_wp2_with fail
                  go_meet
                  exact ⟨_, _, _, rfl, HNE, HBE, HOE2, HFE2⟩
              · go_simp
                refine hK.out _ _ ?_ (fun hHeld => ?_)
                · exact ⟨HB0.out.1.fut (Fut.alloc u0 (.cells #[.int .i64 0, .int .i64 0, .slice none 0 0] 24)), HB0.out.2.fut (Fut.alloc u0 (.cells #[.int .i64 0, .int .i64 0, .slice none 0 0] 24))⟩
                clear hK K
                try simp only [Act.put, List.setIfInBounds_toArray, List.set_cons_zero, List.set_cons_succ]
                refine wpAnyH_ready (rs := [6, 8]) (by kernel_rfl) (by simp) ?_
                refine AllReadyH.cons (o := { dst := some 159, op := Op.call { callee := Callee.value (Operand.func 59), args := #[Operand.tmp 158], argTypes := #[22] }, type := 22, pos := "outright.go:396", after := #[{ on := 5, ground := Ground.data }], guard := none }) rfl (fun K hK => ?_) (AllReadyH.cons (o := { dst := some 161, op := Op.buildSlice 22 1 #[(0, Operand.tmp 160)], type := 22, pos := "outright.go:396", after := #[{ on := 7, ground := Ground.data }], guard := none }) rfl (fun K hK => ?_) (AllReadyH.nil))
                · obtain ⟨v11, hv11⟩ : ∃ v11, v11 = u0.alloc (.cells #[.int .i64 0, .int .i64 0, .slice none 0 0] 24) := ⟨_, rfl⟩
                  have F11 : Fut u0 v11 := by rw [hv11]; exact Fut.alloc _ _
                  have H11 : Hid (v11.heap[u0.heap.size]? = some (.cells #[.int .i64 0, .int .i64 0, .slice none 0 0] 24)) := Lib.hid (by rw [hv11]; exact World.alloc_heap_new _ _)
                  have G11 : Hid (Fut u0 v11) := Lib.hid (F11)
                  rw [← hv11] at hHeld ⊢
                  clear hv11 F11
                  go_simp
                  go_at_call 59
                  refine (HCL.out v11 G11.out).mono ?_
                  rintro _ v6 ⟨y6, rfl, hO6, F6⟩
                  obtain ⟨_, c6, e6, _, _, hI6⟩ := hO6.form
                  subst e6
                  have G6 : Hid (Fut u0 v6) := Lib.hid (G11.out.trans F6)
                  have HO6 := Lib.hid (Owns.base hO6 (RowKit.Below.size G11.out : u0.heap.size ≤ _))
                  have H11 := Lib.hid (heap_fut H11.out F6)
                  clear hO6 hI6 F6
                  try go_wp2_with fail
                  refine hK.out _ _ ?_ (fun hHeld => ?_)
                  · exact ⟨HB0.out.1.fut G6.out, HB0.out.2.fut G6.out⟩
                  clear hK K
                  try simp only [Act.put, List.setIfInBounds_toArray, List.set_cons_zero, List.set_cons_succ]
                  refine wpAnyH_ready (rs := [8]) (by kernel_rfl) (by simp) ?_
                  refine AllReadyH.cons (o := { dst := some 161, op := Op.buildSlice 22 1 #[(0, Operand.tmp 160)], type := 22, pos := "outright.go:396", after := #[{ on := 7, ground := Ground.data }], guard := none }) rfl (fun K hK => ?_) AllReadyH.nil
                  go_simp
                  refine hK.out _ _ ?_ (fun hHeld => ?_)
                  · exact ⟨HB0.out.1.fut (G6.out.trans (Fut.alloc v6 (.cells #[.int .i64 (z : Int)] 3))), HB0.out.2.fut (G6.out.trans (Fut.alloc v6 (.cells #[.int .i64 (z : Int)] 3)))⟩
                  clear hK K
                  try simp only [Act.put, List.setIfInBounds_toArray, List.set_cons_zero, List.set_cons_succ]
                  refine wpAnyH_ready (rs := [9]) (by kernel_rfl) (by simp) ?_
                  refine AllReadyH.cons (o := { dst := some 162, op := Op.call { callee := Callee.builtin Builtin.append, args := #[Operand.tmp 159, Operand.tmp 161], argTypes := #[22, 22] }, type := 22, pos := "outright.go:396", after := #[{ on := 6, ground := Ground.data }, { on := 8, ground := Ground.data }, { on := 6, ground := Ground.chain }], guard := none }) rfl (fun K hK => ?_) AllReadyH.nil
                  obtain ⟨v8, hv8⟩ : ∃ v8, v8 = v6.alloc (.cells #[.int .i64 (z : Int)] 3) := ⟨_, rfl⟩
                  have F8 : Fut v6 v8 := by rw [hv8]; exact Fut.alloc _ _
                  have C8 : Hid (v8.cell? ⟨v6.heap.size, 0, none⟩ = some (.int .i64 (z : Int)) ∧ v6.heap.size < v8.heap.size) := Lib.hid ⟨by rw [hv8]; exact alloc_cell _ _ _, by rw [hv8]; simp⟩
                  have G8 : Hid (Fut u0 v8) := Lib.hid (G6.out.trans F8)
                  have H11 := Lib.hid (heap_fut H11.out F8)
                  have HO6 := Lib.hid (HO6.out.fut F8)
                  rw [← hv8] at hHeld ⊢
                  clear hv8 F8
                  refine step_append_lies v8 rfl _ _ 22 rfl u0.heap.size 3 i0 (.int .i64 0) 1 8 Try.underlying22 hi0 hz0 hz1 hz2 rfl (by decide) _ S.length (S.map (Value.int .i64)) rfl HO6.out ⟨v6.heap.size, 0, none⟩ 1 1 [.int .i64 (z : Int)] rfl rfl (cell_one C8.out.1) (by simp [Value.oneCell']) (by omega) (by unfold maxLen; omega) (by omega) (RowKit.Below.size G8.out) _ rfl ?_
                  intro g9 c9 v9 hown9 hgr9 _ hlt9
                  have G9 : Hid (Fut u0 v9) := Lib.hid (RowKit.Below.grown G8.out hgr9 (RowKit.Below.size G8.out) fun q hq => (World.ownsRow.lt HO6.out q hq).1)
                  have HO9 : Hid (Owns v9 u0.heap.size (.slice (some ⟨g9, 0, none⟩) (S.length + 1) c9) (S ++ [(z : Int)])) := Lib.hid (by unfold Owns; rw [List.length_append, List.length_singleton, List.map_append]; exact hown9)
                  have H11 := Lib.hid (heap_kept H11.out hgr9 (own_ty HO6.out H11.out))
                  clear hown9 hgr9 hlt9 HO6
                  refine hK.out _ _ ?_ (fun hHeld => ?_)
                  · exact ⟨HB0.out.1.fut G9.out, HB0.out.2.fut G9.out⟩
                  clear hK K
                  try simp only [Act.put, List.setIfInBounds_toArray, List.set_cons_zero, List.set_cons_succ]
                  refine wpAnyH_take (i := 10) (oi := { dst := some 163, op := Op.build 24 #[(0, Operand.tmp 154), (1, Operand.tmp 156), (2, Operand.tmp 162)], type := 24, pos := "outright.go:396", after := #[{ on := 1, ground := Ground.data }, { on := 3, ground := Ground.data }, { on := 9, ground := Ground.data }], guard := none }) (v := ?_) rfl (by kernel_rfl) (by kernel_rfl) (by kernel_rfl) (fun _ _ _ h => h) (Or.inl ⟨by rfl, ?_⟩) (by assumption) ?_
                  rotate_left
                  · (intro w hSw; (obtain ⟨⟨_, s0, s1, s2⟩, ⟨_, s3, s4⟩⟩ := hSw); go_simp <;> with_reducible rfl)
                  try simp only [Act.put, List.setIfInBounds_toArray, List.set_cons_zero, List.set_cons_succ]
                  refine wpAnyH_ready (rs := [12]) (by kernel_rfl) (by simp) ?_
                  refine AllReadyH.cons (o := { dst := none, op := Op.store 24 (Operand.tmp 23) (Operand.tmp 163), type := 0, pos := "outright.go:396", after := #[{ on := 11, ground := Ground.data }, { on := 10, ground := Ground.data }, { on := 9, ground := Ground.chain }, { on := 0, ground := Ground.phase }, { on := 1, ground := Ground.phase }, { on := 2, ground := Ground.phase }, { on := 3, ground := Ground.phase }, { on := 4, ground := Ground.phase }, { on := 5, ground := Ground.phase }, { on := 6, ground := Ground.phase }, { on := 7, ground := Ground.phase }, { on := 8, ground := Ground.phase }, { on := 9, ground := Ground.phase }, { on := 10, ground := Ground.phase }, { on := 11, ground := Ground.phase }], guard := none }) rfl (fun K hK => ?_) AllReadyH.nil
                  obtain ⟨⟨x1, x2⟩, ⟨x3, x4⟩, ⟨x5, x6⟩, x7⟩ := store3 (.int .i64 (r : Int)) (.int .i64 (c : Int)) (.slice (some ⟨g9, 0, none⟩) (S.length + 1) c9) H11.out
                  have hA : u0.heap.size ≤ u0.heap.size := Nat.le_refl _
                  have hb2 := (((But.refl (fun q => q = u0.heap.size) v9).setCell (p := ⟨u0.heap.size, 0, none⟩) (.inl rfl) (.int .i64 (r : Int))).setCell (p := ⟨u0.heap.size, 1, none⟩) (.inl rfl) (.int .i64 (c : Int))).setCell (p := ⟨u0.heap.size, 2, none⟩) (.inl rfl) (.slice (some ⟨g9, 0, none⟩) (S.length + 1) c9)
                  have hFE := RowKit.Below.trans G9.out (But.below hb2 u0.heap.size (RowKit.Below.size G9.out) (fun q hq => by subst hq; exact hA))
                  have HFE := Lib.hid hFE
                  have HNE : Hid (u0.heap.size ≠ g9) := Lib.hid (fun e => (own_ty HO9.out H11.out) (by rw [e]; rfl))
                  have hOE := own_but HO9.out hb2 (own_ty HO9.out H11.out)
                  have HOE := Lib.hid hOE
                  have HBE := Lib.hid (boxP_of x7)
                  clear hb2 hFE hOE x7
                  go_simp
                  refine hK.out _ _ ?_ (fun hHeld => ?_)
                  · exact ⟨HB0.out.1.fut HFE.out, HB0.out.2.fut HFE.out⟩
                  clear hK K
                  try simp only [Act.put, List.setIfInBounds_toArray, List.set_cons_zero, List.set_cons_succ]
                  refine wpAnyH_done (by kernel_rfl) ?_ _
                  clear x1 x2 x3 x4 x5 x6
                  have HOE2 := Lib.hid (HOE.out.base (B' := w9.heap.size) (by rw [HSD.out]; exact Nat.le_refl _))
                  have HFE2 := Lib.hid (HFD.out.trans HFE.out)
                  go_wp2_with fail
                  go_meet
                  exact ⟨_, _, _, rfl, HNE, HBE, HOE2, HFE2⟩
                · obtain ⟨v11, hv11⟩ : ∃ v11, v11 = u0.alloc (.cells #[.int .i64 0, .int .i64 0, .slice none 0 0] 24) := ⟨_, rfl⟩
                  have F11 : Fut u0 v11 := by rw [hv11]; exact Fut.alloc _ _
                  have H11 : Hid (v11.heap[u0.heap.size]? = some (.cells #[.int .i64 0, .int .i64 0, .slice none 0 0] 24)) := Lib.hid (by rw [hv11]; exact World.alloc_heap_new _ _)
                  have G11 : Hid (Fut u0 v11) := Lib.hid (F11)
                  rw [← hv11] at hHeld ⊢
                  clear hv11 F11
                  go_simp
                  refine hK.out _ _ ?_ (fun hHeld => ?_)
                  · exact ⟨HB0.out.1.fut (G11.out.trans (Fut.alloc v11 (.cells #[.int .i64 (z : Int)] 3))), HB0.out.2.fut (G11.out.trans (Fut.alloc v11 (.cells #[.int .i64 (z : Int)] 3)))⟩
                  clear hK K
                  try simp only [Act.put, List.setIfInBounds_toArray, List.set_cons_zero, List.set_cons_succ]
                  refine wpAnyH_ready (rs := [6]) (by kernel_rfl) (by simp) ?_
                  refine AllReadyH.cons (o := { dst := some 159, op := Op.call { callee := Callee.value (Operand.func 59), args := #[Operand.tmp 158], argTypes := #[22] }, type := 22, pos := "outright.go:396", after := #[{ on := 5, ground := Ground.data }], guard := none }) rfl (fun K hK => ?_) AllReadyH.nil
                  obtain ⟨v8, hv8⟩ : ∃ v8, v8 = v11.alloc (.cells #[.int .i64 (z : Int)] 3) := ⟨_, rfl⟩
                  have F8 : Fut v11 v8 := by rw [hv8]; exact Fut.alloc _ _
                  have C8 : Hid (v8.cell? ⟨v11.heap.size, 0, none⟩ = some (.int .i64 (z : Int)) ∧ v11.heap.size < v8.heap.size) := Lib.hid ⟨by rw [hv8]; exact alloc_cell _ _ _, by rw [hv8]; simp⟩
                  have G8 : Hid (Fut u0 v8) := Lib.hid (G11.out.trans F8)
                  have H11 := Lib.hid (heap_fut H11.out F8)
                  rw [← hv8] at hHeld ⊢
                  clear hv8 F8
                  go_simp
                  go_at_call 59
                  refine (HCL.out v8 G8.out).mono ?_
                  rintro _ v6 ⟨y6, rfl, hO6, F6⟩
                  obtain ⟨_, c6, e6, _, _, hI6⟩ := hO6.form
                  subst e6
                  have G6 : Hid (Fut u0 v6) := Lib.hid (G8.out.trans F6)
                  have HO6 := Lib.hid (Owns.base hO6 (RowKit.Below.size G8.out : u0.heap.size ≤ _))
                  have C8 := Lib.hid (cell_fut C8.out F6)
                  have H11 := Lib.hid (heap_fut H11.out F6)
                  clear hO6 hI6 F6
                  try go_wp2_with fail
                  refine hK.out _ _ ?_ (fun hHeld => ?_)
                  · exact ⟨HB0.out.1.fut G6.out, HB0.out.2.fut G6.out⟩
                  clear hK K
                  try simp only [Act.put, List.setIfInBounds_toArray, List.set_cons_zero, List.set_cons_succ]
                  refine wpAnyH_ready (rs := [9]) (by kernel_rfl) (by simp) ?_
                  refine AllReadyH.cons (o := { dst := some 162, op := Op.call { callee := Callee.builtin Builtin.append, args := #[Operand.tmp 159, Operand.tmp 161], argTypes := #[22, 22] }, type := 22, pos := "outright.go:396", after := #[{ on := 6, ground := Ground.data }, { on := 8, ground := Ground.data }, { on := 6, ground := Ground.chain }], guard := none }) rfl (fun K hK => ?_) AllReadyH.nil
                  refine step_append_lies v6 rfl _ _ 22 rfl u0.heap.size 3 i0 (.int .i64 0) 1 8 Try.underlying22 hi0 hz0 hz1 hz2 rfl (by decide) _ S.length (S.map (Value.int .i64)) rfl HO6.out ⟨v11.heap.size, 0, none⟩ 1 1 [.int .i64 (z : Int)] rfl rfl (cell_one C8.out.1) (by simp [Value.oneCell']) (by omega) (by unfold maxLen; omega) (by omega) (RowKit.Below.size G6.out) _ rfl ?_
                  intro g9 c9 v9 hown9 hgr9 _ hlt9
                  have G9 : Hid (Fut u0 v9) := Lib.hid (RowKit.Below.grown G6.out hgr9 (RowKit.Below.size G6.out) fun q hq => (World.ownsRow.lt HO6.out q hq).1)
                  have HO9 : Hid (Owns v9 u0.heap.size (.slice (some ⟨g9, 0, none⟩) (S.length + 1) c9) (S ++ [(z : Int)])) := Lib.hid (by unfold Owns; rw [List.length_append, List.length_singleton, List.map_append]; exact hown9)
                  have H11 := Lib.hid (heap_kept H11.out hgr9 (own_ty HO6.out H11.out))
                  clear hown9 hgr9 hlt9 HO6
                  refine hK.out _ _ ?_ (fun hHeld => ?_)
                  · exact ⟨HB0.out.1.fut G9.out, HB0.out.2.fut G9.out⟩
                  clear hK K
                  try simp only [Act.put, List.setIfInBounds_toArray, List.set_cons_zero, List.set_cons_succ]
                  refine wpAnyH_take (i := 10) (oi := { dst := some 163, op := Op.build 24 #[(0, Operand.tmp 154), (1, Operand.tmp 156), (2, Operand.tmp 162)], type := 24, pos := "outright.go:396", after := #[{ on := 1, ground := Ground.data }, { on := 3, ground := Ground.data }, { on := 9, ground := Ground.data }], guard := none }) (v := ?_) rfl (by kernel_rfl) (by kernel_rfl) (by kernel_rfl) (fun _ _ _ h => h) (Or.inl ⟨by rfl, ?_⟩) (by assumption) ?_
                  rotate_left
                  · (intro w hSw; (obtain ⟨⟨_, s0, s1, s2⟩, ⟨_, s3, s4⟩⟩ := hSw); go_simp <;> with_reducible rfl)
                  try simp only [Act.put, List.setIfInBounds_toArray, List.set_cons_zero, List.set_cons_succ]
                  refine wpAnyH_ready (rs := [12]) (by kernel_rfl) (by simp) ?_
                  refine AllReadyH.cons (o := { dst := none, op := Op.store 24 (Operand.tmp 23) (Operand.tmp 163), type := 0, pos := "outright.go:396", after := #[{ on := 11, ground := Ground.data }, { on := 10, ground := Ground.data }, { on := 9, ground := Ground.chain }, { on := 0, ground := Ground.phase }, { on := 1, ground := Ground.phase }, { on := 2, ground := Ground.phase }, { on := 3, ground := Ground.phase }, { on := 4, ground := Ground.phase }, { on := 5, ground := Ground.phase }, { on := 6, ground := Ground.phase }, { on := 7, ground := Ground.phase }, { on := 8, ground := Ground.phase }, { on := 9, ground := Ground.phase }, { on := 10, ground := Ground.phase }, { on := 11, ground := Ground.phase }], guard := none }) rfl (fun K hK => ?_) AllReadyH.nil
                  obtain ⟨⟨x1, x2⟩, ⟨x3, x4⟩, ⟨x5, x6⟩, x7⟩ := store3 (.int .i64 (r : Int)) (.int .i64 (c : Int)) (.slice (some ⟨g9, 0, none⟩) (S.length + 1) c9) H11.out
                  have hA : u0.heap.size ≤ u0.heap.size := Nat.le_refl _
                  have hb2 := (((But.refl (fun q => q = u0.heap.size) v9).setCell (p := ⟨u0.heap.size, 0, none⟩) (.inl rfl) (.int .i64 (r : Int))).setCell (p := ⟨u0.heap.size, 1, none⟩) (.inl rfl) (.int .i64 (c : Int))).setCell (p := ⟨u0.heap.size, 2, none⟩) (.inl rfl) (.slice (some ⟨g9, 0, none⟩) (S.length + 1) c9)
                  have hFE := RowKit.Below.trans G9.out (But.below hb2 u0.heap.size (RowKit.Below.size G9.out) (fun q hq => by subst hq; exact hA))
                  have HFE := Lib.hid hFE
                  have HNE : Hid (u0.heap.size ≠ g9) := Lib.hid (fun e => (own_ty HO9.out H11.out) (by rw [e]; rfl))
                  have hOE := own_but HO9.out hb2 (own_ty HO9.out H11.out)
                  have HOE := Lib.hid hOE
                  have HBE := Lib.hid (boxP_of x7)
                  clear hb2 hFE hOE x7
                  go_simp
                  refine hK.out _ _ ?_ (fun hHeld => ?_)
                  · exact ⟨HB0.out.1.fut HFE.out, HB0.out.2.fut HFE.out⟩
                  clear hK K
                  try simp only [Act.put, List.setIfInBounds_toArray, List.set_cons_zero, List.set_cons_succ]
                  refine wpAnyH_done (by kernel_rfl) ?_ _
                  clear x1 x2 x3 x4 x5 x6
                  have HOE2 := Lib.hid (HOE.out.base (B' := w9.heap.size) (by rw [HSD.out]; exact Nat.le_refl _))
                  have HFE2 := Lib.hid (HFD.out.trans HFE.out)
                  go_wp2_with fail
                  go_meet
                  exact ⟨_, _, _, rfl, HNE, HBE, HOE2, HFE2⟩
            case rest =>
              obtain ⟨B, g, cp, rfl, HNE, HBO, HOO, HFC⟩ := hcut
              obtain ⟨wa, hwa⟩ : ∃ wa, wa = wc := ⟨_, rfl⟩
              subst hwa
              have hOO := HOO.out
              unfold Owns at hOO
              rw [List.length_append, List.length_singleton] at hOO
              have hgb := World.ownsRow.lt hOO g rfl
              have hRN : RowN wa g (S ++ [(z : Int)]) := by
                obtain ⟨g', cap', e9, _, _, hr, _, _⟩ := row_ints hOO (by simp) (by omega)
                simp only [Value.slice.injEq, true_and, Option.some.injEq, Addr.mk.injEq, and_true] at e9
                rw [e9.1]; exact hr
              have hSO := sort_any g cp (S ++ [(z : Int)]) wa hRN hgb.2 (by rw [List.length_append, List.length_singleton]; omega)
              rw [show (S ++ [(z : Int)]).length = S.length + 1 by simp] at hSO
              have HSO := Lib.hid hSO
              have HGB := Lib.hid hgb
              obtain ⟨_, b0, b1, b2⟩ := HBO.out
              clear hRN hgb hSO hOO
              go_wp2_with fail
              refine HSO.out.mono ?_
              rintro _ wb ⟨rfl, hRb, hBb, hsb, hkb⟩
              have hFb : Fut w9 wb := RowKit.Below.trans HFC.out (hBb _ HGB.out.1)
              have hkB := hkb B HBO.out.lt HNE.out
              have HBO2 : Hid (BoxP wb B (r : Int) (c : Int) (some ⟨g, 0, none⟩) (S.length + 1) cp) := Lib.hid ⟨Nat.lt_of_lt_of_le HBO.out.lt hsb, (World.cell?_of_block (a := ⟨B, 0, none⟩) hkB).trans HBO.out.c0, (World.cell?_of_block (a := ⟨B, 1, none⟩) hkB).trans HBO.out.c1, (World.cell?_of_block (a := ⟨B, 2, none⟩) hkB).trans HBO.out.c2⟩
              have HFb := Lib.hid (HF9.out.trans hFb)
              have HBb := Lib.hid (HB9.out.fut hFb)
              have HQb := Lib.hid (HQ9.out.fut hFb)
              have HINb := Lib.hid (HIN9.out.fut hFb)
              obtain ⟨S', hS'⟩ : ∃ S', S' = srtI (S ++ [(z : Int)]) := ⟨_, rfl⟩
              rw [← hS'] at hRb
              have hl' : S'.length = S.length + 1 := by rw [hS', srt_len]; simp
              have hm' : ∀ x, x ∈ S' ↔ x ∈ S ∨ x = (z : Int) := fun x => by rw [hS', srt_mem]; simp
              have hIb : IntsAt wb (some ⟨g, 0, none⟩) S' := fun j hj => ⟨g, 0, rfl, Nat.lt_of_lt_of_le HGB.out.2 hsb, by rw [Nat.zero_add]; exact hRb.1 j hj⟩
              have hasc : S'.Pairwise (· < ·) := by
                rw [hS']
                refine srt_lt (List.nodup_append.2 ⟨HSA.out.imp (fun h => by omega), by simp, fun a ha b hb => ?_⟩)
                obtain rfl : b = (z : Int) := by simpa using hb
                exact fun e => HZZ.out.1 (e ▸ ha)
              have hG' : ChkG (r : Int) (c : Int) S' Y T := ⟨HGG.out.side, HGG.out.len, HGG.out.one, HGG.out.three,
                fun y hy => ⟨(HGG.out.y y hy).1, (HGG.out.y y hy).2.1, fun q => ((hm' y).1 q).elim (HGG.out.y y hy).2.2 (fun e => HZZ.out.2.1 (e ▸ hy))⟩,
                fun y hy => ⟨(HGG.out.t y hy).1, (HGG.out.t y hy).2.1, fun q => ((hm' y).1 q).elim (HGG.out.t y hy).2.2 (fun e => HZZ.out.2.2 (e ▸ hy))⟩, HGG.out.yd, HGG.out.td⟩
              have hck' : chkP (r : Int) (c : Int) S' Y T = 0 := chk_good hG' (fun x hx => ((hm' x).1 hx).elim (HSIN.out x) (fun e => by rw [e, HMI.out]; omega)) hasc
              have hIN' : InPQ wb (some ⟨g, 0, none⟩) S' ya yc Y ta tc T := ⟨hIb, by omega, HINb.out.y, HINb.out.yl, HINb.out.yc, HINb.out.t, HINb.out.tl, HINb.out.tc⟩
              have hle1 : ((wayN (c : Int) (M : Int) S' (x : Int) (y : Int) : Nat) : Int) ≤ (V : Int) := by
                have hsd : Side (r : Int) (c : Int) (M : Int) := by rw [← HMI.out]; exact HGG.out.side
                have h0 : 0 ≤ (x : Int) ∧ (x : Int) < (M : Int) := ⟨by omega, by omega⟩
                have h9 := wayN_sub hsd (S := S) (S' := S') (fun a ha => (hm' a).2 (.inl ha)) (x : Int) (y : Int) h0
                rw [HV.out]
                exact Int.ofNat_le.2 h9
              have hle2 : (((famL (c : Int) ((r : Int) * (c : Int)) S' Y T).length : Nat) : Int) ≤ ((famL (c : Int) ((r : Int) * (c : Int)) S Y T).length : Nat) := by
                have := (sendF_sub (st := stL (c : Int) ((r : Int) * (c : Int)) S) (st' := stL (c : Int) ((r : Int) * (c : Int)) S') (fun k => stL_sub (fun a ha => (hm' a).2 (.inl ha)) k) Y T Y.length []).length_le
                unfold famL
                exact Int.ofNat_le.2 this
              have h0x : 0 ≤ (x : Int) ∧ (x : Int) < (M : Int) := ⟨by omega, by omega⟩
              have h0y : 0 ≤ (y : Int) ∧ (y : Int) < (M : Int) := ⟨by omega, by omega⟩
              obtain ⟨V', hV'⟩ : ∃ V', wayN (c : Int) (M : Int) S' (x : Int) (y : Int) = V' := ⟨_, rfl⟩
              obtain ⟨D, hD⟩ : ∃ D, (famL (c : Int) ((r : Int) * (c : Int)) S' Y T).length = D := ⟨_, rfl⟩
              obtain ⟨C, hC⟩ : ∃ C, (famL (c : Int) ((r : Int) * (c : Int)) S Y T).length = C := ⟨_, rfl⟩
              have HW' : Hid (∀ W, Fut wb W → Calls Try.prog 16 #[parV (r : Int) (c : Int) (some ⟨g, 0, none⟩) (S.length + 1) cp, plaV ya Y.length yc ta T.length tc, .int .i64 (x : Int), .int .i64 (y : Int)] W fun e w' => e = .returned (.tuple #[.int .i64 (V' : Nat), .int .i64 0]) ∧ Fut W w') := Lib.hid (fun W F => by
                rw [← hV']
                exact ways_ok2 (hIN'.fut F) hck' HMI.out hl' h0x h0y)
              have HC' : Hid (∀ W, Fut wb W → Calls Try.prog 25 #[parV (r : Int) (c : Int) (some ⟨g, 0, none⟩) (S.length + 1) cp, plaV ya Y.length yc ta T.length tc] W fun e w' => e = .returned (.tuple #[.int .i64 (D : Nat), .int .i64 0]) ∧ Fut W w') := Lib.hid (fun W F => count_ok2 (hIN'.fut F) hck' hl' hD)
              have HC0 : Hid (∀ W, Fut wb W → Calls Try.prog 25 #[parV (r : Int) (c : Int) sa S.length sc, plaV ya Y.length yc ta T.length tc] W fun e w' => e = .returned (.tuple #[.int .i64 (C : Nat), .int .i64 0]) ∧ Fut W w') := Lib.hid (fun W F => count_ok2 (HINb.out.fut F) HCK.out rfl hC)
              rw [hV'] at hle1
              rw [hD, hC] at hle2
              clear h0x h0y hV' hD hC hRb hBb hsb hkb hFb hkB hS' hl' hm' hIb hasc hG' hck' hIN' HF9 HB9 HQ9 HIN9 HFC HBO HOO HSO b0 b1 b2
              obtain ⟨_, b0, b1, b2⟩ := HBO2.out
              obtain ⟨_, p0, p1, p2⟩ := HBb.out
              obtain ⟨_, q0, q1⟩ := HQb.out
              go_wp2_with fail
              refine (HW'.out wb Fut.rfl).mono ?_
              rintro _ wd ⟨rfl, Fd⟩
              have HFd := Lib.hid Fd
              clear Fd b0 b1 b2 p0 p1 p2 q0 q1
              obtain ⟨_, b0, b1, b2⟩ := HBO2.out.fut HFd.out
              obtain ⟨_, p0, p1, p2⟩ := HBb.out.fut HFd.out
              obtain ⟨_, q0, q1⟩ := HQb.out.fut HFd.out
              go_wp2_with fail
              refine (HC0.out wd HFd.out).mono ?_
              rintro _ we ⟨rfl, Fe⟩
              have HFe := Lib.hid (HFd.out.trans Fe)
              clear Fe b0 b1 b2 p0 p1 p2 q0 q1
              obtain ⟨_, b0, b1, b2⟩ := HBO2.out.fut HFe.out
              obtain ⟨_, p0, p1, p2⟩ := HBb.out.fut HFe.out
              obtain ⟨_, q0, q1⟩ := HQb.out.fut HFe.out
              go_wp2_with fail
              refine (HC'.out we HFe.out).mono ?_
              rintro _ wf ⟨rfl, Ff⟩
              have HFf := Lib.hid (HFb.out.trans (HFe.out.trans Ff))
              clear Ff b0 b1 b2 p0 p1 p2 q0 q1
              go_wp2_with fail
              refine (works_any _).mono ?_
              rintro _ wg ⟨rfl, Fg⟩
              have HFg := Lib.hid (HFf.out.trans Fg)
              clear Fg
              go_wp2_with fail
              go_ret
              exact ⟨rfl, HFg.out⟩
end Go.Proofs.Ytflllkamdihfaaa
