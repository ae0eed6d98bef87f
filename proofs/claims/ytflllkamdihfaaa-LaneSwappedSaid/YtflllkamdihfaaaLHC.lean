/- slices.Reverse 60, the law's literal 58 -/
import Derived.Test.YtflllkamdihfaaaLHA
import Derived.Test.YtflllkamdihfaaaLGS
import Derived.Test.YtflllkamdihfaaaLGD
import Derived.Test.YtflllkamdihfaaaLGE
import Derived.Test.YtflllkamdihfaaaLGC
import Derived.Test.YtflllkamdihfaaaLGA
import Derived.Test.YtflllkamdihfaaaLBJ
import Derived.Test.YtflllkamdihfaaaLCD
import Derived.Test.YtflllkamdihfaaaLMC
import Derived.Test.YtflllkamdihfaaaLMB
import Derived.Test.YtflllkamdihfaaaLMA
import Derived.Test.YtflllkamdihfaaaLBG
import Derived.Shelf.Slices.Reverse
import Derived.Deep.DeepCutAuto
namespace Go.Proofs.Ytflllkamdihfaaa
open Go.RowKit Go.Sort
def rvRen : Go.Shelf.Ren := ⟨fun | 112 => 60 | n => n, fun | 28 => 22 | n => n, fun n => n⟩
open Go.Shelf in
theorem rvLay : Lays.n112 Try.prog rvRen :=
  { mixed := (by kernel_rfl)
    f112 := Try.func60.trans (congrArg some (by kernel_rfl))
    t0 := Try.underlying0
    a0 := Try.isAgg0
    z0 := Try.sizeOf0
    v0 := Try.zeroValue0
    t3 := Try.underlying3
    a3 := Try.isAgg3
    z3 := Try.sizeOf3
    v3 := Try.zeroValue3
    t4 := Try.underlying4
    a4 := Try.isAgg4
    z4 := Try.sizeOf4
    v4 := Try.zeroValue4
    t28 := Try.underlying22
    a28 := Try.isAgg22
    z28 := Try.sizeOf22
    v28 := Try.zeroValue22 }
open Go.Shelf in
/-- slices.Reverse: a row of one's own is turned round. -/
theorem rev_any (g cap : Nat) (zs : List Int) (w : World) (hR : RowN w g zs) (hl : zs.length ≤ 100000) :
    Calls Try.prog 60 #[.slice (some ⟨g, 0, none⟩) zs.length cap] w fun e w' => e = .returned (.tuple #[]) ∧ RowN w' g zs.reverse ∧ (∀ B, B ≤ g → RowKit.Below B w w') ∧ w.heap.size ≤ w'.heap.size ∧ ∀ k, k < w.heap.size → k ≠ g → w'.heap[k]? = w.heap[k]? := by
  have h := Any.slices_Reverse_int rvLay g 0 cap zs w hR.holds (by omega)
  refine Calls.mono h ?_
  rintro e w' ⟨rfl, n, rfl⟩
  have hR1 : RowN (Sort.ahead w n) g zs := hR
  refine ⟨rfl, hR1.put (by simp), fun B hb => below_put (w := Sort.ahead w n) (below_drewN (RowKit.Below.refl _ _) n) hb _, by simp [Sort.ahead], fun k hk hne => ?_⟩
  show ((Sort.ahead w n).heap.modify g _)[k]? = _
  rw [Array.getElem?_modify, if_neg (fun e => hne e.symm)]
  rfl
set_option maxRecDepth 100000 in
set_option maxHeartbeats 8000000 in
/-- the law's literal: rows and columns change places. -/
theorem to_any (r c m : Int) (hs : Side r c m) (B : Nat) (sa : Option Addr) (sn scp : Nat) (l : Option Addr) (lc : Nat) (L : List Int) (w : World) (hB : BoxP w B r c sa sn scp) (hI : IntsAt w l L) (hl : L.length ≤ 1000) (hL : ∀ x ∈ L, 0 ≤ x ∧ x < m) :
    Calls Try.prog 58 #[.slice l L.length lc, .pointer (some ⟨B, 0, none⟩)] w fun e w' => ∃ v, e = .returned v ∧ Owns w' w.heap.size v (L.map (tauI r c m)) ∧ Fut w w' := by
  obtain ⟨i0, hi0, hz0, hz1, hz2⟩ := info_parts info3
  have hmm := side_m hs
  have HIN := Lib.hid (fun k (hk : k < L.length) => tau_in hs (hL (nth L k) (nth_mem hk)))
  have HLM := Lib.hid (fun k (hk : k < L.length) => hL (nth L k) (nth_mem hk))
  have HTD := Lib.hid (fun x (hx : 0 ≤ x ∧ x < m) => show tauI r c m x = x % c * r + x / c by unfold tauI; rw [if_pos hx])
  obtain ⟨hr1, hr4, hc1, hc4, _⟩ := id hs
  have HI := Lib.hid hI
  have HB := Lib.hid hB
  have hlx : (L.length : Int) ≤ 1000 := by omega
  have hc0 : ¬ c = 0 := by omega
  have HF0 : Hid (Fut w w) := Lib.hid Fut.rfl
  clear hs hI hL hB
  go_enter Try.func58, Try.ntmps58
  go_wp2_with fail
  go_loopw [4, 9] (fun ov iv wr => ∃ (i : Nat) (oa : Option Addr) (oc : Nat), i ≤ L.length ∧ iv = .int .i64 i ∧ ov = .slice oa i oc ∧ Hid (wr.ownsRow w.heap.size 3 1 (.slice oa i oc) i (((L.take i).map (tauI r c m)).map (Value.int .i64))) ∧ Hid (Fut w wr)) (fun _ iv _ => L.length - (intOf iv).toNat)
  case atStart => exact ⟨0, none, 0, Nat.zero_le _, rfl, rfl, Lib.hid (by simpa using World.ownsRow_nil _ _ _ _), HF0⟩
  case round =>
    obtain ⟨i, oa, oc, hi, rfl, rfl, HO, HF⟩ := hrel
    clear HF0
    by_cases hil : i < L.length
    · have hix : (i : Int) < L.length := by omega
      obtain ⟨lb, lo, e0, hlb, cl⟩ := HI.out i hil
      subst e0
      have cl1 := (RowKit.Below.cell HF.out (p := ⟨lb, lo + i, none⟩) hlb).trans cl
      have htk : (L.take (i + 1)).map (tauI r c m) = (L.take i).map (tauI r c m) ++ [tauI r c m (nth L i)] := by
        rw [List.take_succ_eq_append_getElem hil, List.map_append, nth_get hil]; rfl
      have HTK := Lib.hid htk
      have hx := HLM.out i hil
      have hti := HIN.out i hil
      have htd := HTD.out _ hx
      obtain ⟨x, hxe⟩ : ∃ x, x = nth L i := ⟨_, rfl⟩
      obtain ⟨y, hye⟩ : ∃ y, y = tauI r c m (nth L i) := ⟨_, rfl⟩
      rw [← hye] at htd hti HTK
      rw [← hxe] at htd hx cl1
      obtain ⟨R, hR⟩ : ∃ R, R = x % c := ⟨_, rfl⟩
      obtain ⟨D, hD⟩ : ∃ D, D = x / c := ⟨_, rfl⟩
      have hRb : 0 ≤ R ∧ R ≤ 3 := by
        rw [hR]
        exact ⟨Int.emod_nonneg _ hc0, by have := Int.emod_lt_of_pos x (show 0 < c by omega); omega⟩
      have hDb : 0 ≤ D ∧ D ≤ 16 := by
        rw [hD]
        exact ⟨Int.ediv_nonneg hx.1 (by omega), Int.le_trans (Int.ediv_le_self c hx.1) (by omega)⟩
      rw [← hR, ← hD] at htd
      have hP : 0 ≤ R * r ∧ R * r ≤ 12 := ⟨Int.mul_nonneg hRb.1 (by omega), Int.le_trans (Int.mul_le_mul hRb.2 hr4 (by omega) (by decide)) (by decide)⟩
      obtain ⟨Q, hQ⟩ : ∃ Q, Q = R * r := ⟨_, rfl⟩
      rw [← hQ] at htd hP
      have hmod : x.tmod c = R := by rw [Int.tmod_eq_emod_of_nonneg hx.1, hR]
      have hdiv : x.tdiv c = D := by rw [Int.tdiv_eq_ediv_of_nonneg hx.1, hD]
      have hemod : x % c = R := hR.symm
      have hediv : x / c = D := hD.symm
      have hwR : IntKind.i64.wrap R = R := IntWalk.i64_in _ ⟨by omega, by omega⟩
      have hwD : IntKind.i64.wrap D = D := IntWalk.i64_in _ ⟨by omega, by omega⟩
      have hwQ : IntKind.i64.wrap (R * r) = Q := by rw [← hQ]; exact IntWalk.i64_in _ ⟨by omega, by omega⟩
      have hwy : IntKind.i64.wrap (Q + D) = y := by rw [htd]; exact IntWalk.i64_in _ ⟨by omega, by omega⟩
      have HY : Hid (IntKind.i64.wrap (IntKind.i64.wrap (IntKind.i64.wrap (x.tmod c) * r) + IntKind.i64.wrap (x.tdiv c)) = y) := Lib.hid (by rw [hmod, hdiv, hwR, hwD, hwQ, hwy])
      have FD : Fut wr wr.drew := below_drewN Fut.rfl 1
      have HBD := Lib.hid (HB.out.fut (HF.out.trans FD))
      have HOD := Lib.hid (row_fut HO.out FD)
      have HFD := Lib.hid (HF.out.trans FD)
      clear HO HF FD hlb cl htk hxe hye hR hD hQ htd hti hP
      go_upto_region 5 with fail
      refine wp_region_held_drew (S := (fun w' => BoxP w' B r c sa sn scp)) (by kernel_rfl) ?_ (fun hHeld => ?_)
      · exact HBD.out
      generalize wr.drew = u0 at *
      refine wpAnyH_take (i := 0) (oi := { dst := some 13, op := Op.move (Operand.tmp 4), type := 22, pos := "outright.go:337", after := #[], guard := none }) (v := ?_) rfl (by kernel_rfl) (by kernel_rfl) (by kernel_rfl) (fun _ _ _ h => h) (Or.inl ⟨by rfl, ?_⟩) (by assumption) ?_
      rotate_left
      · (intro w hSw; (obtain ⟨_, s0, s1, s2⟩ := hSw); go_simp <;> with_reducible rfl)
      try simp only [Act.put, List.setIfInBounds_toArray, List.set_cons_zero, List.set_cons_succ]
      refine wpAnyH_take (i := 1) (oi := { dst := some 14, op := Op.move (Operand.tmp 6), type := 3, pos := "outright.go:337", after := #[], guard := none }) (v := ?_) rfl (by kernel_rfl) (by kernel_rfl) (by kernel_rfl) (fun _ _ _ h => h) (Or.inl ⟨by rfl, ?_⟩) (by assumption) ?_
      rotate_left
      · (intro w hSw; (obtain ⟨_, s0, s1, s2⟩ := hSw); go_simp <;> with_reducible rfl)
      try simp only [Act.put, List.setIfInBounds_toArray, List.set_cons_zero, List.set_cons_succ]
      refine wpAnyH_take (i := 2) (oi := { dst := some 15, op := Op.fieldAddr 24 (Operand.tmp 1) 1, type := 0, pos := "outright.go:337", after := #[], guard := none }) (v := ?_) rfl (by kernel_rfl) (by kernel_rfl) (by kernel_rfl) (fun _ _ _ h => h) (Or.inl ⟨by rfl, ?_⟩) (by assumption) ?_
      rotate_left
      · (intro w hSw; (obtain ⟨_, s0, s1, s2⟩ := hSw); go_simp <;> with_reducible rfl)
      try simp only [Act.put, List.setIfInBounds_toArray, List.set_cons_zero, List.set_cons_succ]
      refine wpAnyH_take (i := 3) (oi := { dst := some 16, op := Op.load 3 (Operand.tmp 15), type := 3, pos := "outright.go:337", after := #[{ on := 2, ground := Ground.data }], guard := none }) (v := ?_) rfl (by kernel_rfl) (by kernel_rfl) (by kernel_rfl) (fun _ _ _ h => h) (Or.inl ⟨by rfl, ?_⟩) (by assumption) ?_
      rotate_left
      · (intro w hSw; (obtain ⟨_, s0, s1, s2⟩ := hSw); go_simp <;> with_reducible rfl)
      try simp only [Act.put, List.setIfInBounds_toArray, List.set_cons_zero, List.set_cons_succ]
      refine wpAnyH_take (i := 4) (oi := { dst := some 17, op := Op.binOp BinOp.rem 3 (Operand.tmp 14) (Operand.tmp 16) 3, type := 3, pos := "outright.go:337", after := #[{ on := 1, ground := Ground.data }, { on := 3, ground := Ground.data }], guard := none }) (v := ?_) rfl (by kernel_rfl) (by kernel_rfl) (by kernel_rfl) (fun _ _ _ h => h) (Or.inl ⟨by rfl, ?_⟩) (by assumption) ?_
      rotate_left
      · (intro w hSw; (obtain ⟨_, s0, s1, s2⟩ := hSw); go_simp <;> with_reducible rfl)
      try simp only [Act.put, List.setIfInBounds_toArray, List.set_cons_zero, List.set_cons_succ]
      refine wpAnyH_take (i := 5) (oi := { dst := some 18, op := Op.fieldAddr 24 (Operand.tmp 1) 0, type := 0, pos := "outright.go:337", after := #[], guard := none }) (v := ?_) rfl (by kernel_rfl) (by kernel_rfl) (by kernel_rfl) (fun _ _ _ h => h) (Or.inl ⟨by rfl, ?_⟩) (by assumption) ?_
      rotate_left
      · (intro w hSw; (obtain ⟨_, s0, s1, s2⟩ := hSw); go_simp <;> with_reducible rfl)
      try simp only [Act.put, List.setIfInBounds_toArray, List.set_cons_zero, List.set_cons_succ]
      refine wpAnyH_take (i := 6) (oi := { dst := some 19, op := Op.load 3 (Operand.tmp 18), type := 3, pos := "outright.go:337", after := #[{ on := 5, ground := Ground.data }], guard := none }) (v := ?_) rfl (by kernel_rfl) (by kernel_rfl) (by kernel_rfl) (fun _ _ _ h => h) (Or.inl ⟨by rfl, ?_⟩) (by assumption) ?_
      rotate_left
      · (intro w hSw; (obtain ⟨_, s0, s1, s2⟩ := hSw); go_simp <;> with_reducible rfl)
      try simp only [Act.put, List.setIfInBounds_toArray, List.set_cons_zero, List.set_cons_succ]
      refine wpAnyH_take (i := 7) (oi := { dst := some 20, op := Op.binOp BinOp.mul 3 (Operand.tmp 17) (Operand.tmp 19) 3, type := 3, pos := "outright.go:337", after := #[{ on := 4, ground := Ground.data }, { on := 6, ground := Ground.data }], guard := none }) (v := ?_) rfl (by kernel_rfl) (by kernel_rfl) (by kernel_rfl) (fun _ _ _ h => h) (Or.inl ⟨by rfl, ?_⟩) (by assumption) ?_
      rotate_left
      · (intro w hSw; (obtain ⟨_, s0, s1, s2⟩ := hSw); go_simp <;> with_reducible rfl)
      try simp only [Act.put, List.setIfInBounds_toArray, List.set_cons_zero, List.set_cons_succ]
      refine wpAnyH_take (i := 8) (oi := { dst := some 21, op := Op.move (Operand.tmp 6), type := 3, pos := "outright.go:337", after := #[], guard := none }) (v := ?_) rfl (by kernel_rfl) (by kernel_rfl) (by kernel_rfl) (fun _ _ _ h => h) (Or.inl ⟨by rfl, ?_⟩) (by assumption) ?_
      rotate_left
      · (intro w hSw; (obtain ⟨_, s0, s1, s2⟩ := hSw); go_simp <;> with_reducible rfl)
      try simp only [Act.put, List.setIfInBounds_toArray, List.set_cons_zero, List.set_cons_succ]
      refine wpAnyH_take (i := 9) (oi := { dst := some 22, op := Op.fieldAddr 24 (Operand.tmp 1) 1, type := 0, pos := "outright.go:337", after := #[], guard := none }) (v := ?_) rfl (by kernel_rfl) (by kernel_rfl) (by kernel_rfl) (fun _ _ _ h => h) (Or.inl ⟨by rfl, ?_⟩) (by assumption) ?_
      rotate_left
      · (intro w hSw; (obtain ⟨_, s0, s1, s2⟩ := hSw); go_simp <;> with_reducible rfl)
      try simp only [Act.put, List.setIfInBounds_toArray, List.set_cons_zero, List.set_cons_succ]
      refine wpAnyH_take (i := 10) (oi := { dst := some 23, op := Op.load 3 (Operand.tmp 22), type := 3, pos := "outright.go:337", after := #[{ on := 9, ground := Ground.data }], guard := none }) (v := ?_) rfl (by kernel_rfl) (by kernel_rfl) (by kernel_rfl) (fun _ _ _ h => h) (Or.inl ⟨by rfl, ?_⟩) (by assumption) ?_
      rotate_left
      · (intro w hSw; (obtain ⟨_, s0, s1, s2⟩ := hSw); go_simp <;> with_reducible rfl)
      try simp only [Act.put, List.setIfInBounds_toArray, List.set_cons_zero, List.set_cons_succ]
      refine wpAnyH_take (i := 11) (oi := { dst := some 24, op := Op.binOp BinOp.quo 3 (Operand.tmp 21) (Operand.tmp 23) 3, type := 3, pos := "outright.go:337", after := #[{ on := 8, ground := Ground.data }, { on := 10, ground := Ground.data }], guard := none }) (v := ?_) rfl (by kernel_rfl) (by kernel_rfl) (by kernel_rfl) (fun _ _ _ h => h) (Or.inl ⟨by rfl, ?_⟩) (by assumption) ?_
      rotate_left
      · (intro w hSw; (obtain ⟨_, s0, s1, s2⟩ := hSw); go_simp <;> with_reducible rfl)
      try simp only [Act.put, List.setIfInBounds_toArray, List.set_cons_zero, List.set_cons_succ]
      refine wpAnyH_take (i := 12) (oi := { dst := some 25, op := Op.binOp BinOp.add 3 (Operand.tmp 20) (Operand.tmp 24) 3, type := 3, pos := "outright.go:337", after := #[{ on := 7, ground := Ground.data }, { on := 11, ground := Ground.data }], guard := none }) (v := ?_) rfl (by kernel_rfl) (by kernel_rfl) (by kernel_rfl) (fun _ _ _ h => h) (Or.inl ⟨by rfl, ?_⟩) (by assumption) ?_
      rotate_left
      · (intro w hSw; (obtain ⟨_, s0, s1, s2⟩ := hSw); go_simp <;> with_reducible rfl)
      try simp only [Act.put, List.setIfInBounds_toArray, List.set_cons_zero, List.set_cons_succ]
      refine wpAnyH_ready (rs := [13]) (by kernel_rfl) (by simp) ?_
      refine AllReadyH.cons (o := { dst := some 26, op := Op.buildSlice 22 1 #[(0, Operand.tmp 25)], type := 22, pos := "outright.go:337", after := #[{ on := 12, ground := Ground.data }], guard := none }) rfl (fun K hK => ?_) AllReadyH.nil
      try simp only []
      go_simp
      refine hK.out _ _ ?_ (fun hHeld => ?_)
      · exact HBD.out.fut (Fut.alloc u0 _)
      clear hK K
      try simp only [Act.put, List.setIfInBounds_toArray, List.set_cons_zero, List.set_cons_succ]
      refine wpAnyH_ready (rs := [14]) (by kernel_rfl) (by simp) ?_
      refine AllReadyH.cons (o := { dst := some 27, op := Op.call { callee := Callee.builtin Builtin.append, args := #[Operand.tmp 13, Operand.tmp 26], argTypes := #[22, 22] }, type := 22, pos := "outright.go:337", after := #[{ on := 0, ground := Ground.data }, { on := 13, ground := Ground.data }], guard := none }) rfl (fun K hK => ?_) AllReadyH.nil
      refine step_append_lies (u0.alloc (.cells #[.int .i64 y] 3)) rfl _ _ 22 rfl w.heap.size 3 i0 (.int .i64 0) 1 8 Try.underlying22 hi0 hz0 hz1 hz2 rfl (by decide) _ i (((L.take i).map (tauI r c m)).map (Value.int .i64)) rfl (World.ownsRow.alloc HOD.out _) ⟨u0.heap.size, 0, none⟩ 1 1 [.int .i64 y] rfl rfl (cell_one (by simp [go_sem])) (by simp [Value.oneCell']) (by omega) (by unfold maxLen; omega) (by omega) (RowKit.Below.size (HFD.out.trans (Fut.alloc u0 _))) _ rfl ?_
      intro g9 c9 w9 hown9 hgr9 _ _
      have HF9 : Hid (Fut w w9) := Lib.hid (RowKit.Below.grown (HFD.out.trans (Fut.alloc u0 _)) hgr9 (RowKit.Below.size (HFD.out.trans (Fut.alloc u0 _))) fun q hq => (World.ownsRow.lt HOD.out q hq).1)
      have HO9 : Hid (w9.ownsRow w.heap.size 3 1 (.slice (some ⟨g9, 0, none⟩) (i + 1) c9) (i + 1) (((L.take (i + 1)).map (tauI r c m)).map (Value.int .i64))) := Lib.hid (by rw [HTK.out, List.map_append]; exact hown9)
      clear hown9 hgr9
      refine hK.out _ _ ?_ (fun hHeld => ?_)
      · exact HB.out.fut HF9.out
      clear hK K
      try simp only [Act.put, List.setIfInBounds_toArray, List.set_cons_zero, List.set_cons_succ]
      refine wpAnyH_ready (rs := [15]) (by kernel_rfl) (by simp) ?_
      refine AllReadyH.cons (o := { dst := some 4, op := Op.assign (Operand.tmp 27), type := 22, pos := "outright.go:337", after := #[{ on := 14, ground := Ground.data }, { on := 14, ground := Ground.chain }, { on := 0, ground := Ground.phase }, { on := 1, ground := Ground.phase }, { on := 2, ground := Ground.phase }, { on := 3, ground := Ground.phase }, { on := 4, ground := Ground.phase }, { on := 5, ground := Ground.phase }, { on := 6, ground := Ground.phase }, { on := 7, ground := Ground.phase }, { on := 8, ground := Ground.phase }, { on := 9, ground := Ground.phase }, { on := 10, ground := Ground.phase }, { on := 11, ground := Ground.phase }, { on := 12, ground := Ground.phase }, { on := 13, ground := Ground.phase }, { on := 14, ground := Ground.phase }], guard := none }) rfl (fun K hK => ?_) AllReadyH.nil
      go_simp
      refine hK.out _ _ ?_ (fun hHeld => ?_)
      · exact hHeld
      clear hK K
      try simp only [Act.put, List.setIfInBounds_toArray, List.set_cons_zero, List.set_cons_succ]
      refine wpAnyH_done (by kernel_rfl) ?_ _
      go_wp2_with fail
      go_roundw
      case rel => first
        | exact ⟨i + 1, _, c9, by omega, by go_num, rfl, HO9, HF9⟩
        | ((repeat apply Exists.intro); exact ⟨⟨i + 1, _, c9, by omega, by go_num, rfl, HO9, HF9⟩, rfl⟩)
      case measure => simp [intOf]; omega
    · obtain rfl : i = L.length := by omega
      go_wp2_with fail
      go_ret
      have ho := HO.out
      rw [List.take_length] at ho
      exact ⟨_, rfl, by unfold Owns; rw [List.length_map]; exact ho, HF.out⟩
end Go.Proofs.Ytflllkamdihfaaa
