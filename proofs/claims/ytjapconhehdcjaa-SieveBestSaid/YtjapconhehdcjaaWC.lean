/- closure 87 of all (in87), all of no width (all_zero) -/
import Derived.Test.YtjapconhehdcjaaWB
import Derived.Deep.DeepCutAuto
import Derived.Deep.AppendLies
namespace Go.Proofs.Ytjapconhehdcjaa
open Go.RowKit Go.Sort
theorem eg88 : ∀ args w, (callFunc 88 args).run Try.prog w = .ok (.enter 88 args) w := enters_of Try.func88 (by kernel_rfl) rfl
theorem eg87 : ∀ args w, (callFunc 87 args).run Try.prog w = .ok (.enter 87 args) w := enters_of Try.func87 (by kernel_rfl) rfl
/-- all, at this width, calls its callback with every tree, in order. -/
def AllOk (m : Nat) : Prop := ∀ (a b : Nat) (Z : Nat → Prop) (g : Nat) (cb : Array Value) (P : List Sv.Tr → World → Prop), b = a + m → b ≤ 7 → Cb Z g cb a (Sv.trs m) P → ∀ W, (∀ q, Z q → q < W.heap.size) → P [] W → Calls Try.prog 50 #[.int .i64 (a : Nat), .int .i64 (b : Nat), .func (.func g) #[] cb] W fun e w' => e = .returned (.tuple #[]) ∧ But Z W w' ∧ P (Sv.trs m) w'
theorem cellZ_new {Z : Nat → Prop} (w : World) (v : Value) (t : TypeId) (hz : ∀ q, Z q → q < w.heap.size) : CellZ Z (w.alloc (.cells #[v] t)) w.heap.size v := ⟨by rw [World.size_alloc]; omega, fun q => by have := hz _ q; omega, by rw [World.cell?_alloc_at _ _ _ _ rfl]; rfl⟩
set_option maxRecDepth 100000 in
set_option maxHeartbeats 8000000 in
theorem in87 {Z : Nat → Prop} {g : Nat} {cb : Array Value} {a b m i : Nat} {P : List Sv.Tr → World → Prop} (hA : AllOk (m - i)) (him : i ≤ m) (hb : b = a + (m + 1)) (hb7 : b ≤ 7) (C : Cb Z g cb a (Sv.trs (m + 1)) P) {D : List Sv.Tr} {l : Sv.Tr} {W : World} (hP : P (Sv.preT m i ++ Sv.midT m i D) W) (hZ : ∀ q, Z q → q < W.heap.size) (hfx : D ++ [l] <+: Sv.trs i) {Bk Bb Be : Nat} {la da : Option Addr} {ln lc dn dc : Nat}
    (hk : CellZ Z W Bk (.int .i64 (a + i : Nat))) (hbb : CellZ Z W Bb (.int .i64 (b : Nat))) (he : CellZ Z W Be (.func (.func g) #[] cb)) (hlI : IntsZ Z W la (l.lst a)) (hln : (l.lst a).length = ln) (hdI : IntsZ Z W da (castL l.dep)) (hdn : l.dep.length = dn) :
    Calls Try.prog 87 #[.slice la ln lc, .slice da dn dc, .pointer (some ⟨Bk, 0, none⟩), .pointer (some ⟨Bb, 0, none⟩), .pointer (some ⟨Be, 0, none⟩)] W fun e w' => e = .returned (.tuple #[]) ∧ But Z W w' ∧ P (Sv.preT m i ++ Sv.midT m i (D ++ [l])) w' := by
  obtain ⟨W1, hW1⟩ : ∃ V, V = W.alloc (.cells #[.slice la ln lc] 22) := ⟨_, rfl⟩
  obtain ⟨W2, hW2⟩ : ∃ V, V = W1.alloc (.cells #[.slice da dn dc] 22) := ⟨_, rfl⟩
  have F1 : Fut W W1 := by rw [hW1]; exact Fut.alloc _ _
  have F2 : Fut W1 W2 := by rw [hW2]; exact Fut.alloc _ _
  have F := F1.trans F2
  have hZ1 : ∀ q, Z q → q < W1.heap.size := fun q hq => Nat.lt_of_lt_of_le (hZ q hq) (RowKit.Below.size F1)
  have hZ2 : ∀ q, Z q → q < W2.heap.size := fun q hq => Nat.lt_of_lt_of_le (hZ q hq) (RowKit.Below.size F)
  have hl2 : CellZ Z W2 W.heap.size (.slice la ln lc) := by
    have h := cellZ_new (Z := Z) W (.slice la ln lc) 22 hZ
    rw [← hW1] at h
    exact h.fut F2
  have hd2 : CellZ Z W2 W1.heap.size (.slice da dn dc) := by
    have h := cellZ_new (Z := Z) W1 (.slice da dn dc) 22 hZ1
    rwa [← hW2] at h
  have hls : l.size = i + 1 := (Sv.mem_trs i l).1 (Sv.mem_pre hfx)
  have hC2 : Cb Z 88 #[.pointer (some ⟨W1.heap.size, 0, none⟩), .pointer (some ⟨Be, 0, none⟩), .pointer (some ⟨Bk, 0, none⟩), .pointer (some ⟨W.heap.size, 0, none⟩)] (a + i + 1) (Sv.trs (m - i)) (fun D2 V => But Z W2 V ∧ P (Sv.preT m i ++ Sv.midT m i D ++ D2.map fun r => Sv.Tr.node l r) V) := by
    refine ⟨eg88, fun D2 V V' h F' => ⟨h.1.trans (But.of_below F'), C.stay _ _ _ h.2 F'⟩, ?_⟩
    intro D2 r V ra rn rc ea en ec hQ hZV hfx2 hrI heI hrn hen hrc hec
    have hrs : r.size = m - i + 1 := (Sv.mem_trs (m - i) r).1 (Sv.mem_pre hfx2)
    have hB : But Z W V := (But.of_below F).trans hQ.1
    refine (in88 C (D := Sv.preT m i ++ Sv.midT m i D ++ D2.map fun r => Sv.Tr.node l r) (l := l) (r := r) (W := V) hQ.2 hZV (Sv.pre_fix him hfx hfx2) (by rw [Sv.Tr.size]; omega) (hd2.but hQ.1) (hdI.but hB) hdn (he.but hB) (hk.but hB) (by omega) (by omega) (hl2.but hQ.1) (hlI.but hB) hln hrI hrn heI hen).mono ?_
    rintro e V' ⟨rfl, b1, b2⟩
    refine ⟨rfl, b1, hQ.1.trans b1, ?_⟩
    rw [List.map_append, ← List.append_assoc]
    exact b2
  have HCA := Lib.hid (hA (a + i + 1) b Z 88 _ _ (by omega) hb7 hC2 W2 hZ2 ⟨But.refl _ _, by
    rw [List.map_nil, List.append_nil]
    exact C.stay _ _ _ hP F⟩)
  have c1 := (hk.fut F).2.2
  have c2 := (hbb.fut F).2.2
  have hw : IntKind.i64.wrap (((a + i : Nat) : Int) + 1) = ((a + i + 1 : Nat) : Int) := by rw [IntWalk.i64_in _ ⟨by omega, by omega⟩]; omega
  have HBF : Hid (But Z W W2) := Lib.hid (But.of_below F)
  have HMS := Lib.hid (Sv.mid_succ m i D l)
  generalize a + i + 1 = a1 at *
  generalize a + i = ai at *
  clear hA C hP hZ hfx hk hbb he hlI hdI hC2 hl2 hd2 hZ1 hZ2 F1 F2 F hln hdn
  have es : W1.heap.size = W.heap.size + 1 := by rw [hW1, World.size_alloc]
  rw [es] at HCA
  clear hb him hb7 es hls
  subst hW2
  subst hW1
  go_enter Try.func87, Try.ntmps87
  go_wp2_with fail
  refine HCA.out.mono ?_
  rintro _ w3 ⟨rfl, _, hB, hQ⟩
  have HB := Lib.hid (HBF.out.trans hB)
  have HQ : Hid (P (Sv.preT m i ++ Sv.midT m i (D ++ [l])) w3) := Lib.hid (by rw [HMS.out, ← List.append_assoc]; exact hQ)
  clear hB hQ
  go_wp2_with fail
  first | refine bodyPost_ret (results_none rfl _ _ _) rfl ?_ | refine bodyPost_end (results_none rfl _ _ _) rfl ?_
  exact ⟨rfl, HB.out, HQ.out⟩
set_option maxRecDepth 100000 in
set_option maxHeartbeats 8000000 in
theorem all_zero : AllOk 0 := by
  intro a b Z g cb P hab hb7 C W hZ hP
  obtain rfl : b = a := hab
  have HST : Hid (∀ V s2, Fut W V → IntsZ Z V (some ⟨s2, 0, none⟩) [0] → Calls Try.prog g (#[.slice none 0 0, .slice (some ⟨s2, 0, none⟩) 1 1] ++ cb) V fun e w' => e = .returned (.tuple #[]) ∧ But Z V w' ∧ P (Sv.trs 0) w') := Lib.hid (fun V s2 F h => C.step [] .leaf V none 0 0 (some ⟨s2, 0, none⟩) 1 1 (C.stay _ _ _ hP F) (fun q hq => Nat.lt_of_lt_of_le (hZ q hq) (RowKit.Below.size F)) (List.prefix_refl _) (IntsZ.nil _ _ _) h rfl rfl (Nat.le_refl _) (Nat.le_refl _))
  obtain ⟨W1, hW1⟩ : ∃ V, V = W.alloc (.cells #[.int .i64 (b : Nat)] 3) := ⟨_, rfl⟩
  obtain ⟨W2, hW2⟩ : ∃ V, V = W1.alloc (.cells #[.func (.func g) #[] cb] 51) := ⟨_, rfl⟩
  have F1 : Fut W W1 := by rw [hW1]; exact Fut.alloc _ _
  have F2 : Fut W1 W2 := by rw [hW2]; exact Fut.alloc _ _
  have F := F1.trans F2
  have hZ1 : ∀ q, Z q → q < W1.heap.size := fun q hq => Nat.lt_of_lt_of_le (hZ q hq) (RowKit.Below.size F1)
  have es : W1.heap.size = W.heap.size + 1 := by rw [hW1, World.size_alloc]
  have he : CellZ Z W2 (W.heap.size + 1) (.func (.func g) #[] cb) := by
    have h := cellZ_new (Z := Z) W1 (.func (.func g) #[] cb) 51 hZ1
    rwa [← hW2, es] at h
  have HE := Lib.hid he
  have HF := Lib.hid F
  have HEG := Lib.hid C.eg
  have HZZ := Lib.hid hZ
  have HW : Hid (W2 = (W.alloc (.cells #[.int .i64 (b : Nat)] 3)).alloc (.cells #[.func (.func g) #[] cb] 51)) := Lib.hid (by rw [hW2, hW1])
  clear hW2 F1 F2 F hZ1 es he C hZ hP hb7 hW1 W1
  go_enter Try.func50, Try.ntmps50
  go_upto_region 2 with fail
  rw [← HW.out]
  clear HW
  have HST2 : Hid (∀ V s2, Fut W2.drew V → IntsZ Z V (some ⟨s2, 0, none⟩) [0] → Calls Try.prog g (#[.slice none 0 0, .slice (some ⟨s2, 0, none⟩) 1 1] ++ cb) V fun e w' => e = .returned (.tuple #[]) ∧ But Z V w' ∧ P (Sv.trs 0) w') := Lib.hid (fun V s2 F h => HST.out V s2 ((HF.out.trans (Fut.drewN W2 1)).trans F) h)
  have HBU : Hid (But Z W W2.drew) := Lib.hid (But.of_below (HF.out.trans (Fut.drewN W2 1)))
  have HZ0 : Hid (∀ q, Z q → q < W2.drew.heap.size) := Lib.hid (fun q hq => Nat.lt_of_lt_of_le (HZZ.out q hq) HBU.out.size)
  have keepB : ∀ V, But Z W2.drew V → V.cell? ⟨W.heap.size + 1, 0, none⟩ = some (.func (.func g) #[] cb) := fun V F => ((HE.out.fut (Fut.drewN W2 1)).but F).2.2
  have keep : ∀ V, Fut W2.drew V → V.cell? ⟨W.heap.size + 1, 0, none⟩ = some (.func (.func g) #[] cb) := fun V F => keepB V (But.of_below F)
  clear HST HF HZZ HE
  obtain ⟨HST, _⟩ := And.intro HST2 trivial
  clear HST2
  refine wp_region_held_drew (S := (fun w' => w'.cell? ⟨W.heap.size + 1, 0, none⟩ = some (.func (.func g) #[] cb))) (by kernel_rfl) ?_ (fun hHeld => ?_)
  · exact keep _ Fut.rfl
  generalize W2.drew = u0 at *
  refine wpAnyH_take (i := 0) (oi := { dst := some 10, op := Op.load 51 (Operand.tmp 5), type := 51, pos := "outright.go:39", after := #[], guard := none }) (v := ?_) rfl (by kernel_rfl) (by kernel_rfl) (by kernel_rfl) (fun _ _ _ h => h) (Or.inl ⟨by rfl, ?_⟩) (by assumption) ?_
  rotate_left
  · (intro w hSw; have s0 := hSw; go_simp <;> with_reducible rfl)
  try simp only [Act.put, List.setIfInBounds_toArray, List.set_cons_zero, List.set_cons_succ]
  refine wpAnyH_ready (rs := [1]) (by kernel_rfl) (by simp) ?_
  refine AllReadyH.cons (o := { dst := some 11, op := Op.buildSlice 22 1 #[(0, Operand.const (Value.int IntKind.i64 0))], type := 22, pos := "outright.go:39", after := #[], guard := none }) rfl (fun K hK => ?_) AllReadyH.nil
  go_simp
  obtain ⟨v2, hv2⟩ : ∃ V, V = u0.alloc (.cells #[.int .i64 0] 3) := ⟨_, rfl⟩
  have F2 : Hid (Fut u0 v2) := Lib.hid (by rw [hv2]; exact Fut.alloc _ _)
  have I2 : Hid (IntsAt v2 (some ⟨u0.heap.size, 0, none⟩) [(0 : Int)]) := Lib.hid (by rw [hv2]; exact ints_new u0 [(0 : Int)])
  obtain ⟨s2, hs2⟩ : ∃ s, s = u0.heap.size := ⟨_, rfl⟩
  have S2 : Hid (¬ Z s2) := Lib.hid (fun q => by have := HZ0.out _ q; omega)
  rw [← hv2]
  rw [← hs2] at I2 ⊢
  clear hv2 hs2
  refine hK.out _ _ ?_ (fun hHeld => ?_)
  · exact keep _ F2.out
  clear hK K
  try simp only [Act.put, List.setIfInBounds_toArray, List.set_cons_zero, List.set_cons_succ]
  refine wpAnyH_ready (rs := [2]) (by kernel_rfl) (by simp) ?_
  refine AllReadyH.cons (o := { dst := some 12, op := Op.call { callee := Callee.value (Operand.func 53), args := #[Operand.tmp 11], argTypes := #[22] }, type := 22, pos := "outright.go:39", after := #[{ on := 1, ground := Ground.data }], guard := none }) rfl (fun K hK => ?_) AllReadyH.nil
  go_simp
  go_at_call 53
  refine (list_id _ _).mono ?_
  rintro _ _ ⟨rfl, rfl⟩
  try go_wp2_with fail
  refine hK.out _ _ ?_ (fun hHeld => ?_)
  · exact keep _ F2.out
  clear hK K
  try simp only [Act.put, List.setIfInBounds_toArray, List.set_cons_zero, List.set_cons_succ]
  refine wpAnyH_ready (rs := [3]) (by kernel_rfl) (by simp) ?_
  refine AllReadyH.cons (o := { dst := some 13, op := Op.call { callee := Callee.value (Operand.tmp 10), args := #[Operand.const (Value.slice none 0 0), Operand.tmp 12], argTypes := #[22, 22] }, type := 0, pos := "outright.go:39", after := #[{ on := 0, ground := Ground.data }, { on := 2, ground := Ground.data }, { on := 2, ground := Ground.chain }], guard := none }) rfl (fun K hK => ?_) AllReadyH.nil
  have ST := Lib.hid (HST.out v2 s2 F2.out (IntsZ.far I2.out S2.out))
  have eg := HEG.out
  go_simp
  go_at_fn g
  refine ST.out.mono ?_
  rintro _ v9 ⟨rfl, hB9, hP9⟩
  have HB9 : Hid (But Z W v9) := Lib.hid (HBU.out.trans ((But.of_below F2.out).trans hB9))
  have HP9 := Lib.hid hP9
  have HX9 := Lib.hid (keepB v9 ((But.of_below F2.out).trans hB9))
  clear hB9 hP9 eg
  try go_wp2_with fail
  refine hK.out _ _ ?_ (fun hHeld => ?_)
  · exact HX9.out
  clear hK K
  try simp only [Act.put, List.setIfInBounds_toArray, List.set_cons_zero, List.set_cons_succ]
  refine wpAnyH_done (by kernel_rfl) ?_ _
  go_wp2_with fail
  first | refine bodyPost_ret (results_none rfl _ _ _) rfl ?_ | refine bodyPost_end (results_none rfl _ _ _) rfl ?_
  exact ⟨rfl, HB9.out, HP9.out⟩
end Go.Proofs.Ytjapconhehdcjaa
