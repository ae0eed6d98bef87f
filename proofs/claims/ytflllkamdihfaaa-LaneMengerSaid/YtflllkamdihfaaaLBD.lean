/- send 111 where all carts are sent (send_zero) -/
import Derived.Test.YtflllkamdihfaaaLBC
namespace Go.Proofs.Ytflllkamdihfaaa
open Go.RowKit Go.Sort
section
attribute [local go_sem] Oper.semAt_some
open Go.Shelf
/-- what the rounds of a range over families keep. -/
abbrev YldF (B : Nat) (Z : Nat → Prop) (l : Nat) (J Jx : List (List (List Int)) → World → Prop) (xs : List (List (List Int))) : Prop :=
  ∀ (m : Nat) pre x v W1, B ≤ W1.heap.size → J pre W1 → RdF x v W1 → pre ++ [x] <+: xs → YieldAt Fence.wide m Try.prog l #[v] W1 fun e W' =>
      But Z W1 W' ∧ ((e = .returned (.bool true) ∧ J (pre ++ [x]) W') ∨ (e = .returned (.bool false) ∧ Jx (pre ++ [x]) W'))
theorem kept_rdF {w : World} {g : Nat} {vs : Nat → Value} {F : List (List Int)} (hl : F.length ≤ 1000) (h : FreeSt w g F.length vs F.length (fun i => lth F i)) : RdF F (.slice (some ⟨g, 0, none⟩) F.length F.length) w := ⟨g, vs, rfl, hl, h⟩
set_option maxRecDepth 100000 in
set_option maxHeartbeats 4000000 in
theorem send_zero (w0 : World) (B : Nat) (Z : Nat → Prop) (r c m : Int) (a : Option Addr) (cap : Nat) (S : List Int) (ya : Option Addr) (yc : Nat) (Y : List Int) (ta : Option Addr) (tc : Nat) (T : List Int) (l : Nat) (J Jx : List (List (List Int)) → World → Prop) (xs : List (List (List Int)))
    (hC : Srch w0 B Z r c m a S ya yc Y ta tc T) (hJ : OldJ B J) (hY : YldF B Z l J Jx xs) : SendP w0 B Z r c m a cap S ya yc Y ta tc T l J Jx xs 0 := by
  intro F vF vals pre W d hn hFk hF hB hK hJ0 hpre
  obtain ⟨la, lc, rfl, hL⟩ := hF.lst
  have hbox := BoxS.new (ya := ya) (yn := Y.length) (yc := yc) (ta := ta) (tn := T.length) (tc := tc) (r := r) (c := c) (a := a) (n := S.length) (cap := cap) (l := l) W
  have hFa : Fut W (W.alloc (.cells #[.slice ya Y.length yc, .slice ta T.length tc, .func (.func 108) #[parV r c a S.length cap] #[], .func (.yield l) #[] #[]] 136)) := Fut.alloc _ _
  have hFl : F.length ≤ 1000 := by have := hC.hin.yl; omega
  have HKP := Lib.hid (fun W' (k : Fut W W') => kept_any la lc F W' (hL.fut k) hFl (fun k hk => Nat.le_trans (hFk k hk) (by omega)))
  have heq : ((F.length : Int) == (Y.length : Int)) = true := by simp; omega
  have HF := Lib.hid hF
  have HP := Lib.hid hpre
  have HK := Lib.hid hK
  have HBX := Lib.hid hbox
  have HFA := Lib.hid hFa
  have HFL := Lib.hid hFl
  have HYY := Lib.hid hY
  have HC := Lib.hid hC
  have HZ : Hid (sendF (stL c m S) Y T 0 F = [F]) := Lib.hid rfl
  generalize sendF (stL c m S) Y T 0 F = G at *
  obtain rfl : G = [F] := HZ.out
  clear hF hpre hn hFk hK hbox hFa hC hL hFl hY HZ
  obtain ⟨_, b0, b1, b2, b3⟩ := HBX.out
  refine callsIn_of_wp Try.func111 rfl trivial ?_ rfl
  simp only [Try.ntmps111, List.size_toArray, List.length_cons, List.length_nil, Nat.reduceAdd, Nat.reduceSub, Array.replicate_succ, Array.replicate_zero, List.push_toArray, List.append_toArray, List.nil_append, List.cons_append]
  gi_wp2_with fail
  generalize W.alloc (.cells #[.slice ya Y.length yc, .slice ta T.length tc, .func (.func 108) #[parV r c a S.length cap] #[], .func (.yield l) #[] #[]] 136) = W1 at *
  gi_wp2_with fail
  have FD : Fut W1 W1.drew := below_drewN Fut.rfl 1
  have HB0 := Lib.hid (HBX.out.fut FD)
  have HFU := Lib.hid (HFA.out.trans FD)
  have HSZ := Lib.hid (Nat.le_trans hB (RowKit.Below.size HFU.out))
  clear FD b0 b1 b2 b3 HBX HFA
  refine wpIn_region_any (by kernel_rfl) ?_
  change wpAnyIn _ _ _ _ _ _ _ _ _ (World.drew _)
  generalize W1.drew = u0 at *
  refine wpAnyIn_take (i := 0) (v := ?_) rfl rfl (by kernel_rfl) (by kernel_rfl) (by kernel_rfl) (fun _ _ _ h => h) ⟨Or.inl ⟨by rfl, ?_⟩, fun _ => rfl⟩ ?_
  rotate_left
  · (intro w; go_simp <;> with_reducible rfl)
  try simp only [Act.put, List.setIfInBounds_toArray]
  refine wpAnyIn_take (i := 2) (v := ?_) rfl rfl (by kernel_rfl) (by kernel_rfl) (by kernel_rfl) (fun _ _ _ h => h) ⟨Or.inl ⟨by rfl, ?_⟩, fun _ => rfl⟩ ?_
  rotate_left
  · (intro w; go_simp <;> with_reducible rfl)
  try simp only [Act.put]
  refine wpAnyIn_ready (rs := [1, 3]) (by kernel_rfl) (by simp) ?_
  refine AllReadyIn.cons rfl (fun K hK => ?_) (AllReadyIn.cons rfl (fun K hK => ?_) (AllReadyIn.nil))
  · obtain ⟨_, s0, s1, s2, s3⟩ := HB0.out
    go_simp
    clear s0 s1 s2 s3
    refine hK _ _ ?_
    clear hK K
    try simp only [Act.put, List.setIfInBounds_toArray, List.set_cons_zero, List.set_cons_succ]
    refine wpAnyIn_ready (rs := [3]) (by kernel_rfl) (by simp) ?_
    refine AllReadyIn.cons rfl (fun K hK => ?_) AllReadyIn.nil
    go_simp
    refine ⟨trivial, fun hh => (by cases hh), ?_⟩
    refine (callsIn_wide.2 (HKP.out u0 HFU.out)).mono ?_
    rintro e w2 ⟨g, vs, rfl, hg, hst, F2⟩
    simp only []
    have HR := Lib.hid (kept_rdF HFL.out hst)
    clear hst
    refine hK _ _ ?_
    clear hK K
    try simp only [Act.put, List.setIfInBounds_toArray, List.set_cons_zero, List.set_cons_succ]
    refine wpAnyIn_ready (rs := [4]) (by kernel_rfl) (by simp) ?_
    refine AllReadyIn.cons rfl (fun K hK => ?_) AllReadyIn.nil
    obtain ⟨fn, tmps, assign, body, hy, hR⟩ := HYY.out (d - 1) pre F _ w2 (Nat.le_trans HSZ.out (RowKit.Below.size F2)) (hJ _ _ _ hJ0 (RowKit.Below.mono (HFU.out.trans F2) hB)) HR.out HP.out
    have HFF := Lib.hid (HFU.out.trans F2)
    clear F2 HR
    go_simp
    refine ⟨fun hh => (by cases hh), ?_⟩
    refine hR.mono ?_
    rintro e w3 ⟨hbu, hres⟩
    obtain ⟨bb, rfl, hq⟩ : ∃ b : Bool, e = .returned (.bool b) ∧ ((b = true ∧ J (pre ++ [F]) w3) ∨ (b = false ∧ Jx (pre ++ [F]) w3)) := by
      rcases hres with ⟨rfl, h⟩ | ⟨rfl, h⟩
      · exact ⟨true, rfl, .inl ⟨rfl, h⟩⟩
      · exact ⟨false, rfl, .inr ⟨rfl, h⟩⟩
    have HQ := Lib.hid (And.intro hbu hq)
    clear hbu hq hres hR hy
    simp only []
    refine hK _ _ ?_
    clear hK K
    try simp only [Act.put, List.setIfInBounds_toArray, List.set_cons_zero, List.set_cons_succ]
    refine wpAnyIn_ready (rs := [5]) (by kernel_rfl) (by simp) ?_
    refine AllReadyIn.cons rfl (fun K hK => ?_) AllReadyIn.nil
    go_simp
    refine hK _ _ ?_
    clear hK K
    try simp only [Act.put, List.setIfInBounds_toArray, List.set_cons_zero, List.set_cons_succ]
    refine wpAnyIn_done (by kernel_rfl) ?_ _
    gi_wp2_with fail
    go_ret
    obtain ⟨q1, q2⟩ := HQ.out
    refine ⟨(But.of_below HFF.out).trans (q1.mono fun _ _ hz => .inl hz), ?_⟩
    rcases q2 with ⟨rfl, q2⟩ | ⟨rfl, q2⟩
    · exact .inl ⟨rfl, q2, row_but (HF.out.fut HFF.out).own q1 (fun k hk => (HC.out.hz k hk).2), (HF.out.fut HFF.out).el.1, fun j hj => by
        obtain ⟨u, e, hu⟩ := (HF.out.fut HFF.out).el.2 j hj
        exact ⟨u, e, hu.but q1 (fun k hk => (HC.out.hz k hk).2)⟩⟩
    · exact .inr ⟨rfl, [F], List.prefix_refl _, q2⟩
  · go_simp
    refine ⟨trivial, fun hh => (by cases hh), ?_⟩
    refine (callsIn_wide.2 (HKP.out u0 HFU.out)).mono ?_
    rintro e w2 ⟨g, vs, rfl, hg, hst, F2⟩
    simp only []
    have HR := Lib.hid (kept_rdF HFL.out hst)
    clear hst
    refine hK _ _ ?_
    clear hK K
    try simp only [Act.put, List.setIfInBounds_toArray, List.set_cons_zero, List.set_cons_succ]
    refine wpAnyIn_ready (rs := [1]) (by kernel_rfl) (by simp) ?_
    refine AllReadyIn.cons rfl (fun K hK => ?_) AllReadyIn.nil
    obtain ⟨_, s0, s1, s2, s3⟩ := (HB0.out.fut F2)
    go_simp
    clear s0 s1 s2 s3
    refine hK _ _ ?_
    clear hK K
    try simp only [Act.put, List.setIfInBounds_toArray, List.set_cons_zero, List.set_cons_succ]
    refine wpAnyIn_ready (rs := [4]) (by kernel_rfl) (by simp) ?_
    refine AllReadyIn.cons rfl (fun K hK => ?_) AllReadyIn.nil
    obtain ⟨fn, tmps, assign, body, hy, hR⟩ := HYY.out (d - 1) pre F _ w2 (Nat.le_trans HSZ.out (RowKit.Below.size F2)) (hJ _ _ _ hJ0 (RowKit.Below.mono (HFU.out.trans F2) hB)) HR.out HP.out
    have HFF := Lib.hid (HFU.out.trans F2)
    clear F2 HR
    go_simp
    refine ⟨fun hh => (by cases hh), ?_⟩
    refine hR.mono ?_
    rintro e w3 ⟨hbu, hres⟩
    obtain ⟨bb, rfl, hq⟩ : ∃ b : Bool, e = .returned (.bool b) ∧ ((b = true ∧ J (pre ++ [F]) w3) ∨ (b = false ∧ Jx (pre ++ [F]) w3)) := by
      rcases hres with ⟨rfl, h⟩ | ⟨rfl, h⟩
      · exact ⟨true, rfl, .inl ⟨rfl, h⟩⟩
      · exact ⟨false, rfl, .inr ⟨rfl, h⟩⟩
    have HQ := Lib.hid (And.intro hbu hq)
    clear hbu hq hres hR hy
    simp only []
    refine hK _ _ ?_
    clear hK K
    try simp only [Act.put, List.setIfInBounds_toArray, List.set_cons_zero, List.set_cons_succ]
    refine wpAnyIn_ready (rs := [5]) (by kernel_rfl) (by simp) ?_
    refine AllReadyIn.cons rfl (fun K hK => ?_) AllReadyIn.nil
    go_simp
    refine hK _ _ ?_
    clear hK K
    try simp only [Act.put, List.setIfInBounds_toArray, List.set_cons_zero, List.set_cons_succ]
    refine wpAnyIn_done (by kernel_rfl) ?_ _
    gi_wp2_with fail
    go_ret
    obtain ⟨q1, q2⟩ := HQ.out
    refine ⟨(But.of_below HFF.out).trans (q1.mono fun _ _ hz => .inl hz), ?_⟩
    rcases q2 with ⟨rfl, q2⟩ | ⟨rfl, q2⟩
    · exact .inl ⟨rfl, q2, row_but (HF.out.fut HFF.out).own q1 (fun k hk => (HC.out.hz k hk).2), (HF.out.fut HFF.out).el.1, fun j hj => by
        obtain ⟨u, e, hu⟩ := (HF.out.fut HFF.out).el.2 j hj
        exact ⟨u, e, hu.but q1 (fun k hk => (HC.out.hz k hk).2)⟩⟩
    · exact .inr ⟨rfl, [F], List.prefix_refl _, q2⟩
end
end Go.Proofs.Ytflllkamdihfaaa
