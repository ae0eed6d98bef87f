/- send 111 where carts are left (send_succ) -/
import Derived.Test.YtflllkamdihfaaaLBD
import Derived.Test.YtflllkamdihfaaaLBB
namespace Go.Proofs.Ytflllkamdihfaaa
open Go.RowKit Go.Sort
section
attribute [local go_sem] Oper.semAt_some
open Go.Shelf
set_option maxRecDepth 100000 in
set_option maxHeartbeats 4000000 in
theorem send_succ (w0 : World) (B : Nat) (Z : Nat → Prop) (r c m : Int) (a : Option Addr) (cap : Nat) (S : List Int) (ya : Option Addr) (yc : Nat) (Y : List Int) (ta : Option Addr) (tc : Nat) (T : List Int) (l : Nat) (J Jx : List (List (List Int)) → World → Prop) (xs : List (List (List Int))) (n : Nat)
    (hC : Srch w0 B Z r c m a S ya yc Y ta tc T) (hJ : OldJ B J) (hG : GoP w0 B Z r c m a cap S ya yc Y ta tc T l J Jx xs n 16) : SendP w0 B Z r c m a cap S ya yc Y ta tc T l J Jx xs (n + 1) := by
  intro F vF vals pre W d hn hFk hF hB hK hJ0 hpre
  obtain ⟨la, lc, rfl, hL⟩ := hF.lst
  have hbox := BoxS.new (ya := ya) (yn := Y.length) (yc := yc) (ta := ta) (tn := T.length) (tc := tc) (r := r) (c := c) (a := a) (n := S.length) (cap := cap) (l := l) W
  have hFa : Fut W (W.alloc (.cells #[.slice ya Y.length yc, .slice ta T.length tc, .func (.func 108) #[parV r c a S.length cap] #[], .func (.yield l) #[] #[]] 136)) := Fut.alloc _ _
  have hneq : ((F.length : Int) == (Y.length : Int)) = false := by simp; omega
  have hltx : (F.length : Int) < (Y.length : Int) := by omega
  have hlt : F.length < Y.length := by omega
  have hyl : (Y.length : Int) ≤ 1000 := by have := hC.hin.yl; omega
  obtain ⟨yb, yo, eya, hyb, cy⟩ := (hC.hin.fut hK).y F.length hlt
  subst eya
  have HYR := Lib.hid (hC.hy _ (nth_mem hlt))
  have HZ : Hid (sendF (stL c m S) Y T (n + 1) F = goF (sendF (stL c m S) Y T n) (stL c m S) T 16 F [nth Y F.length]) := Lib.hid rfl
  generalize sendF (stL c m S) Y T (n + 1) F = G at *
  generalize nth Y F.length = y at *
  have HF := Lib.hid hF
  have HP := Lib.hid hpre
  have HK := Lib.hid hK
  have HBX := Lib.hid hbox
  have HFA := Lib.hid hFa
  have HGP := Lib.hid hG
  have HNN := Lib.hid (And.intro hn hFk)
  have HC := Lib.hid hC
  have HCY := Lib.hid (And.intro hyb cy)
  clear hF hpre hn hFk hK hbox hFa hC hL hG hlt hyb cy
  obtain ⟨_, b0, b1, b2, b3⟩ := HBX.out
  refine callsIn_of_wp Try.func111 rfl trivial ?_ rfl
  simp only [Try.ntmps111, List.size_toArray, List.length_cons, List.length_nil, Nat.reduceAdd, Nat.reduceSub, Array.replicate_succ, Array.replicate_zero, List.push_toArray, List.append_toArray, List.nil_append, List.cons_append]
  gi_wp2_with fail
  generalize W.alloc (.cells #[.slice (some ⟨yb, yo, none⟩) Y.length yc, .slice ta T.length tc, .func (.func 108) #[parV r c a S.length cap] #[], .func (.yield l) #[] #[]] 136) = W1 at *
  gi_wp2_with fail
  have FD : Fut W1 W1.drew := below_drewN Fut.rfl 1
  have HB0 := Lib.hid (HBX.out.fut FD)
  have HFU := Lib.hid (HFA.out.trans FD)
  have HSZ := Lib.hid (Nat.le_trans hB (RowKit.Below.size HFU.out))
  have HYC := Lib.hid ((RowKit.Below.cell HFU.out (p := ⟨yb, yo + F.length, none⟩) HCY.out.1).trans HCY.out.2)
  have HGO : ∀ (d : Nat), CallsIn Fence.wide d Try.prog 127 #[srV (some ⟨yb, yo, none⟩) Y.length yc ta T.length tc r c a S.length cap l, .slice la F.length lc, .slice (some ⟨W1.drew.heap.size, 0, none⟩) 1 1] (W1.drew.alloc (.cells #[.int .i64 y] 3)) fun e W' => ∃ b : Bool, e = .returned (.bool b) ∧ Hid (But (fun k => Z k ∨ (Value.slice la F.length lc).ownBlock = some k) W W' ∧ ((b = true ∧ J (pre ++ G) W' ∧ Fam W' B (.slice la F.length lc) vals F) ∨ (b = false ∧ ∃ q, q <+: G ∧ Jx (pre ++ q) W'))) := by
    intro dd
    have FA := HFU.out.trans (Fut.alloc W1.drew (.cells #[.int .i64 y] 3))
    have hFA := HF.out.fut FA
    have how : Owns (W1.drew.alloc (.cells #[.int .i64 y] 3)) B (.slice (some ⟨W1.drew.heap.size, 0, none⟩) [y].length 1) [y] := World.ownsRow_lit (base := B) (e := 3) (size := 1) W1.drew #[.int .i64 y] 1 HSZ.out (by unfold maxLen; omega) rfl
    have hbelow : RowKit.Below B W (W1.drew.alloc (.cells #[.int .i64 y] 3)) := RowKit.Below.mono FA hB
    have h := HGP.out F (.slice la F.length lc) vals [y] _ pre _ dd (by have := HNN.out.1; omega) HNN.out.2 hFA how (by simp) (by simp) HYR.out.1 HYR.out.2 (by have := side_m HC.out.hs; have h2 := HYR.out; show m - nth [y] 0 ≤ _; simp [nth]; omega)
      (fun u hu k hk e => by
        have e2 : W1.drew.heap.size = k := by simpa [Value.ownBlock] using e
        have := HF.out.lt u hu k hk
        have := RowKit.Below.size HFU.out
        omega) (Nat.le_trans HSZ.out (RowKit.Below.size (Fut.alloc _ _))) (RowKit.Below.trans HK.out (RowKit.Below.mono hbelow HC.out.hb)) (hJ _ _ _ hJ0 hbelow) (by rw [← HZ.out]; exact HP.out)
    refine h.mono ?_
    rintro e w4 ⟨hbu, h4⟩
    have hb2 : But (fun k => Z k ∨ (Value.slice la F.length lc).ownBlock = some k) W w4 := (But.of_below FA).thenBut hbu (fun q hq hlt => by
      rcases hq with hq | hq
      · exact hq
      · have e2 : W1.drew.heap.size = q := by simpa [Value.ownBlock] using hq
        have := RowKit.Below.size HFU.out
        omega)
    rcases h4 with ⟨rfl, hJ4, hF4, _⟩ | ⟨rfl, q, hq, hx⟩
    · exact ⟨true, rfl, Lib.hid ⟨hb2, .inl ⟨rfl, by rw [HZ.out]; exact hJ4, hF4⟩⟩⟩
    · exact ⟨false, rfl, Lib.hid ⟨hb2, .inr ⟨rfl, q, by rw [HZ.out]; exact hq, hx⟩⟩⟩
  clear FD b0 b1 b2 b3 HBX HFA
  refine wpIn_region_any (by kernel_rfl) ?_
  change wpAnyIn _ _ _ _ _ _ _ _ _ (World.drew _)
  generalize W1.drew = u0 at *
  refine wpAnyIn_take (i := 1) (v := ?_) rfl rfl (by kernel_rfl) (by kernel_rfl) (by kernel_rfl) (fun _ _ _ h => h) ⟨Or.inl ⟨by rfl, ?_⟩, fun _ => rfl⟩ ?_
  rotate_left
  · (intro w; go_simp <;> with_reducible rfl)
  try simp only [Act.put, List.setIfInBounds_toArray]
  refine wpAnyIn_take (i := 2) (v := ?_) rfl rfl (by kernel_rfl) (by kernel_rfl) (by kernel_rfl) (fun _ _ _ h => h) ⟨Or.inl ⟨by rfl, ?_⟩, fun _ => rfl⟩ ?_
  rotate_left
  · (intro w; go_simp <;> with_reducible rfl)
  try simp only [Act.put]
  refine wpAnyIn_take (i := 3) (v := ?_) rfl rfl (by kernel_rfl) (by kernel_rfl) (by kernel_rfl) (fun _ _ _ h => h) ⟨Or.inl ⟨by rfl, ?_⟩, fun _ => rfl⟩ ?_
  rotate_left
  · (intro w; go_simp <;> with_reducible rfl)
  try simp only [Act.put]
  refine wpAnyIn_take (i := 5) (v := ?_) rfl rfl (by kernel_rfl) (by kernel_rfl) (by kernel_rfl) (fun _ _ _ h => h) ⟨Or.inl ⟨by rfl, ?_⟩, fun _ => rfl⟩ ?_
  rotate_left
  · (intro w; go_simp <;> with_reducible rfl)
  try simp only [Act.put]
  refine wpAnyIn_ready (rs := [0, 4]) (by kernel_rfl) (by simp) ?_
  refine AllReadyIn.cons rfl (fun K hK => ?_) (AllReadyIn.cons rfl (fun K hK => ?_) (AllReadyIn.nil))
  · obtain ⟨_, s0, s1, s2, s3⟩ := HB0.out
    go_simp
    clear s0 s1 s2 s3
    refine hK _ _ ?_
    clear hK K
    try simp only [Act.put, List.setIfInBounds_toArray, List.set_cons_zero, List.set_cons_succ]
    refine wpAnyIn_ready (rs := [4]) (by kernel_rfl) (by simp) ?_
    refine AllReadyIn.cons rfl (fun K hK => ?_) AllReadyIn.nil
    obtain ⟨_, s0, _, _, _⟩ := HB0.out
    go_simp
    clear s0
    refine hK _ _ ?_
    clear hK K
    try simp only [Act.put, List.setIfInBounds_toArray, List.set_cons_zero, List.set_cons_succ]
    refine wpAnyIn_take (i := 6) (v := ?_) rfl rfl (by kernel_rfl) (by kernel_rfl) (by kernel_rfl) (fun _ _ _ h => h) ⟨Or.inl ⟨by rfl, ?_⟩, fun _ => rfl⟩ ?_
    rotate_left
    · (intro w; go_simp <;> with_reducible rfl)
    try simp only [Act.put, List.setIfInBounds_toArray]
    refine wpAnyIn_ready (rs := [7]) (by kernel_rfl) (by simp) ?_
    refine AllReadyIn.cons rfl (fun K hK => ?_) AllReadyIn.nil
    have e1 := HYC.out
    go_simp
    clear e1
    refine hK _ _ ?_
    clear hK K
    try simp only [Act.put, List.setIfInBounds_toArray, List.set_cons_zero, List.set_cons_succ]
    refine wpAnyIn_ready (rs := [8]) (by kernel_rfl) (by simp) ?_
    refine AllReadyIn.cons rfl (fun K hK => ?_) AllReadyIn.nil
    go_simp
    refine hK _ _ ?_
    clear hK K
    try simp only [Act.put, List.setIfInBounds_toArray, List.set_cons_zero, List.set_cons_succ]
    refine wpAnyIn_ready (rs := [9]) (by kernel_rfl) (by simp) ?_
    refine AllReadyIn.cons rfl (fun K hK => ?_) AllReadyIn.nil
    go_simp
    refine ⟨trivial, fun hh => (by cases hh), ?_⟩
    refine (HGO _).mono ?_
    rintro e w4 ⟨bb, rfl, HR⟩
    simp only []
    refine hK _ _ ?_
    clear hK K
    try simp only [Act.put, List.setIfInBounds_toArray, List.set_cons_zero, List.set_cons_succ]
    refine wpAnyIn_ready (rs := [10]) (by kernel_rfl) (by simp) ?_
    refine AllReadyIn.cons rfl (fun K hK => ?_) AllReadyIn.nil
    go_simp
    refine hK _ _ ?_
    clear hK K
    try simp only [Act.put, List.setIfInBounds_toArray, List.set_cons_zero, List.set_cons_succ]
    refine wpAnyIn_done (by kernel_rfl) ?_ _
    gi_wp2_with fail
    go_ret
    obtain ⟨q1, q2⟩ := HR.out
    refine ⟨q1, ?_⟩
    rcases q2 with ⟨rfl, q2⟩ | ⟨rfl, q2⟩
    · exact .inl ⟨rfl, q2⟩
    · exact .inr ⟨rfl, q2⟩
  · obtain ⟨_, s0, _, _, _⟩ := HB0.out
    go_simp
    clear s0
    refine hK _ _ ?_
    clear hK K
    try simp only [Act.put, List.setIfInBounds_toArray, List.set_cons_zero, List.set_cons_succ]
    refine wpAnyIn_take (i := 6) (v := ?_) rfl rfl (by kernel_rfl) (by kernel_rfl) (by kernel_rfl) (fun _ _ _ h => h) ⟨Or.inl ⟨by rfl, ?_⟩, fun _ => rfl⟩ ?_
    rotate_left
    · (intro w; go_simp <;> with_reducible rfl)
    try simp only [Act.put, List.setIfInBounds_toArray]
    refine wpAnyIn_ready (rs := [0, 7]) (by kernel_rfl) (by simp) ?_
    refine AllReadyIn.cons rfl (fun K hK => ?_) (AllReadyIn.cons rfl (fun K hK => ?_) (AllReadyIn.nil))
    · obtain ⟨_, s0, s1, s2, s3⟩ := HB0.out
      go_simp
      clear s0 s1 s2 s3
      refine hK _ _ ?_
      clear hK K
      try simp only [Act.put, List.setIfInBounds_toArray, List.set_cons_zero, List.set_cons_succ]
      refine wpAnyIn_ready (rs := [7]) (by kernel_rfl) (by simp) ?_
      refine AllReadyIn.cons rfl (fun K hK => ?_) AllReadyIn.nil
      have e1 := HYC.out
      go_simp
      clear e1
      refine hK _ _ ?_
      clear hK K
      try simp only [Act.put, List.setIfInBounds_toArray, List.set_cons_zero, List.set_cons_succ]
      refine wpAnyIn_ready (rs := [8]) (by kernel_rfl) (by simp) ?_
      refine AllReadyIn.cons rfl (fun K hK => ?_) AllReadyIn.nil
      go_simp
      refine hK _ _ ?_
      clear hK K
      try simp only [Act.put, List.setIfInBounds_toArray, List.set_cons_zero, List.set_cons_succ]
      refine wpAnyIn_ready (rs := [9]) (by kernel_rfl) (by simp) ?_
      refine AllReadyIn.cons rfl (fun K hK => ?_) AllReadyIn.nil
      go_simp
      refine ⟨trivial, fun hh => (by cases hh), ?_⟩
      refine (HGO _).mono ?_
      rintro e w4 ⟨bb, rfl, HR⟩
      simp only []
      refine hK _ _ ?_
      clear hK K
      try simp only [Act.put, List.setIfInBounds_toArray, List.set_cons_zero, List.set_cons_succ]
      refine wpAnyIn_ready (rs := [10]) (by kernel_rfl) (by simp) ?_
      refine AllReadyIn.cons rfl (fun K hK => ?_) AllReadyIn.nil
      go_simp
      refine hK _ _ ?_
      clear hK K
      try simp only [Act.put, List.setIfInBounds_toArray, List.set_cons_zero, List.set_cons_succ]
      refine wpAnyIn_done (by kernel_rfl) ?_ _
      gi_wp2_with fail
      go_ret
      obtain ⟨q1, q2⟩ := HR.out
      refine ⟨q1, ?_⟩
      rcases q2 with ⟨rfl, q2⟩ | ⟨rfl, q2⟩
      · exact .inl ⟨rfl, q2⟩
      · exact .inr ⟨rfl, q2⟩
    · have e1 := HYC.out
      go_simp
      clear e1
      refine hK _ _ ?_
      clear hK K
      try simp only [Act.put, List.setIfInBounds_toArray, List.set_cons_zero, List.set_cons_succ]
      refine wpAnyIn_ready (rs := [0, 8]) (by kernel_rfl) (by simp) ?_
      refine AllReadyIn.cons rfl (fun K hK => ?_) (AllReadyIn.cons rfl (fun K hK => ?_) (AllReadyIn.nil))
      · obtain ⟨_, s0, s1, s2, s3⟩ := HB0.out
        go_simp
        clear s0 s1 s2 s3
        refine hK _ _ ?_
        clear hK K
        try simp only [Act.put, List.setIfInBounds_toArray, List.set_cons_zero, List.set_cons_succ]
        refine wpAnyIn_ready (rs := [8]) (by kernel_rfl) (by simp) ?_
        refine AllReadyIn.cons rfl (fun K hK => ?_) AllReadyIn.nil
        go_simp
        refine hK _ _ ?_
        clear hK K
        try simp only [Act.put, List.setIfInBounds_toArray, List.set_cons_zero, List.set_cons_succ]
        refine wpAnyIn_ready (rs := [9]) (by kernel_rfl) (by simp) ?_
        refine AllReadyIn.cons rfl (fun K hK => ?_) AllReadyIn.nil
        go_simp
        refine ⟨trivial, fun hh => (by cases hh), ?_⟩
        refine (HGO _).mono ?_
        rintro e w4 ⟨bb, rfl, HR⟩
        simp only []
        refine hK _ _ ?_
        clear hK K
        try simp only [Act.put, List.setIfInBounds_toArray, List.set_cons_zero, List.set_cons_succ]
        refine wpAnyIn_ready (rs := [10]) (by kernel_rfl) (by simp) ?_
        refine AllReadyIn.cons rfl (fun K hK => ?_) AllReadyIn.nil
        go_simp
        refine hK _ _ ?_
        clear hK K
        try simp only [Act.put, List.setIfInBounds_toArray, List.set_cons_zero, List.set_cons_succ]
        refine wpAnyIn_done (by kernel_rfl) ?_ _
        gi_wp2_with fail
        go_ret
        obtain ⟨q1, q2⟩ := HR.out
        refine ⟨q1, ?_⟩
        rcases q2 with ⟨rfl, q2⟩ | ⟨rfl, q2⟩
        · exact .inl ⟨rfl, q2⟩
        · exact .inr ⟨rfl, q2⟩
      · go_simp
        refine hK _ _ ?_
        clear hK K
        try simp only [Act.put, List.setIfInBounds_toArray, List.set_cons_zero, List.set_cons_succ]
        refine wpAnyIn_ready (rs := [0]) (by kernel_rfl) (by simp) ?_
        refine AllReadyIn.cons rfl (fun K hK => ?_) AllReadyIn.nil
        obtain ⟨_, s0, s1, s2, s3⟩ := (HB0.out.fut (Fut.alloc _ (.cells #[.int .i64 y] 3)))
        go_simp
        clear s0 s1 s2 s3
        refine hK _ _ ?_
        clear hK K
        try simp only [Act.put, List.setIfInBounds_toArray, List.set_cons_zero, List.set_cons_succ]
        refine wpAnyIn_ready (rs := [9]) (by kernel_rfl) (by simp) ?_
        refine AllReadyIn.cons rfl (fun K hK => ?_) AllReadyIn.nil
        go_simp
        refine ⟨trivial, fun hh => (by cases hh), ?_⟩
        refine (HGO _).mono ?_
        rintro e w4 ⟨bb, rfl, HR⟩
        simp only []
        refine hK _ _ ?_
        clear hK K
        try simp only [Act.put, List.setIfInBounds_toArray, List.set_cons_zero, List.set_cons_succ]
        refine wpAnyIn_ready (rs := [10]) (by kernel_rfl) (by simp) ?_
        refine AllReadyIn.cons rfl (fun K hK => ?_) AllReadyIn.nil
        go_simp
        refine hK _ _ ?_
        clear hK K
        try simp only [Act.put, List.setIfInBounds_toArray, List.set_cons_zero, List.set_cons_succ]
        refine wpAnyIn_done (by kernel_rfl) ?_ _
        gi_wp2_with fail
        go_ret
        obtain ⟨q1, q2⟩ := HR.out
        refine ⟨q1, ?_⟩
        rcases q2 with ⟨rfl, q2⟩ | ⟨rfl, q2⟩
        · exact .inl ⟨rfl, q2⟩
        · exact .inr ⟨rfl, q2⟩
end
end Go.Proofs.Ytflllkamdihfaaa
