/- SieveOrdered 7 -/
import Derived.Test.YtjapconhehdcjaaVI
import Derived.Test.YtjapconhehdcjaaVK
import Derived.Test.YtjapconhehdcjaaVH
import Derived.Test.YtjapconhehdcjaaMSC
import Derived.Deep.DeepCutAuto
import Derived.Deep.AppendLies
namespace Go.Proofs.Ytjapconhehdcjaa
open Go.RowKit Go.Sort
set_option maxRecDepth 100000 in
theorem sum47_any (a : Option Addr) (cap : Nat) (zs : List Int) (w : World) (hA : IntsAt w a zs) (hl : zs.length ≤ 1000) (hz : ∀ z ∈ zs, 0 ≤ z ∧ z ≤ 1000000) :
    Calls Try.prog 47 #[.slice a zs.length cap] w fun e w' => e = .returned (.int .i64 zs.sum) ∧ w = w' := by
  have HA := Lib.hid hA
  have HB := Lib.hid (sum_bnd hz)
  have HT := Lib.hid (sum_take zs)
  have HE : Hid ((zs.take zs.length).sum = zs.sum) := Lib.hid (by rw [List.take_length])
  have hlx : (zs.length : Int) ≤ 1000 := by omega
  obtain ⟨f, hf⟩ : ∃ f : Nat → Int, f = fun i => (zs.take i).sum := ⟨_, rfl⟩
  have HF := Lib.hid hf
  have HF0 : Hid (f 0 = 0) := Lib.hid (by rw [hf]; rfl)
  clear hA hz hf
  go_enter Try.func47, Try.ntmps47
  go_wp2_with fail
  go_loopw [3, 8] (fun sv iv wr => ∃ i : Nat, i ≤ zs.length ∧ iv = .int .i64 i ∧ sv = .int .i64 (f i) ∧ w = wr) (fun _ iv _ => zs.length - (intOf iv).toNat)
  case atStart => exact ⟨0, Nat.zero_le _, rfl, by rw [HF0.out], rfl⟩
  case round =>
    obtain ⟨i, hi, rfl, rfl, rfl⟩ := hrel
    by_cases hil : i < zs.length
    · have hix : (i : Int) < zs.length := by omega
      obtain ⟨b, o, rfl, hb, c⟩ := HA.out i hil
      have hs : f (i + 1) = f i + nth zs i := by rw [HF.out]; exact HT.out i hil
      have h1 := HB.out (i + 1)
      have h2 : f (i + 1) = (zs.take (i + 1)).sum := by rw [HF.out]
      rw [← h2, hs] at h1
      have hw : IntKind.i64.wrap (f i + nth zs i) = f i + nth zs i := IntWalk.i64_in _ ⟨by omega, by omega⟩
      have HS := Lib.hid hs
      clear hs h1 h2
      go_wp2_with fail
      go_roundw
      case rel => exact ⟨i + 1, by omega, by go_num, by rw [HS.out], trivial⟩
      case measure => simp [intOf]; omega
    · obtain rfl : i = zs.length := by omega
      go_wp2_with fail
      go_ret
      exact ⟨ret_int (by rw [HF.out]; exact HE.out), rfl⟩

theorem perm_rev (l r : List Int) (x y : Int) (h : srtI l = x :: y :: r) : (srtI l).reverse = r.reverse ++ [y, x] := by rw [h]; simp
set_option maxRecDepth 100000 in
set_option maxHeartbeats 4000000 in
/-- the law's own joining: the two last of the falling loads. -/
theorem joined_any (a : Option Addr) (cap : Nat) (zs : List Int) (w : World) (hA : IntsAt w a zs) (h1 : 1 ≤ zs.length) (h8 : zs.length ≤ 8) (hz : ∀ z ∈ zs, 0 ≤ z ∧ z ≤ 1000000) :
    Calls Try.prog 46 #[.slice a zs.length cap] w fun e w' => e = .returned (.int .i64 (Sv.huf zs.length zs)) ∧ Fut w w' := by
  have HCL := Lib.hid (clone_call2 a zs.length cap zs rfl h1 (by omega) w hA)
  obtain ⟨S, hS⟩ : ∃ S, S = zs.sum := ⟨_, rfl⟩
  have hSb := sum_bnd hz zs.length
  rw [List.take_length, ← hS] at hSb
  have HS := Lib.hid hS.symm
  have HZ := Lib.hid (fun z h => (hz z h).1)
  obtain ⟨T, hT⟩ : ∃ T, T = Sv.huf zs.length zs := ⟨_, rfl⟩
  have HT := Lib.hid hT
  have hSb2 : 0 ≤ S ∧ S ≤ 8000000 := by omega
  rw [← hT]
  obtain ⟨n, hn⟩ : ∃ n, zs.length = n := ⟨_, rfl⟩
  have HNN := Lib.hid hn.symm
  rw [hn] at h1 h8 HCL ⊢
  have hN : (n : Int) ≤ 8 := by omega
  clear hS hT hA hz hSb hn
  go_enter Try.func46, Try.ntmps46
  go_wp2_with fail
  refine HCL.out.mono ?_
  rintro _ w1 ⟨g, c, rfl, q1, q2, q3, q4, q5, F1⟩
  have HR1 := Lib.hid q3
  have HG1 := Lib.hid q1
  have HG2 := Lib.hid q2
  have HF1 := Lib.hid F1
  clear F1 q1 q2 q3 HCL
  go_wp2_with fail
  go_loopw [3, 4] (fun lv qv wr => ∃ (l : List Int) (m cc : Nat) (q : Int), qv = .int .i64 q ∧ lv = .slice (some ⟨g, 0, none⟩) m cc ∧ (1 ≤ m ∧ m ≤ n ∧ m ≤ cc) ∧ (0 ≤ q ∧ q + 8000000 * (m : Int) ≤ 8000000 * (n : Int)) ∧ Hid (l.length = m) ∧ Hid (RowN wr g l) ∧ Hid (Fut w wr) ∧ Hid (g < wr.heap.size) ∧ Hid ((∀ z ∈ l, 0 ≤ z) ∧ l.sum = S) ∧ Hid (q + Sv.huf m l = T)) (fun lv _ _ => lenS lv)
  case atStart => exact ⟨zs, n, c, 0, rfl, rfl, ⟨h1, Nat.le_refl _, q4⟩, ⟨by omega, by omega⟩, Lib.hid HNN.out.symm, HR1, HF1, HG2, Lib.hid ⟨HZ.out, HS.out⟩, Lib.hid (by rw [HT.out, Int.zero_add, ← HNN.out])⟩
  case round =>
    obtain ⟨l, m, cc, q, rfl, rfl, hm, hq, HL, HR, HF, HG, HZS, HQ⟩ := hrel
    by_cases hm1 : 1 < m
    · have hmx : (1 : Int) < m := by omega
      have HP := Lib.hid (Sv.srt_parts (l := l) (by rw [HL.out]; omega))
      have hzb : ∀ z ∈ l, 0 ≤ z ∧ z ≤ 1000000000 := fun z hz => by
        have hs := HZS.out.2
        have hge := HZS.out.1
        have : z ≤ l.sum := by
          clear hs HZS HQ HR HP HL
          induction l with
          | nil => cases hz
          | cons a l ih =>
            rw [List.sum_cons]
            have h0 := sum_ge (l := l) fun x hx => hge x (by simp [hx])
            have ha := hge a (by simp)
            rcases List.mem_cons.1 hz with rfl | hz
            · omega
            · have := ih hz fun x hx => hge x (by simp [hx]); omega
        exact ⟨hge z hz, by omega⟩
      have HSO := Lib.hid (desc_call g m cc l HL.out (by omega) hzb wr HR.out HG.out)
      clear hzb
      go_wp2_with fail
      refine HSO.out.mono ?_
      rintro _ w2 ⟨rfl, hR2, hO2⟩
      obtain ⟨x, y, r, e1, e2, e3, e4⟩ := HP.out
      have hlen : l.length = r.length + 2 := by have := e2.length_eq; simpa using this
      obtain ⟨k, hk⟩ : ∃ k, k = r.length := ⟨_, rfl⟩
      obtain ⟨k1, hk1⟩ : ∃ k1, k1 = k + 1 := ⟨_, rfl⟩
      have hmk : m = k + 2 := by have := HL.out; omega
      rw [perm_rev l r x y e1] at hR2
      obtain ⟨R, hR⟩ : ∃ R, R = r.reverse := ⟨_, rfl⟩
      have hRl : R.length = k := by rw [hR, List.length_reverse, hk]
      rw [← hR] at hR2
      have HR2 := Lib.hid hR2
      have HF2 : Hid (Fut w w2) := Lib.hid (Only.fut HF.out hO2 HG1.out)
      have HS2 : Hid (g < w2.heap.size) := Lib.hid (Nat.lt_of_lt_of_le HG.out hO2.1)
      have hxy : 0 ≤ x ∧ 0 ≤ y ∧ (∀ z ∈ r, 0 ≤ z) ∧ x + y + r.sum = S := by
        refine ⟨HZS.out.1 x (e2.mem_iff.2 (by simp)), HZS.out.1 y (e2.mem_iff.2 (by simp)), fun z hz => HZS.out.1 z (e2.mem_iff.2 (by simp [hz])), ?_⟩
        have := sum_perm e2
        rw [HZS.out.2, List.sum_cons, List.sum_cons] at this
        omega
      have hr0 := sum_ge hxy.2.2.1
      obtain ⟨s, hs⟩ : ∃ s, y + x = s := ⟨_, rfl⟩
      have hsb : 0 ≤ s ∧ s ≤ 8000000 := by omega
      have hpm : (R ++ [s]).Perm (s :: r) := by rw [hR]; exact (List.perm_append_comm).trans (List.Perm.cons _ (List.reverse_perm r))
      have HZ3 : Hid ((∀ z ∈ R ++ [s], 0 ≤ z) ∧ (R ++ [s]).sum = S) := Lib.hid ⟨fun z hz => by
        rcases List.mem_cons.1 (hpm.mem_iff.1 hz) with rfl | hz
        · omega
        · exact hxy.2.2.1 z hz, by rw [sum_perm hpm, List.sum_cons]; omega⟩
      have HQ3 : Hid (q + s + Sv.huf k1 (R ++ [s]) = T) := Lib.hid (by
        rw [← HQ.out, show m = k1 + 1 by omega, Sv.huf_step k1 e2 e3 e4, Sv.huf_perm k1 hpm, show x + y = s by omega]; omega)
      have HL3 : Hid ((R ++ [s]).length = k1) := Lib.hid (by rw [List.length_append, hRl]; simp; omega)
      have hwa : IntKind.i64.wrap (y + x) = s := by rw [hs]; exact IntWalk.i64_in _ ⟨by omega, by omega⟩
      have hwb : IntKind.i64.wrap (q + s) = q + s := IntWalk.i64_in _ ⟨by omega, by omega⟩
      have hwk : IntKind.i64.wrap ((m : Int) - 2) = (k : Int) := by rw [IntWalk.i64_in _ ⟨by omega, by omega⟩]; omega
      have hwk1 : IntKind.i64.wrap ((k : Int) + 1) = (k1 : Int) := by rw [IntWalk.i64_in _ ⟨by omega, by omega⟩]; omega
      have c0 := hR2.1 k (by rw [List.length_append, hRl]; simp)
      have c1 := hR2.1 k1 (by rw [List.length_append, hRl]; simp; omega)
      rw [show nth (R ++ [y, x]) k = y by rw [nth_eq, List.getElem?_append_right (by omega), hRl, Nat.sub_self]; rfl] at c0
      rw [show nth (R ++ [y, x]) k1 = x by rw [nth_eq, List.getElem?_append_right (by omega), hRl, show k1 - k = 1 by omega]; rfl] at c1
      have f0 := hR2.2 k
      have hkx : (k : Int) < m := by omega
      have hkx2 : k < m := by omega
      have hk1x : (k1 : Int) < m := by omega
      have hk1x2 : k1 < m := by omega
      have hsl := slice_toI g 0 m cc k1 (by omega)
      have HSE : Hid ((R ++ [y, x]).set k s = R ++ [s, x]) := Lib.hid (by rw [List.set_append, if_neg (by omega), hRl, Nat.sub_self]; rfl)
      have HKM : Hid (m = k + 2 ∧ k1 = k + 1 ∧ R.length = k) := Lib.hid ⟨hmk, hk1, hRl⟩
      clear hR2 hO2 e1 e2 e3 e4 hlen hk hk1 hmk hR hRl hxy hr0 hs hpm HSO HQ HZS HL HR HF HG HP
      go_upto_region 6 with fail
      go_still_tail 11, (by kernel_rfl)
      change wpList _ _ _ _ _ w2.drew
      have HRd : Hid (RowN w2.drew g (R ++ [y, x])) := Lib.hid (HR2.out.below (below_drewN (RowKit.Below.refl (g + 1) w2) 1) (Nat.lt_succ_self g))
      have HFd : Hid (Fut w w2.drew) := Lib.hid (HF2.out.trans (below_drewN Fut.rfl 1))
      have HGd : Hid (g < w2.drew.heap.size) := Lib.hid HS2.out
      generalize w2.drew = w3 at *
      clear c0 c1 f0 HR2 HF2 HS2
      have HR3 : Hid (RowN (w3.setCell ⟨g, k, none⟩ (.int .i64 s)) g (R ++ [s])) := Lib.hid (by
        have h := HRd.out.set k s (by rw [List.length_append, HKM.out.2.2]; simp)
        rw [HSE.out] at h
        exact RowN.part (ys := [x]) (by rw [List.append_assoc]; exact h))
      have hO := only_set w3 g k (.int .i64 s)
      have HF3 := Lib.hid (Only.fut HFd.out hO HG1.out)
      have HG3 : Hid (g < (w3.setCell ⟨g, k, none⟩ (.int .i64 s)).heap.size) := Lib.hid (Nat.lt_of_lt_of_le HGd.out hO.1)
      have c0 := HRd.out.1 k (by rw [List.length_append, HKM.out.2.2]; simp)
      have f0 := HRd.out.2 k
      clear hO
      go_wp2_with fail
      have hkm := HKM.out
      exact ⟨⟨R ++ [s], k1, cc, q + s, rfl, rfl, by omega, by omega, HL3, HR3, HF3, HG3, HZ3, HQ3⟩, by simp only [lenS]; omega⟩
    · have hm1' : m = 1 := by omega
      subst hm1'
      have HE : Hid (q = T) := Lib.hid (by rw [← HQ.out, Sv.huf_one 1 HL.out, Int.add_zero])
      go_wp2_with fail
      go_ret
      exact ⟨by rw [HE.out]; rfl, HF.out⟩
/-- in the order of sizes, and in any order. -/
theorem order_vals {zs : List Int} (hc : chkL zs = 0) : anyE zs = Sv.huf zs.length zs ∧ anyE zs ≤ leastE zs ∧ leastE zs < anyE zs + 2 * zs.sum ∧ 0 ≤ anyE zs ∧ 1 ≤ zs.sum ∧ zs.sum ≤ 800 ∧ chkL (srtI zs) = 0 ∧ leastE (srtI zs) = anyE zs ∧ chkL (srtI zs).reverse = 0 ∧ leastE (srtI zs).reverse = anyE zs ∧ anyE (srtI zs).reverse = anyE zs := by
  have hz := chk_nn hc
  obtain ⟨h1, h8, hb⟩ := chkL_zero hc
  have hs : chkL (srtI zs) = 0 := chk_of (m := 100) (by rw [srt_len]; exact h1) (by rw [srt_len]; exact h8) (by omega) fun z h => hb z ((srt_mem zs z).1 h)
  have hr : chkL (srtI zs).reverse = 0 := chk_of (m := 100) (by rw [List.length_reverse, srt_len]; exact h1) (by rw [List.length_reverse, srt_len]; exact h8) (by omega) fun z h => hb z ((srt_mem zs z).1 (List.mem_reverse.1 h))
  obtain ⟨a1, _, a3, t, _, a5, a6, _⟩ := good_vals hc
  obtain ⟨b1, _, b3, _⟩ := good_vals hs
  obtain ⟨c1, _, c3, _⟩ := good_vals hr
  have hzs := chk_nn hs
  have hS : 1 ≤ zs.sum ∧ zs.sum ≤ 800 := by
    have key : ∀ l : List Int, (∀ z ∈ l, 1 ≤ z ∧ z ≤ 100) → (l.length : Int) ≤ l.sum ∧ l.sum ≤ 100 * (l.length : Int) := by
      intro l
      induction l with
      | nil => intro _; simp
      | cons x l ih =>
        intro h
        have := ih fun z hz => h z (by simp [hz])
        have := h x (by simp)
        rw [List.sum_cons, List.length_cons]; omega
    have := key zs hb
    omega
  have e1 : anyE zs ≤ leastE zs := by rw [a3, a1, ← a6]; exact Sv.huf_tree zs t a5
  obtain ⟨n, hn⟩ : ∃ n, zs.length = n + 1 := ⟨zs.length - 1, by omega⟩
  have e2 : leastE zs ≤ anyE zs + zs.sum := by
    obtain ⟨u, u1, u2⟩ := Sv.huf_near n zs hn hz
    have := Sv.bst_le hz h1 u1
    rw [a3, a1]; omega
  have e3 : leastE (srtI zs) = anyE zs := by
    rw [b1, a3]
    have hp : Sv.huf zs.length zs = Sv.huf (srtI zs).length (srtI zs) := by rw [srt_len]; exact Sv.huf_perm _ (srt_perm zs).symm
    rw [hp]
    refine Sv.least_uniq hzs (by rw [srt_len]; exact h1) (fun t ht => Sv.huf_tree _ t ht) ?_
    obtain ⟨u, u1, u2⟩ := Sv.huf_rise n (srtI zs) (by rw [srt_len, hn]) (srt_le zs)
    exact ⟨u, u1, u2⟩
  have e4 : 0 ≤ anyE zs := by
    have h0 := e3 ▸ (qsB hs).1
    exact h0
  refine ⟨a3, e1, by omega, e4, hS.1, hS.2, hs, e3, hr, ?_, ?_⟩
  · rw [c1, Sv.least_rev hzs (by rw [srt_len]; exact h1), ← b1, e3]
  · rw [c3, a3, List.length_reverse, srt_len]
    exact Sv.huf_perm _ ((List.reverse_perm _).trans (srt_perm zs))
set_option maxRecDepth 100000 in
set_option maxHeartbeats 8000000 in
theorem law7_any (k0 : Nat) (b : Nat → Nat) (hk : k0 ≤ 255) (hb : ∀ j, b j ≤ 255) (w : World) :
    Calls Try.prog 7 #[dustV k0 b] w fun e w' => e = .returned (.bool true) ∧ Fut w w' := by
  obtain ⟨n, zs, hl, hn, hc, hin, hmd⟩ := dmade_call k0 b hk hb 100 (by omega)
  obtain ⟨v1, v2, v3, v4, v5, v6, v7, v8, v9, v10, v11⟩ := order_vals hc
  have hlb := qsB hc
  obtain ⟨A, hA⟩ : ∃ A, leastE zs = A := ⟨_, rfl⟩
  obtain ⟨O, hO⟩ : ∃ O, anyE zs = O := ⟨_, rfl⟩
  obtain ⟨S, hS⟩ : ∃ S, zs.sum = S := ⟨_, rfl⟩
  rw [hO] at v1 v2 v3 v4 v8 v10 v11
  rw [hA] at v2 v3 hlb
  rw [hS] at v3 v5 v6
  have HLE := Lib.hid (fun W => least_call n zs hl hn.2 hc A hA W)
  have HAE := Lib.hid (fun W => anyo_call n zs hl hn.2 hc O hO W)
  have HJO : Hid (∀ W a c, IntsAt W a zs → Calls Try.prog 46 #[.slice a n c] W fun e w' => e = .returned (.int .i64 O) ∧ Fut W w') := Lib.hid (fun W a c h => by
    have q := joined_any a c zs W h (by omega) (by omega) (fun z hz => by have := hin z hz; omega)
    rw [hl] at q v1
    rw [v1]
    exact q)
  have HSU : Hid (∀ W a c, n ≤ c → IntsAt W a zs → Calls Try.prog 47 #[.slice a n c] W fun e w' => e = .returned (.int .i64 S) ∧ W = w') := Lib.hid (fun W a c hc h => by
    have q := sum47_any a c zs W h (by omega) (fun z hz => by have := hin z hz; omega)
    rw [hl, hS] at q
    exact q)
  have HLS := Lib.hid (fun W => least_call n (srtI zs) (by rw [srt_len, hl]) hn.2 v7 O v8 W)
  have HLR := Lib.hid (fun W => least_call n (srtI zs).reverse (by rw [List.length_reverse, srt_len, hl]) hn.2 v9 O v10 W)
  have HAR := Lib.hid (fun W => anyo_call n (srtI zs).reverse (by rw [List.length_reverse, srt_len, hl]) hn.2 v9 O v11 W)
  have HSO := Lib.hid (fun W g c => sort_call g n c zs hl (by omega) W)
  have HRV := Lib.hid (fun W g c => rev_call g n c (srtI zs) (by rw [srt_len, hl]) (by omega) W)
  unfold dustV at hmd ⊢
  have HMD := Lib.hid hmd
  have HL := Lib.hid hl
  obtain ⟨W0, hW0⟩ : ∃ W0, W0 = w.alloc (.cells #[.int .u8 (k0 : Nat), .int .u8 (b 0 : Nat), .int .u8 (b 1 : Nat), .int .u8 (b 2 : Nat), .int .u8 (b 3 : Nat), .int .u8 (b 4 : Nat), .int .u8 (b 5 : Nat), .int .u8 (b 6 : Nat), .int .u8 (b 7 : Nat)] 44) := ⟨_, rfl⟩
  have HW := Lib.hid hW0
  have HF0 : Hid (Fut w W0) := Lib.hid (by rw [hW0]; exact Fut.alloc _ _)
  have hn0 : 0 < n := by omega
  have hw1 : IntKind.i64.wrap (2 * S) = 2 * S := IntWalk.i64_in _ ⟨by omega, by omega⟩
  have hw2 : IntKind.i64.wrap (O + 2 * S) = O + 2 * S := IntWalk.i64_in _ ⟨by omega, by omega⟩
  have i1 : ¬ A < O := by omega
  have i2 : ¬ (O + 2 * S ≤ A) := by omega
  clear hmd hb hW0 hc hin v1 v2 v3 v4 v5 v6 v7 v8 v9 v10 v11 hlb hA hO hS hl
  go_enter Try.func7, Try.ntmps7
  go_wp2_with fail
  rw [← HW.out]
  refine (HMD.out W0).mono ?_
  rintro _ w1 ⟨g, c, rfl, hc1, _, hO1, F1⟩
  obtain ⟨_, e1, q1, q2, hR1, _⟩ := hO1.row HL.out hn0
  cases e1
  have HF1 := Lib.hid (HF0.out.trans F1)
  have HR1 := Lib.hid hR1
  have HG1 := Lib.hid (And.intro (Nat.le_trans (RowKit.Below.size HF0.out) q1) q2)
  have HC1 := Lib.hid hc1
  clear hO1 F1 hR1 q1 q2 hc1
  go_wp2_with fail
  refine (HLE.out w1 _ c HC1.out (HR1.out.ints HG1.out.2)).mono ?_
  rintro _ x1 ⟨rfl, T1⟩
  have S1 := Lib.hid T1
  clear T1
  go_wp2_with fail
  refine (HAE.out x1 _ c ((HR1.out.ints HG1.out.2).fut S1.out)).mono ?_
  rintro _ x2 ⟨rfl, T2⟩
  have S2 := Lib.hid (S1.out.trans T2)
  clear T2
  go_wp2_with fail
  refine (HJO.out x2 _ c ((HR1.out.ints HG1.out.2).fut S2.out)).mono ?_
  rintro _ x3 ⟨rfl, T3⟩
  have S3 := Lib.hid (S2.out.trans T3)
  clear T3
  go_wp2_with fail
  refine (HSU.out x3 _ c HC1.out ((HR1.out.ints HG1.out.2).fut S3.out)).mono ?_
  rintro _ _ ⟨rfl, rfl⟩
  have HR3 : Hid (RowN x3 g zs) := Lib.hid (HR1.out.fut S3.out HG1.out.2)
  have HG3 : Hid (w.heap.size ≤ g ∧ g < x3.heap.size) := Lib.hid ⟨HG1.out.1, Nat.lt_of_lt_of_le HG1.out.2 (RowKit.Below.size S3.out)⟩
  have HF3 : Hid (Fut w x3) := Lib.hid (HF1.out.trans S3.out)
  go_wp2_with fail
  refine (HSO.out x3 g c HR3.out HG3.out.2).mono ?_
  rintro _ x4 ⟨rfl, r4, O4⟩
  have HR4 := Lib.hid r4
  have HG4 : Hid (g < x4.heap.size) := Lib.hid (Nat.lt_of_lt_of_le HG3.out.2 O4.1)
  have HF4 := Lib.hid (Only.fut HF3.out O4 HG3.out.1)
  clear r4 O4
  go_wp2_with fail
  refine (HLS.out x4 _ c HC1.out (HR4.out.ints HG4.out)).mono ?_
  rintro _ x5 ⟨rfl, T5⟩
  have HR5 := Lib.hid (HR4.out.fut T5 HG4.out)
  have HG5 : Hid (g < x5.heap.size) := Lib.hid (Nat.lt_of_lt_of_le HG4.out (RowKit.Below.size T5))
  have HF5 := Lib.hid (HF4.out.trans T5)
  clear T5
  go_wp2_with fail
  refine (HRV.out x5 g c HR5.out).mono ?_
  rintro _ x6 ⟨rfl, r6, O6⟩
  have HR6 := Lib.hid r6
  have HG6 : Hid (g < x6.heap.size) := Lib.hid (Nat.lt_of_lt_of_le HG5.out O6.1)
  have HF6 := Lib.hid (Only.fut HF5.out O6 HG3.out.1)
  clear r6 O6
  go_wp2_with fail
  refine (HLR.out x6 _ c HC1.out (HR6.out.ints HG6.out)).mono ?_
  rintro _ x7 ⟨rfl, T7⟩
  have S7 := Lib.hid T7
  clear T7
  go_wp2_with fail
  refine (HAR.out x7 _ c ((HR6.out.ints HG6.out).fut S7.out)).mono ?_
  rintro _ x8 ⟨rfl, T8⟩
  have HWK := Lib.hid (works_any x8)
  have S8 := Lib.hid (S7.out.trans T8)
  clear T8
  go_wp2_with fail
  refine HWK.out.mono ?_
  rintro _ x9 ⟨rfl, T9⟩
  go_wp2_with fail
  go_ret
  exact ⟨rfl, HF6.out.trans (S8.out.trans T9)⟩
end Go.Proofs.Ytjapconhehdcjaa
