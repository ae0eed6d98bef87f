/- bestTops -/
import Derived.Test.YtjapconhehdcjaaSF
import Derived.Deep.DeepCutAuto
import Derived.Deep.AppendLies
namespace Go.Proofs.Ytjapconhehdcjaa
open Go.RowKit Go.Sort
def qG (S : Int) (f : Nat → Nat → Int) (a b : Nat) (k : Nat) : Int := S + f a k + f (k + 1) b
set_option maxRecDepth 100000 in
set_option maxHeartbeats 4000000 in
theorem bestTops_any (a b : Nat) (hab : a ≤ b) (hb : b < 8) (lb lo cap : Nat) (zs : List Int) (hbz : b < zs.length) (hlc : zs.length ≤ cap) (_hl : zs.length ≤ 1000) (hz : ∀ z ∈ zs, 0 ≤ z ∧ z ≤ 1000000) (g : Nat) (f : Nat → Nat → Int) (hf : ∀ i j, 0 ≤ f i j ∧ f i j ≤ 1000000000000000) (w : World) (hA : IntsAt w (some ⟨lb, lo, none⟩) zs) (hT : Tab w g 0 f) :
    Calls Try.prog 92 #[.slice (some ⟨lb, lo, none⟩) zs.length cap, spV (a : Nat) (b : Nat), .pointer (some ⟨g, 0, none⟩)] w fun e w' => ∃ v, e = .returned (.tuple #[.int .i64 (bst (qG ((zs.take (b + 1)).drop a).sum f a b) a (b - a)).1, v]) ∧ Owns w' w.heap.size v (bst (qG ((zs.take (b + 1)).drop a).sum f a b) a (b - a)).2 ∧ Fut w w' := by
  obtain ⟨i0, hi0, hz0, hz1, hz2⟩ := info_parts info3
  obtain ⟨b1, hb1⟩ : ∃ b1, b1 = b + 1 := ⟨_, rfl⟩
  rw [← hb1]
  obtain ⟨S, hS⟩ : ∃ S, S = ((zs.take b1).drop a).sum := ⟨_, rfl⟩
  have hzz : ∀ z ∈ (zs.take b1).drop a, 0 ≤ z ∧ z ≤ 1000000 := fun z hm => hz z (List.mem_of_mem_take (List.mem_of_mem_drop hm))
  have hlen : ((zs.take b1).drop a).length = b1 - a := by rw [List.length_drop, List.length_take, Nat.min_eq_left (by omega)]
  have hSb := sum_le hzz (by omega)
  rw [← hS] at hSb ⊢
  have HSU : Hid (∀ W, Fut w W → Calls Try.prog 116 #[.slice (some ⟨lb, lo + a, none⟩) (b1 - a) (cap - a)] W fun e w' => e = .returned (.int .i64 S) ∧ W = w') := Lib.hid (fun W F => by
    have := sum_any (some ⟨lb, lo + a, none⟩) (cap - a) ((zs.take b1).drop a) W ((ints_mid hA a b1 (by omega)).fut F) (by omega) hzz
    rw [hlen, ← hS] at this
    exact this)
  have HSL : Hid (∀ W, (Instr.sliceAt 22 (.slice (some ⟨lb, lo, none⟩) zs.length cap) (some (.int .i64 a)) (some (.int .i64 b1)) none).run Try.prog W = .ok (.slice (some ⟨lb, lo + a, none⟩) (b1 - a) (cap - a)) W) := Lib.hid (fun W => slice_mid lb lo zs.length cap a b1 (by omega) (by omega) (by omega) W)
  have HTB : Hid (∀ W, Fut w W → Tab W g 0 f) := Lib.hid (fun W F => hT.fut F)
  have hw1 : IntKind.i64.wrap ((b : Int) + 1) = (b1 : Int) := by rw [IntWalk.i64_in _ ⟨by omega, by omega⟩, hb1]; omega
  have HB1 := Lib.hid hb1
  clear hA hT hz hzz hlen hS
  generalize lo + a = lo2 at *
  generalize b1 - a = nl at *
  generalize cap - a = nc at *
  obtain ⟨W0, hW0⟩ : ∃ W0, W0 = w.alloc (.cells #[.int .i64 (a : Nat), .int .i64 (b : Nat)] 69) := ⟨_, rfl⟩
  have HBX : Hid (W0.heap[w.heap.size]? = some (.cells #[.int .i64 (a : Nat), .int .i64 (b : Nat)] 69)) := Lib.hid (by rw [hW0]; exact World.alloc_heap_new w _)
  have HF0 : Hid (Fut w W0) := Lib.hid (by rw [hW0]; exact Fut.alloc _ _)
  have HSV := Lib.hid (sieves_any a b hab (by omega) W0)
  have HW := Lib.hid hW0
  clear hW0 hb1
  obtain ⟨G, hG⟩ : ∃ G, G = qG S f a b := ⟨_, rfl⟩
  rw [← hG]
  have HG := Lib.hid hG
  clear hG
  go_enter Try.func92, Try.ntmps92
  go_upto_region 1 with fail
  rw [← HW.out]
  clear HW
  have hc0 := two_cell HBX.out
  obtain ⟨c0, c1, _⟩ := hc0
  go_wp2_with fail
  refine HSV.out.mono ?_
  rintro _ w1 ⟨v1, rfl, HO1, HF1⟩
  obtain ⟨sa, sc, rfl, hI1⟩ := HO1.ints
  have HI1 := Lib.hid hI1
  have HFw := Lib.hid (HF0.out.trans HF1)
  have HBX1 := Lib.hid (heap_fut HBX.out HF1)
  rw [svP_len] at *
  have HZ1 : Hid (w.heap.size ≤ w1.heap.size) := Lib.hid (RowKit.Below.size HFw.out)
  have hnab : a + (b - a) = b := by omega
  obtain ⟨n, hn⟩ : ∃ n, b - a = n := ⟨_, rfl⟩
  rw [hn] at HI1 hnab
  have HN := Lib.hid hn
  have hnx : (n : Int) ≤ 8 := by omega
  rw [hn]
  clear hn HSV HBX HF0 c0 c1 hI1 HO1 HF1
  go_wp2_with fail
  go_loopw [6, 7, 16] (fun qv tv iv wr => ∃ (i : Nat) (oa : Option Addr) (k oc : Nat) (q : Int), i ≤ n ∧ iv = .int .i64 (i : Nat) ∧ tv = .slice oa k oc ∧ qv = .int .i64 q ∧ Hid (q = (bst G a i).1 ∧ k = (bst G a i).2.length ∧ Owns wr w1.heap.size (.slice oa k oc) (bst G a i).2) ∧ Hid (Fut w1 wr)) (fun _ _ iv _ => n - (intOf iv).toNat)
  case atStart => exact ⟨0, none, 0, 0, 0, by omega, rfl, rfl, rfl, Lib.hid ⟨rfl, rfl, World.ownsRow_nil _ _ _ _⟩, Lib.hid Fut.rfl⟩
  case round =>
    obtain ⟨i, oa, k, oc, q, hi, rfl, rfl, rfl, HO, HF⟩ := hrel
    by_cases hin : i < n
    · have hix : (i : Int) < n := by omega
      obtain ⟨K, hK⟩ : ∃ K, K = a + i := ⟨_, rfl⟩
      obtain ⟨K1, hK1⟩ : ∃ K1, K1 = K + 1 := ⟨_, rfl⟩
      have hKb : K < b := by omega
      have hI := HI1.out.fut HF.out i (by rw [svP_len]; omega)
      rw [svP_nth a n i hin, ← hK] at hI
      obtain ⟨b2, o2, rfl, hb2, cs⟩ := hI
      have HPT : Hid (∀ W, Calls Try.prog 95 #[spV (a : Nat) (b : Nat), .int .i64 (K : Nat)] W fun e w' => e = .returned (.tuple #[spV (a : Nat) (K : Nat), spV (K1 : Nat) (b : Nat)]) ∧ Fut W w') := Lib.hid (fun W => by
        have := parts_any (a : Nat) (b : Nat) (K : Nat) ⟨by omega, by omega⟩ W
        rw [hK1]
        exact this)
      have HO1 : Hid (∀ W, Fut w W → Calls Try.prog 67 #[.pointer (some ⟨g, 0, none⟩), spV (a : Nat) (K : Nat)] W fun e w' => e = .returned (.int .i64 (f a K)) ∧ Fut W w') := Lib.hid (fun W F => of_any g 0 a K (by omega) (by omega) _ W (HTB.out W F a K (by omega) (by omega)).1)
      have HO2 : Hid (∀ W, Fut w W → Calls Try.prog 67 #[.pointer (some ⟨g, 0, none⟩), spV (K1 : Nat) (b : Nat)] W fun e w' => e = .returned (.int .i64 (f K1 b)) ∧ Fut W w') := Lib.hid (fun W F => of_any g 0 K1 b (by omega) (by omega) _ W (HTB.out W F K1 b (by omega) (by omega)).1)
      have hf1 := hf a K
      have hf2 := hf K1 b
      have HQ : Hid (G (a + i) = S + f a K + f K1 b) := Lib.hid (by rw [HG.out, ← hK, hK1]; rfl)
      have HK := Lib.hid hK
      generalize f a K = x1 at *
      generalize f K1 b = x2 at *
      have hwa : IntKind.i64.wrap (S + x1) = S + x1 := IntWalk.i64_in _ ⟨by omega, by omega⟩
      have hwb : IntKind.i64.wrap (S + x1 + x2) = S + x1 + x2 := IntWalk.i64_in _ ⟨by omega, by omega⟩
      have HBX2 := Lib.hid (heap_fut HBX1.out HF.out)
      have hc0 := two_cell HBX2.out
      obtain ⟨c0, c1, _⟩ := hc0
      have hwi : IntKind.i64.wrap ((i : Int) + 1) = ((i + 1 : Nat) : Int) := by rw [IntWalk.i64_in _ ⟨by omega, by omega⟩]; omega
      clear hK hK1
      go_wp2_with fail
      refine (HPT.out _).mono ?_
      rintro _ w2 ⟨rfl, F2⟩
      go_upto_region 5 with fail
      have FA : Fut w2 ((w2.alloc (Obj.cells #[.int .i64 (a : Nat), .int .i64 (K : Nat)] 69)).alloc (Obj.cells #[.int .i64 (K1 : Nat), .int .i64 (b : Nat)] 69)) := (Fut.alloc _ _).trans (Fut.alloc _ _)
      have g2 : ((w2.alloc (Obj.cells #[.int .i64 (a : Nat), .int .i64 (K : Nat)] 69)).alloc (Obj.cells #[.int .i64 (K1 : Nat), .int .i64 (b : Nat)] 69)).heap[w2.heap.size]? = some (.cells #[.int .i64 (a : Nat), .int .i64 (K : Nat)] 69) := heap_fut (World.alloc_heap_new w2 _) (Fut.alloc _ _)
      have g3 : ((w2.alloc (Obj.cells #[.int .i64 (a : Nat), .int .i64 (K : Nat)] 69)).alloc (Obj.cells #[.int .i64 (K1 : Nat), .int .i64 (b : Nat)] 69)).heap[w2.heap.size + 1]? = some (.cells #[.int .i64 (K1 : Nat), .int .i64 (b : Nat)] 69) := by
        have := World.alloc_heap_new (w2.alloc (Obj.cells #[.int .i64 (a : Nat), .int .i64 (K : Nat)] 69)) (Obj.cells #[.int .i64 (K1 : Nat), .int .i64 (b : Nat)] 69)
        rw [World.size_alloc] at this
        exact this
      have HBX3 := heap_fut (heap_fut HBX2.out F2) FA
      have HF3 := Lib.hid ((HF.out.trans F2).trans FA)
      have HO3 := Lib.hid (HO.out.2.2.fut (F2.trans FA))
      have HOL := Lib.hid (And.intro HO.out.1 HO.out.2.1)
      generalize (w2.alloc (Obj.cells #[.int .i64 (a : Nat), .int .i64 (K : Nat)] 69)).alloc (Obj.cells #[.int .i64 (K1 : Nat), .int .i64 (b : Nat)] 69) = w3 at *
      obtain ⟨p0, p1, _⟩ := two_cell HBX3
      obtain ⟨p2, p3, _⟩ := two_cell g2
      obtain ⟨p4, p5, _⟩ := two_cell g3
      clear HF HO HBX2 HBX3 FA F2 g2 g3 c0 c1 cs
      have y0 := cell_after p0
      have y1 := cell_after p1
      have y2 := cell_after p2
      have y3 := cell_after p3
      have y4 := cell_after p4
      have y5 := cell_after p5
      have HS2 := Lib.hid (fun p : After w3 => HSU.out p.w' ((HFw.out.trans HF3.out).trans p.F))
      have HA2 := Lib.hid (fun p : After w3 => HO1.out p.w' ((HFw.out.trans HF3.out).trans p.F))
      have HB2 := Lib.hid (fun p : After w3 => HO2.out p.w' ((HFw.out.trans HF3.out).trans p.F))
      have hsl := HSL.out
      refine region_fut (by kernel_rfl) (by kernel_rfl) ?_
      repeat (go_big_quiet_step (first | with_reducible rfl | (with_reducible (go_at_call 116; rename_i p; exact after_same (HS2.out p))) | (with_reducible (go_at_call 67; rename_i p; exact after_of (HA2.out p))) | (with_reducible (go_at_call 67; rename_i p; exact after_of (HB2.out p)))))
      refine wpQuiet_nil ?_
      intro w4 hw'
      have F4 := after_fut hw'
      have HF4 := Lib.hid (HF3.out.trans F4)
      have HO4 := Lib.hid (HO3.out.fut F4)
      clear hw' F4 HF3 HO3 y0 y1 y2 y3 y4 y5 p0 p1 p2 p3 p4 p5 HS2 HA2 HB2 hsl HO1 HO2 HPT
      clear hwa hwb hf1 hf2
      generalize S + x1 + x2 = nq at *
      by_cases hk0 : k = 0
      · have HOR : Hid ((bst G a i).2 = [] ∨ G (a + i) < (bst G a i).1) := Lib.hid (.inl (List.length_eq_zero_iff.1 (HOL.out.2.symm.trans hk0)))
        have hk0x : (k : Int) = 0 := by omega
        clear hk0
        have FA : Fut w4 (w4.alloc (.cells #[.int .i64 (K : Nat)] 3)) := Fut.alloc _ _
        have HOW : Hid ((w4.alloc (.cells #[.int .i64 (K : Nat)] 3)).ownsRow w1.heap.size 3 1 (.slice none 0 0) 0 []) := Lib.hid (by exact World.ownsRow_nil _ _ _ _)
        have HFA := Lib.hid (HF4.out.trans FA)
        have HZA : Hid (w1.heap.size ≤ (w4.alloc (.cells #[.int .i64 (K : Nat)] 3)).heap.size) := Lib.hid (RowKit.Below.size HFA.out)
        clear FA
        go_wp2_with (at_builtin; refine wpList_append_lies _ rfl _ _ 22 rfl w1.heap.size 3 i0 (.int .i64 0) 1 8 Try.underlying22 hi0 hz0 hz1 hz2 rfl (by decide) (.slice none 0 0) 0 [] rfl HOW.out ⟨w4.heap.size, 0, none⟩ 1 1 [.int .i64 (K : Nat)] rfl rfl (cell_one (by simp [go_sem])) (by simp [Value.oneCell']) (by omega) (by unfold maxLen; omega) (by omega) HZA.out _ rfl ?_)
        intro g8 c8 w8 hown8 hgrow8 hat8 _
        have HX8 : Hid (nq = (bst G a (i + 1)).1 ∧ 0 + 1 = (bst G a (i + 1)).2.length ∧ Owns w8 w1.heap.size (.slice (some ⟨g8, 0, none⟩) (0 + 1) c8) (bst G a (i + 1)).2) := Lib.hid (by
          rw [bst_new HOR.out, HQ.out]
          refine ⟨rfl, rfl, ?_⟩
          rw [← HK.out]
          exact hown8)
        have HF8 : Hid (Fut w1 w8) := Lib.hid (fut_own HFA.out hgrow8 (fun q hq => (World.ownsRow.lt HOW.out q hq).1))
        clear hown8 hgrow8 hat8 HOW HFA HZA
        go_wp2_with fail
        go_roundw
        case rel => first
          | exact ⟨i + 1, _, _, c8, _, by omega, rfl, rfl, rfl, HX8, HF8⟩
          | ((repeat apply Exists.intro); exact ⟨⟨i + 1, _, _, c8, _, by omega, rfl, rfl, rfl, HX8, HF8⟩, rfl⟩)
        case measure => simp [intOf]; omega
      have hk0x : ¬ (k : Int) = 0 := by omega
      by_cases hlt : nq < q
      · have HOR : Hid ((bst G a i).2 = [] ∨ G (a + i) < (bst G a i).1) := Lib.hid (.inr (by rw [HQ.out, ← HOL.out.1]; exact hlt))
        have FA : Fut w4 (w4.alloc (.cells #[.int .i64 (K : Nat)] 3)) := Fut.alloc _ _
        have HOW : Hid ((w4.alloc (.cells #[.int .i64 (K : Nat)] 3)).ownsRow w1.heap.size 3 1 (.slice none 0 0) 0 []) := Lib.hid (by exact World.ownsRow_nil _ _ _ _)
        have HFA := Lib.hid (HF4.out.trans FA)
        have HZA : Hid (w1.heap.size ≤ (w4.alloc (.cells #[.int .i64 (K : Nat)] 3)).heap.size) := Lib.hid (RowKit.Below.size HFA.out)
        clear FA
        go_wp2_with (at_builtin; refine wpList_append_lies _ rfl _ _ 22 rfl w1.heap.size 3 i0 (.int .i64 0) 1 8 Try.underlying22 hi0 hz0 hz1 hz2 rfl (by decide) (.slice none 0 0) 0 [] rfl HOW.out ⟨w4.heap.size, 0, none⟩ 1 1 [.int .i64 (K : Nat)] rfl rfl (cell_one (by simp [go_sem])) (by simp [Value.oneCell']) (by omega) (by unfold maxLen; omega) (by omega) HZA.out _ rfl ?_)
        intro g8 c8 w8 hown8 hgrow8 hat8 _
        have HX8 : Hid (nq = (bst G a (i + 1)).1 ∧ 0 + 1 = (bst G a (i + 1)).2.length ∧ Owns w8 w1.heap.size (.slice (some ⟨g8, 0, none⟩) (0 + 1) c8) (bst G a (i + 1)).2) := Lib.hid (by
          rw [bst_new HOR.out, HQ.out]
          refine ⟨rfl, rfl, ?_⟩
          rw [← HK.out]
          exact hown8)
        have HF8 : Hid (Fut w1 w8) := Lib.hid (fut_own HFA.out hgrow8 (fun q hq => (World.ownsRow.lt HOW.out q hq).1))
        clear hown8 hgrow8 hat8 HOW HFA HZA
        go_wp2_with fail
        go_roundw
        case rel => first
          | exact ⟨i + 1, _, _, c8, _, by omega, rfl, rfl, rfl, HX8, HF8⟩
          | ((repeat apply Exists.intro); exact ⟨⟨i + 1, _, _, c8, _, by omega, rfl, rfl, rfl, HX8, HF8⟩, rfl⟩)
        case measure => simp [intOf]; omega
      have HNO : Hid (¬ ((bst G a i).2 = [] ∨ G (a + i) < (bst G a i).1)) := Lib.hid (by
        rintro (h | h)
        · rw [h] at HOL; exact hk0 HOL.out.2
        · rw [HQ.out, ← HOL.out.1] at h; exact hlt h)
      have hkb : k ≤ 8 := by have := bst_len G a i; have := HOL.out.2; omega
      by_cases hqq : nq = q
      · have HEQ : Hid (G (a + i) = (bst G a i).1) := Lib.hid (by rw [HQ.out, ← HOL.out.1]; exact hqq)
        have FA : Fut w4 (w4.alloc (.cells #[.int .i64 (K : Nat)] 3)) := Fut.alloc _ _
        have HOW : Hid ((w4.alloc (.cells #[.int .i64 (K : Nat)] 3)).ownsRow w1.heap.size 3 1 (.slice oa k oc) k ((bst G a i).2.map (Value.int .i64))) := Lib.hid (by have h := HO4.out.fut FA; unfold Owns at h; rwa [← HOL.out.2] at h)
        have HFA := Lib.hid (HF4.out.trans FA)
        have HZA : Hid (w1.heap.size ≤ (w4.alloc (.cells #[.int .i64 (K : Nat)] 3)).heap.size) := Lib.hid (RowKit.Below.size HFA.out)
        clear FA
        go_wp2_with (at_builtin; refine wpList_append_lies _ rfl _ _ 22 rfl w1.heap.size 3 i0 (.int .i64 0) 1 8 Try.underlying22 hi0 hz0 hz1 hz2 rfl (by decide) (.slice oa k oc) k ((bst G a i).2.map (Value.int .i64)) rfl HOW.out ⟨w4.heap.size, 0, none⟩ 1 1 [.int .i64 (K : Nat)] rfl rfl (cell_one (by simp [go_sem])) (by simp [Value.oneCell']) (by omega) (by unfold maxLen; omega) (by omega) HZA.out _ rfl ?_)
        intro g8 c8 w8 hown8 hgrow8 hat8 _
        have HX8 : Hid (q = (bst G a (i + 1)).1 ∧ k + 1 = (bst G a (i + 1)).2.length ∧ Owns w8 w1.heap.size (.slice (some ⟨g8, 0, none⟩) (k + 1) c8) (bst G a (i + 1)).2) := Lib.hid (by
          rw [bst_eq HNO.out HEQ.out]
          refine ⟨HOL.out.1, by simp [HOL.out.2], ?_⟩
          unfold Owns
          rw [List.length_append, ← HOL.out.2, List.map_append, ← HK.out]
          exact hown8)
        have HF8 : Hid (Fut w1 w8) := Lib.hid (fut_own HFA.out hgrow8 (fun q hq => (World.ownsRow.lt HOW.out q hq).1))
        clear hown8 hgrow8 hat8 HOW HFA HZA
        go_wp2_with fail
        go_roundw
        case rel => first
          | exact ⟨i + 1, _, _, c8, _, by omega, rfl, rfl, rfl, HX8, HF8⟩
          | ((repeat apply Exists.intro); exact ⟨⟨i + 1, _, _, c8, _, by omega, rfl, rfl, rfl, HX8, HF8⟩, rfl⟩)
        case measure => simp [intOf]; omega
      · have HEQ : Hid (G (a + i) ≠ (bst G a i).1) := Lib.hid (by rw [HQ.out, ← HOL.out.1]; exact hqq)
        have HX8 : Hid (q = (bst G a (i + 1)).1 ∧ k = (bst G a (i + 1)).2.length ∧ Owns w4 w1.heap.size (.slice oa k oc) (bst G a (i + 1)).2) := Lib.hid (by rw [bst_gt HNO.out HEQ.out]; exact ⟨HOL.out.1, HOL.out.2, HO4.out⟩)
        go_wp2_with fail
        go_roundw
        case rel => first
          | exact ⟨i + 1, _, _, oc, _, by omega, rfl, rfl, rfl, HX8, HF4⟩
          | ((repeat apply Exists.intro); exact ⟨⟨i + 1, _, _, oc, _, by omega, rfl, rfl, rfl, HX8, HF4⟩, rfl⟩)
        case measure => simp [intOf]; omega
    · obtain rfl : i = n := by omega
      go_wp2_with fail
      go_ret2
      obtain ⟨e1, _, e2⟩ := HO.out
      exact ⟨_, by rw [HN.out, e1]; rfl, by rw [HN.out]; exact e2.base HZ1.out, HFw.out.trans HF.out⟩
end Go.Proofs.Ytjapconhehdcjaa
