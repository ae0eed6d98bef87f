/- SieveBest 8 -/
import Derived.Test.YtjapconhehdcjaaWG
import Derived.Test.YtjapconhehdcjaaVH
import Derived.Test.YtjapconhehdcjaaVE
import Derived.Test.YtjapconhehdcjaaVD
import Derived.Test.YtjapconhehdcjaaVO
import Derived.Deep.DeepCutAuto
namespace Go.Proofs.Ytjapconhehdcjaa
open Go.RowKit Go.Sort
theorem quest_call2 (n m : Nat) (zs ts : List Int) (hn : zs.length = n) (hm : ts.length = m) (h8 : n ≤ 8) (m8 : m ≤ 8) (v : Int) (h1 : questC zs ts = 0) (h2 : questE zs ts = v) (W : World) (a b : Option Addr) (c d : Nat) (hd : m ≤ d) (hA : IntsAt W a zs) (hB : IntsAt W b ts) : Calls Try.prog 41 #[.slice a n c, .slice b m d] W fun e w' => e = .returned (.tuple #[.int .i64 v, .int .i64 0]) ∧ Fut W w' := by
  subst hn; subst hm
  exact ex_2 (quest_any a c zs b d ts W hA hB (by omega) hd (by omega)) v 0 h2 h1
theorem tops_call (n : Nat) (zs : List Int) (hn : zs.length = n) (h8 : n ≤ 8) (x y k : Int) (h1 : topsC zs = k) (h2 : topsE zs = (x, y)) (W : World) (a : Option Addr) (c : Nat) (hc : n ≤ c) (hA : IntsAt W a zs) : Calls Try.prog 27 #[.slice a n c] W fun e w' => e = .returned (.tuple #[.int .i64 x, .int .i64 y, .int .i64 k]) ∧ Fut W w' := by
  subst hn
  refine (tops_any a c zs W hA hc (by omega)).mono ?_
  rintro e w' ⟨rfl, F⟩
  rw [h1, h2]
  exact ⟨rfl, F⟩
theorem five_new (w1 : World) (L : Value) {S B2 B3 B4 B5 : Nat} (h1 : w1.heap.size = S) (h2 : S + 1 = B2) (h3 : B2 + 1 = B3) (h4 : B3 + 1 = B4) (h5 : B4 + 1 = B5) {W : World} (hW : W = ((((w1.alloc (.cells #[L] 22)).alloc (.cells #[.int .i64 (-1)] 3)).alloc (.cells #[.int .i64 0] 3)).alloc (.cells #[.slice none 0 0] 22)).alloc (.cells #[.slice none 0 0] 22)) :
    St4 B2 B3 B4 B5 W (-1) ((0 : Nat) : Int) (.slice none 0 0) (.slice none 0 0) ∧ CellZ (Z4 B2 B3 B4 B5) W S L ∧ Fut w1 W ∧ W.heap.size = B5 + 1 := by
  subst h1; subst h2; subst h3; subst h4; subst h5
  obtain ⟨V1, e1⟩ : ∃ V, V = w1.alloc (.cells #[L] 22) := ⟨_, rfl⟩
  obtain ⟨V2, e2⟩ : ∃ V, V = V1.alloc (.cells #[.int .i64 (-1)] 3) := ⟨_, rfl⟩
  obtain ⟨V3, e3⟩ : ∃ V, V = V2.alloc (.cells #[.int .i64 0] 3) := ⟨_, rfl⟩
  obtain ⟨V4, e4⟩ : ∃ V, V = V3.alloc (.cells #[.slice none 0 0] 22) := ⟨_, rfl⟩
  rw [← e1, ← e2, ← e3, ← e4] at hW
  have F1 : Fut w1 V1 := by rw [e1]; exact Fut.alloc _ _
  have F2 : Fut V1 V2 := by rw [e2]; exact Fut.alloc _ _
  have F3 : Fut V2 V3 := by rw [e3]; exact Fut.alloc _ _
  have F4 : Fut V3 V4 := by rw [e4]; exact Fut.alloc _ _
  have F5 : Fut V4 W := by rw [hW]; exact Fut.alloc _ _
  have s1 : V1.heap.size = w1.heap.size + 1 := by rw [e1, World.size_alloc]
  have s2 : V2.heap.size = w1.heap.size + 1 + 1 := by rw [e2, World.size_alloc, s1]
  have s3 : V3.heap.size = w1.heap.size + 1 + 1 + 1 := by rw [e3, World.size_alloc, s2]
  have s4 : V4.heap.size = w1.heap.size + 1 + 1 + 1 + 1 := by rw [e4, World.size_alloc, s3]
  have s5 : W.heap.size = w1.heap.size + 1 + 1 + 1 + 1 + 1 := by rw [hW, World.size_alloc, s4]
  have k1 : V1.heap[w1.heap.size]? = some (.cells #[L] 22) := by rw [e1]; exact World.alloc_heap_new _ _
  have k2 : V2.heap[w1.heap.size + 1]? = some (.cells #[.int .i64 (-1)] 3) := by rw [e2, ← s1]; exact World.alloc_heap_new _ _
  have k3 : V3.heap[w1.heap.size + 1 + 1]? = some (.cells #[.int .i64 0] 3) := by rw [e3, ← s2]; exact World.alloc_heap_new _ _
  have k4 : V4.heap[w1.heap.size + 1 + 1 + 1]? = some (.cells #[.slice none 0 0] 22) := by rw [e4, ← s3]; exact World.alloc_heap_new _ _
  have k5 : W.heap[w1.heap.size + 1 + 1 + 1 + 1]? = some (.cells #[.slice none 0 0] 22) := by rw [hW, ← s4]; exact World.alloc_heap_new _ _
  have F15 := F2.trans (F3.trans (F4.trans F5))
  refine ⟨⟨⟨by omega, by omega, by omega, by omega, by omega, by omega⟩, below_heap k2 (F3.trans (F4.trans F5)) (heap_lt1 k2), below_heap k3 (F4.trans F5) (heap_lt1 k3), below_heap k4 F5 (heap_lt1 k4), k5⟩, ⟨by omega, by unfold Z4; omega, cell_of1 (below_heap k1 F15 (heap_lt1 k1))⟩, F1.trans F15, s5⟩
set_option maxRecDepth 100000 in
set_option maxHeartbeats 8000000 in
theorem law8_any (k0 : Nat) (b : Nat → Nat) (hk : k0 ≤ 255) (hb : ∀ j, b j ≤ 255) (w : World) :
    Calls Try.prog 8 #[dustV k0 b] w fun e w' => e = .returned (.bool true) ∧ Fut w w' := by
  obtain ⟨n, zs, hl, hn, hc, hin, hmd⟩ := dmade_call k0 b hk hb 100 (by omega)
  unfold dustV at hmd ⊢
  have HMD := Lib.hid hmd
  have HL := Lib.hid hl
  have HIN := Lib.hid hin
  have HCK := Lib.hid hc
  obtain ⟨W0, hW0⟩ : ∃ W0, W0 = w.alloc (.cells #[.int .u8 (k0 : Nat), .int .u8 (b 0 : Nat), .int .u8 (b 1 : Nat), .int .u8 (b 2 : Nat), .int .u8 (b 3 : Nat), .int .u8 (b 4 : Nat), .int .u8 (b 5 : Nat), .int .u8 (b 6 : Nat), .int .u8 (b 7 : Nat)] 44) := ⟨_, rfl⟩
  have HW := Lib.hid hW0
  have HF0 : Hid (Fut w W0) := Lib.hid (by rw [hW0]; exact Fut.alloc _ _)
  have hn0 : 0 < n := by omega
  have hnx : (n : Int) ≤ 8 := by omega
  have hn00 : (0 : Int) < n := by omega
  obtain ⟨n1, hn1⟩ : ∃ n1, n - 1 = n1 := ⟨_, rfl⟩
  have hw1 : IntKind.i64.wrap ((n : Int) - 1) = (n1 : Int) := by rw [IntWalk.i64_in _ ⟨by omega, by omega⟩]; omega
  have HN1 := Lib.hid hn1
  clear hmd hb hW0 hc hin hl hn1
  go_enter Try.func8, Try.ntmps8
  go_wp2_with fail
  rw [← HW.out]
  refine (HMD.out W0).mono ?_
  rintro _ w1 ⟨g1, c1, rfl, hc1, _, hO1, F1⟩
  obtain ⟨_, e1, q1, q2, hR1, _⟩ := hO1.row HL.out hn0
  cases e1
  have HF1 := Lib.hid (HF0.out.trans F1)
  have HR1 := Lib.hid hR1
  have HG1 := Lib.hid q2
  have HC1 := Lib.hid hc1
  clear hO1 F1 hR1 q1 q2 hc1
  go_wp2_with fail
  obtain ⟨S, hS⟩ : ∃ x, w1.heap.size = x := ⟨_, rfl⟩
  rw [hS]
  obtain ⟨B2, hB2⟩ : ∃ x, S + 1 = x := ⟨_, rfl⟩
  rw [hB2]
  obtain ⟨B3, hB3⟩ : ∃ x, B2 + 1 = x := ⟨_, rfl⟩
  rw [hB3]
  obtain ⟨B4, hB4⟩ : ∃ x, B3 + 1 = x := ⟨_, rfl⟩
  rw [hB4]
  obtain ⟨B5, hB5⟩ : ∃ x, B4 + 1 = x := ⟨_, rfl⟩
  rw [hB5]
  obtain ⟨W, hW⟩ : ∃ W, W = ((((w1.alloc (.cells #[.slice (some ⟨g1, 0, none⟩) n c1] 22)).alloc (.cells #[.int .i64 (-1)] 3)).alloc (.cells #[.int .i64 0] 3)).alloc (.cells #[.slice none 0 0] 22)).alloc (.cells #[.slice none 0 0] 22) := ⟨_, rfl⟩
  obtain ⟨t1, t2, t3, t4⟩ := five_new w1 _ hS hB2 hB3 hB4 hB5 hW
  rw [← hW]
  have hgz : ¬ Z4 B2 B3 B4 B5 g1 := by have := HG1.out; unfold Z4; omega
  have hI : IntsZ (Z4 B2 B3 B4 B5) W (some ⟨g1, 0, none⟩) zs := IntsZ.far ((HR1.out.ints HG1.out).fut t3) hgz
  have hP0 : P8 zs g1 n c1 S B2 B3 B4 B5 [] W := ⟨-1, 0, none, none, _, _, Sv.st_nil zs, t1, ⟨none, 0, 0, rfl, rfl⟩, ⟨none, 0, 0, rfl, rfl⟩, t2, hI⟩
  have hC := cb8 (zs := zs) (n := n) (fun z hz => by have := HIN.out z hz; omega) HL.out hn g1 c1 S B2 B3 B4 B5
  have HAL := Lib.hid (all_ok n1 0 n1 (Z4 B2 B3 B4 B5) 51 _ (P8 zs g1 n c1 S B2 B3 B4 B5) (by omega) (by have := HN1.out; omega) (by rw [HN1.out] at hC; exact hC) W (fun q hq => by unfold Z4 at hq; omega) hP0)
  have HF2 := Lib.hid (HF1.out.trans t3)
  have HBZ : Hid (∀ q, Z4 B2 B3 B4 B5 q → w.heap.size ≤ q) := Lib.hid (fun q hq => by have := RowKit.Below.size HF1.out; unfold Z4 at hq; omega)
  have HSZ : Hid (w.heap.size ≤ W.heap.size) := Lib.hid (RowKit.Below.size HF2.out)
  clear hC hP0 hI hgz t1 t2 t3 t4 hW hS hB2 hB3 hB4 hB5 HR1 HG1 HF1
  refine HAL.out.mono ?_
  rintro _ w2 ⟨rfl, bz, v, m, hd, lt, fv, lv, k1, k2, k3, k4, k5, k6⟩
  rw [← HN1.out, show n - 1 = zs.length - 1 by rw [HL.out]] at k1
  obtain ⟨v1, v2, t, u, rfl, rfl, v3, v4, v5, v6, v7, v8, v9⟩ := best_vals HCK.out k1
  obtain ⟨fl, fn, fc, rfl, k31, k32⟩ := k3
  obtain ⟨ll, ln, lc, rfl, k41, k42⟩ := k4
  have HF3 : Hid (Fut w w2) := Lib.hid (HF2.out.trans' (bz.below w.heap.size HSZ.out HBZ.out) (Nat.le_refl _))
  have hfn : fn ≤ 8 := by rw [← k32, lst_len']; have := HL.out; omega
  have HTS := Lib.hid (show nth (t.lst 0) 0 = nth (t.lst 0) 0 from rfl)
  have HS := Lib.hid k2
  have HK := Lib.hid k5
  have HI := Lib.hid k6
  have HFI := Lib.hid k31
  have HLI := Lib.hid k41
  have HBE := Lib.hid (fun W => best_call2 n zs HL.out hn.2 HCK.out _ fn v5 k32 W)
  have HLE := Lib.hid (fun W => least_call n zs HL.out hn.2 HCK.out v v1 W)
  have HCO := Lib.hid (fun W => count_call n zs HL.out hn.2 HCK.out _ v2 W)
  have HQU := Lib.hid (fun W => quest_call2 n fn zs _ HL.out k32 hn.2 hfn v v6 v7 W)
  have HSA := Lib.hid (fun W => same_call fn _ k32 (by omega) W)
  have HTO : Hid (n = 1 → ∀ W, _) := Lib.hid (fun h => fun W => tops_call n zs HL.out hn.2 0 0 2 (tops_one HCK.out (by rw [HL.out, h])).1 (tops_one HCK.out (by rw [HL.out, h])).2 W)
  have HTT : Hid (n ≠ 1 → ∀ W, _) := Lib.hid (fun h => fun W => tops_call n zs HL.out hn.2 (nth (t.lst 0) 0) (nth (u.lst 0) 0) 0 (tops_first HCK.out (n := n - 2) (by rw [HL.out]; omega) v8 v9).1 (tops_first HCK.out (n := n - 2) (by rw [HL.out]; omega) v8 v9).2 W)
  have HNZ : Hid (n ≠ 1 → 0 < (t.lst 0).length ∧ 0 < (u.lst 0).length) := Lib.hid (fun h => by rw [lst_len', lst_len']; have := HL.out; omega)
  obtain ⟨TL, hTL⟩ : ∃ x, t.lst 0 = x := ⟨_, rfl⟩
  obtain ⟨UL, hUL⟩ : ∃ x, u.lst 0 = x := ⟨_, rfl⟩
  rw [hTL] at HFI HBE HQU HSA HTT HNZ
  rw [hUL] at HLI HTT HNZ
  have cA := HK.out.2.2
  have HFN := Lib.hid (And.intro (congrArg List.length hTL) (congrArg List.length hUL))
  rw [k32, k42] at HFN
  clear k1 k2 k5 k6 k31 k32 k41 k42 v1 v2 v3 v4 v5 v6 v7 v8 v9 hTL hUL bz HAL HF2 HBZ HSZ HTS HIN HCK
  go_wp2_with fail
  refine (HBE.out w2 _ c1 HC1.out HI.out.here).mono ?_
  rintro _ w3 ⟨l3, d3, rfl, hd3, I3, F3⟩
  have G3 := Lib.hid F3
  have I3 := Lib.hid I3
  have HD3 := Lib.hid hd3
  clear F3 cA hd3
  have cA := (HK.out.fut G3.out).2.2
  go_wp2_with fail
  refine (HLE.out w3 _ c1 HC1.out (HI.out.fut G3.out).here).mono ?_
  rintro _ w4 ⟨rfl, F4⟩
  have G4 := Lib.hid (G3.out.trans F4)
  have I4 := Lib.hid (I3.out.fut F4)
  clear F4 cA
  have cA := (HK.out.fut G4.out).2.2
  go_wp2_with fail
  refine (HCO.out w4 _ c1 HC1.out (HI.out.fut G4.out).here).mono ?_
  rintro _ w5 ⟨rfl, F5⟩
  have G5 := Lib.hid (G4.out.trans F5)
  have I5 := Lib.hid (I4.out.fut F5)
  clear F5 cA
  have cA := (HK.out.fut G5.out).2.2
  go_wp2_with fail
  refine (HQU.out w5 _ l3 c1 d3 HD3.out (HI.out.fut G5.out).here I5.out).mono ?_
  rintro _ w6 ⟨rfl, F6⟩
  have G6 := Lib.hid (G5.out.trans F6)
  have I6 := Lib.hid (I5.out.fut F6)
  clear F6 cA
  have cA := (HK.out.fut G6.out).2.2
  go_wp2_with fail
  clear cA
  by_cases hone : n = 1
  · refine (HTO.out hone w6 _ c1 HC1.out (HI.out.fut G6.out).here).mono ?_
    rintro _ w7 ⟨rfl, F7⟩
    have G7 := Lib.hid (G6.out.trans F7)
    have I7 := Lib.hid (I6.out.fut F7)
    have b2 := cell_of1 (HS.out.fut G7.out).h2
    have b3 := cell_of1 (HS.out.fut G7.out).h3
    have b4 := cell_of1 (HS.out.fut G7.out).h4
    clear F7
    go_wp2_with fail
    refine (HSA.out w7 _ _ d3 fc I7.out (HFI.out.fut G7.out).here).mono ?_
    rintro _ w8 ⟨rfl, F8⟩
    have G8 := Lib.hid (G7.out.trans F8)
    clear b2 b3 b4 F8
    have b2 := cell_of1 (HS.out.fut G8.out).h2
    have b3 := cell_of1 (HS.out.fut G8.out).h3
    have HWK := Lib.hid (works_any w8)
    subst hone
    go_wp2_with fail
    refine HWK.out.mono ?_
    rintro _ w9 ⟨rfl, F9⟩
    go_wp2_with fail
    go_ret
    exact ⟨rfl, HF3.out.trans (G8.out.trans F9)⟩
  · refine (HTT.out hone w6 _ c1 HC1.out (HI.out.fut G6.out).here).mono ?_
    rintro _ w7 ⟨rfl, F7⟩
    have G7 := Lib.hid (G6.out.trans F7)
    have I7 := Lib.hid (I6.out.fut F7)
    have b2 := cell_of1 (HS.out.fut G7.out).h2
    have b3 := cell_of1 (HS.out.fut G7.out).h3
    have b4 := cell_of1 (HS.out.fut G7.out).h4
    clear F7
    go_wp2_with fail
    refine (HSA.out w7 _ _ d3 fc I7.out (HFI.out.fut G7.out).here).mono ?_
    rintro _ w8 ⟨rfl, F8⟩
    have G8 := Lib.hid (G7.out.trans F8)
    clear b2 b3 b4 F8
    have b2 := cell_of1 (HS.out.fut G8.out).h2
    have b3 := cell_of1 (HS.out.fut G8.out).h3
    have b4 := cell_of1 (HS.out.fut G8.out).h4
    have b5 := cell_of1 (HS.out.fut G8.out).h5
    obtain ⟨ba, oa, rfl, _, ca⟩ := (HFI.out.fut G8.out).here 0 (HNZ.out hone).1
    obtain ⟨bb, ob, rfl, _, cb⟩ := (HLI.out.fut G8.out).here 0 (HNZ.out hone).2
    rw [Nat.add_zero] at ca cb
    have HWK := Lib.hid (works_any w8)
    have hnn : ¬ (n : Int) = 1 := by omega
    have hnb : ((n : Int) == 1) = false := by simpa using hnn
    have hfp := (HNZ.out hone)
    have hfn2 := HFN.out
    have hfa : (0 : Int) < fn := by omega
    have hla : (0 : Int) < ln := by omega
    have hfa2 : 0 < fn := by omega
    have hla2 : 0 < ln := by omega
    clear hfp hfn2 hnn
    go_wp2_with fail
    refine HWK.out.mono ?_
    rintro _ w9 ⟨rfl, F9⟩
    go_wp2_with fail
    go_ret
    exact ⟨rfl, HF3.out.trans (G8.out.trans F9)⟩
end Go.Proofs.Ytjapconhehdcjaa
