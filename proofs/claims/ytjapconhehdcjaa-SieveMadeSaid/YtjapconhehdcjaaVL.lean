/- SieveMade 11 -/
import Derived.Test.YtjapconhehdcjaaVC
import Derived.Test.YtjapconhehdcjaaVJ
import Derived.Test.YtjapconhehdcjaaVK
import Derived.Test.YtjapconhehdcjaaVB
import Derived.Test.YtjapconhehdcjaaVH
import Derived.Deep.DeepCutAuto
import Derived.Deep.AppendLies
namespace Go.Proofs.Ytjapconhehdcjaa
open Go.RowKit Go.Sort
theorem del_call (g n n1 c k k1 : Nat) (zs : List Int) (hn : zs.length = n) (hn1 : n1 + 1 = n) (hk1 : k1 = k + 1) (hk : k1 < n) (w : World) (h : RowN w g zs) (hc : n ≤ c) (hc2 : c ≤ 9223372036854775807) : Calls Try.prog 58 #[.slice (some ⟨g, 0, none⟩) n c, .int .i64 (k1 : Nat), .int .i64 ((k1 : Int) + 1)] w fun e w' => e = .returned (.slice (some ⟨g, 0, none⟩) n1 c) ∧ RowN w' g (zs.take (k + 1) ++ zs.drop (k + 2)) ∧ RowKit.Below g w w' ∧ w.heap.size ≤ w'.heap.size := by
  subst hn; subst hk1
  refine (del_any g c (k + 1) zs w h hc hc2 (by omega)).mono ?_
  rintro e w' ⟨rfl, h1, h2, h3, _⟩
  exact ⟨by rw [show zs.length - 1 = n1 by omega], h1, h2 g (Nat.le_refl _), h3⟩
def mkD (k q : Nat) (b : Nat → Nat) : List Int := (List.range k).map fun j => ((b j % q : Nat) : Int)
theorem mkD_len (k q : Nat) (b : Nat → Nat) : (mkD k q b).length = k := by unfold mkD; simp
theorem mkD_succ (k q : Nat) (b : Nat → Nat) : mkD (k + 1) q b = mkD k q b ++ [((b k % q : Nat) : Int)] := by unfold mkD; rw [List.range_succ, List.map_append]; rfl
theorem mkD_in (k q : Nat) (b : Nat → Nat) (hq : 1 ≤ q) : ∀ z ∈ mkD k q b, 0 ≤ z ∧ z < q := fun z hz => by
  unfold mkD at hz
  obtain ⟨j, _, rfl⟩ := List.mem_map.1 hz
  have := Nat.mod_lt (b j) (show 0 < q by omega)
  omega
theorem by_cell {w : World} {B : Nat} {b : Nat → Nat} (h : w.heap[B]? = some (.cells #[.int .u8 (b 0 : Nat), .int .u8 (b 1 : Nat), .int .u8 (b 2 : Nat), .int .u8 (b 3 : Nat), .int .u8 (b 4 : Nat), .int .u8 (b 5 : Nat), .int .u8 (b 6 : Nat), .int .u8 (b 7 : Nat)] 42)) : ∀ j, j < 8 → w.cell? ⟨B, 0 + j, none⟩ = some (.int .u8 (b j : Nat)) := fun j hj => by
  match j, hj with
  | 0, _ => unfold World.cell?; rw [h]; rfl
  | 1, _ => unfold World.cell?; rw [h]; rfl
  | 2, _ => unfold World.cell?; rw [h]; rfl
  | 3, _ => unfold World.cell?; rw [h]; rfl
  | 4, _ => unfold World.cell?; rw [h]; rfl
  | 5, _ => unfold World.cell?; rw [h]; rfl
  | 6, _ => unfold World.cell?; rw [h]; rfl
  | 7, _ => unfold World.cell?; rw [h]; rfl
set_option maxRecDepth 100000 in
set_option maxHeartbeats 8000000 in
theorem law11_any (k0 : Nat) (hk : k0 ≤ 255) (b : Nat → Nat) (hb : ∀ j, b j ≤ 255) (w : World) :
    Calls Try.prog 11 #[.int .u8 (k0 : Nat), byV b] w fun e w' => e = .returned (.bool true) ∧ Fut w w' := by
  obtain ⟨i0, hi0, hz0, hz1, hz2⟩ := info_parts info3
  obtain ⟨n, hn⟩ : ∃ n : Nat, 1 + (k0 : Int) % 8 = (n : Int) := ⟨1 + k0 % 8, by omega⟩
  have hn1 : 1 ≤ n ∧ n ≤ 8 := by omega
  obtain ⟨q, hq⟩ : ∃ q : Nat, min (n : Int) 5 = (q : Int) := ⟨min n 5, by omega⟩
  have hq1 : 1 ≤ q ∧ q ≤ n := by omega
  have hsl := slice80 n hn1.2
  have hq0 : ¬ (q : Int) = 0 := by omega
  have hq00 : ¬ q = 0 := by omega
  have hkx : (k0 : Int) ≤ 255 := by omega
  have hnx : (n : Int) ≤ 8 := by omega
  obtain ⟨W0, hW0⟩ : ∃ W0, W0 = w.alloc (.cells #[.int .u8 (b 0 : Nat), .int .u8 (b 1 : Nat), .int .u8 (b 2 : Nat), .int .u8 (b 3 : Nat), .int .u8 (b 4 : Nat), .int .u8 (b 5 : Nat), .int .u8 (b 6 : Nat), .int .u8 (b 7 : Nat)] 42) := ⟨_, rfl⟩
  obtain ⟨H, hH⟩ : ∃ H, H = w.heap.size := ⟨_, rfl⟩
  have HC := Lib.hid (by_cell (w := W0) (B := H) (b := b) (by rw [hH, hW0]; exact World.alloc_heap_new w _))
  have HF0 : Hid (Fut w W0) := Lib.hid (by rw [hW0]; exact Fut.alloc _ _)
  have HHL : Hid (H < W0.heap.size) := Lib.hid (by rw [hH, hW0, World.size_alloc]; omega)
  have HW := Lib.hid hW0
  have HHH := Lib.hid hH
  have HBB := Lib.hid hb
  clear hW0 hb hH
  unfold byV
  go_enter Try.func11, Try.ntmps11
  go_upto_region 3 with fail
  rw [← HW.out, ← HHH.out]
  clear HW
  go_wp2_with fail
  clear hsl hn
  go_loopw [6, 23] (fun lv kv wr => ∃ (i : Nat) (oa : Option Addr) (oc : Nat), i ≤ n ∧ kv = .int .i64 (i : Nat) ∧ lv = .slice oa i oc ∧ Hid (Owns wr W0.heap.size (.slice oa i oc) (mkD i q b)) ∧ Hid (Fut W0 wr)) (fun _ kv _ => n - (intOf kv).toNat)
  case atStart => exact ⟨0, none, 0, by omega, rfl, rfl, Lib.hid (World.ownsRow_nil _ _ _ _), Lib.hid Fut.rfl⟩
  case round =>
    obtain ⟨i, oa, oc, hi, rfl, rfl, HO, HF⟩ := hrel
    by_cases hil : i < n
    · have hix : (i : Int) < n := by omega
      have c1 := (RowKit.Below.cell HF.out (p := ⟨H, 0 + i, none⟩) HHL.out).trans (HC.out i (by omega))
      rw [Nat.zero_add] at c1
      have hbi := HBB.out i
      have HSU := Lib.hid (mkD_succ i q b)
      generalize b i = y at *
      obtain ⟨x, hx⟩ : ∃ x : Nat, y % q = x := ⟨_, rfl⟩
      have hR : (y : Int) % (q : Int) = (x : Int) := by rw [← hx]; simp
      rw [hx] at HSU
      have hwx : IntKind.i64.wrap ((i : Int) + 1) = ((i + 1 : Nat) : Int) := by rw [IntWalk.i64_in _ ⟨by omega, by omega⟩]; omega
      have hyx : (y : Int) ≤ 255 := by omega
      have FA : Fut wr (wr.alloc (.cells #[.int .i64 (x : Nat)] 3)) := Fut.alloc _ _
      have HOW : Hid ((wr.alloc (.cells #[.int .i64 (x : Nat)] 3)).ownsRow W0.heap.size 3 1 (.slice oa i oc) i ((mkD i q b).map (Value.int .i64))) := Lib.hid (by have h := HO.out.fut FA; unfold Owns at h; rwa [mkD_len] at h)
      have HFA := Lib.hid (HF.out.trans FA)
      have HZA : Hid (W0.heap.size ≤ (wr.alloc (.cells #[.int .i64 (x : Nat)] 3)).heap.size) := Lib.hid (RowKit.Below.size HFA.out)
      clear FA HO hx
      go_wp2_with (at_builtin; refine wpList_append_lies _ rfl _ _ 22 rfl W0.heap.size 3 i0 (.int .i64 0) 1 8 Try.underlying22 hi0 hz0 hz1 hz2 rfl (by decide) (.slice oa i oc) i ((mkD i q b).map (Value.int .i64)) rfl HOW.out ⟨wr.heap.size, 0, none⟩ 1 1 [.int .i64 (x : Nat)] rfl rfl (cell_one (by simp [go_sem])) (by simp [Value.oneCell']) (by omega) (by unfold maxLen; omega) (by omega) HZA.out _ rfl ?_)
      intro g8 c8 w8 hown8 hgrow8 hat8 _
      have HX8 : Hid (Owns w8 W0.heap.size (.slice (some ⟨g8, 0, none⟩) (i + 1) c8) (mkD (i + 1) q b)) := Lib.hid (by
        unfold Owns
        rw [mkD_len, HSU.out, List.map_append]; exact hown8)
      have HF8 : Hid (Fut W0 w8) := Lib.hid (fut_own HFA.out hgrow8 (fun q hq => (World.ownsRow.lt HOW.out q hq).1))
      clear hown8 hgrow8 hat8 HOW HFA HZA c1 hR
      go_wp2_with fail
      go_roundw
      case rel => first
        | exact ⟨i + 1, _, c8, by omega, rfl, rfl, HX8, HF8⟩
        | ((repeat apply Exists.intro); exact ⟨⟨i + 1, _, c8, by omega, rfl, rfl, HX8, HF8⟩, rfl⟩)
      case measure => simp [intOf]; omega
    · obtain rfl : i = n := by omega
      obtain ⟨g1, rfl, p1, p2, p3, p4⟩ := HO.out.row (mkD_len i q b) (by omega)
      have HIN := Lib.hid (mkD_in i q b hq1.1)
      have HDl := Lib.hid (mkD_len i q b)
      generalize mkD i q b = ds at *
      have HR1 := Lib.hid p3
      have HG1 := Lib.hid (And.intro (Nat.le_trans (RowKit.Below.size HF0.out) p1) p2)
      have HC1 := Lib.hid p4
      have HF1 := Lib.hid (HF0.out.trans HF.out)
      clear HO HF p1 p2 p3 p4 HC HBB HHL HHH HF0
      have HCL := Lib.hid (clone_call2 (some ⟨g1, 0, none⟩) i oc ds HDl.out (by omega) (by omega) wr (HR1.out.ints HG1.out.2))
      go_wp2_with fail
      refine HCL.out.mono ?_
      rintro _ w2 ⟨g2, c2, rfl, r1, r2, r3, r4, hc63, F2⟩
      have HRN := Lib.hid r3
      have HRD := Lib.hid (HR1.out.fut F2 HG1.out.2)
      have HG2 : Hid (w.heap.size ≤ g1 ∧ g1 < g2 ∧ g2 < w2.heap.size) := Lib.hid (by have := HG1.out; omega)
      have HF2 := Lib.hid (HF1.out.trans F2)
      clear r1 r2 r3 F2 HCL HR1 HG1 HF1
      go_wp2_with fail
      have HYES := Lib.hid (made_vals (ds := ds) (by have := HDl.out; omega) (by have := HDl.out; omega) (fun z hz => by have := HIN.out z hz; have := HDl.out; omega)).1
      have HNO := Lib.hid (made_vals (ds := ds) (by have := HDl.out; omega) (by have := HDl.out; omega) (fun z hz => by have := HIN.out z hz; have := HDl.out; omega)).2
      have hr4 := r4
      have HOC := Lib.hid HC1.out
      go_loopw [9] (fun nv wr => ∃ (l : List Int) (m c : Nat), nv = .slice (some ⟨g2, 0, none⟩) m c ∧ (1 ≤ m ∧ m ≤ i ∧ m ≤ c ∧ c ≤ 9223372036854775807) ∧ Hid (l.length = m) ∧ Hid (RowN wr g2 l) ∧ Hid (RowN wr g1 ds) ∧ Hid (Sv.IsD l ↔ Sv.IsD ds) ∧ Hid (∀ z ∈ l, 0 ≤ z ∧ z ≤ 8) ∧ Hid (Fut w wr) ∧ Hid (w.heap.size ≤ g1 ∧ g1 < g2 ∧ g2 < wr.heap.size)) (fun nv _ => lenS nv)
      case atStart => exact ⟨ds, i, c2, rfl, ⟨hn1.1, Nat.le_refl _, hr4, hc63⟩, HDl, HRN, HRD, Lib.hid Iff.rfl, Lib.hid (fun z hz => by have := HIN.out z hz; omega), HF2, HG2⟩
      case round =>
        clear HRN HRD HF2 HG2
        obtain ⟨l, m, c, rfl, hm, HLl, HRN, HRD, HIF, HZB, HF2, HG2⟩ := hrel
        by_cases hm1 : 1 < m
        · have hm1x : (1 : Int) < m := by omega
          obtain ⟨d, hd⟩ : ∃ d, Lib.maxOf l = d := ⟨_, rfl⟩
          have hms := Sv.max_spec (l := l) (by intro e; have := HLl.out; rw [e] at this; simp at this; omega)
          rw [hd] at hms
          obtain ⟨k, k1, k2, k3⟩ := first_at l d hms.1
          have HMX := Lib.hid (max_call g2 0 m c l HLl.out (by omega) (by omega) wr (HRN.out.ints HG2.out.2.2))
          have HIX := Lib.hid (index_call g2 0 m c l HLl.out (by omega) d k (by have := HLl.out; omega) k2 k3 wr (HRN.out.ints HG2.out.2.2))
          rw [hd] at HMX
          have hdb := HZB.out d hms.1
          have HK := Lib.hid (And.intro k2 (And.intro k3 hms.2))
          have hkm : k < m := by have := HLl.out; omega
          obtain ⟨kk, hkk⟩ : ∃ kk, kk = k + 1 := ⟨_, rfl⟩
          have hw1 : IntKind.i64.wrap ((k : Int) + 1) = (kk : Int) := by rw [IntWalk.i64_in _ ⟨by omega, by omega⟩]; omega
          have HKK := Lib.hid hkk
          clear hd hms k1 k2 k3 hkk
          go_wp2_with fail
          refine HMX.out.mono ?_
          rintro _ _ ⟨rfl, rfl⟩
          go_wp2_with fail
          refine HIX.out.mono ?_
          rintro _ _ ⟨rfl, rfl⟩
          by_cases hd0 : d = 0
          · have HND : Hid (¬ Sv.IsD ds) := Lib.hid (by rw [← HIF.out]; exact Sv.shrink_stuck (by rw [HLl.out]; omega) (by rw [HLl.out]; exact hkm) HK.out.1 HK.out.2.2 HK.out.2.1 (.inl hd0))
            subst hd0
            clear HMX HIX
            have HMD := Lib.hid (ex_K (made43_any (some ⟨g1, 0, none⟩) oc ds wr (HRD.out.ints (by have := HG2.out; omega)) (by have := HDl.out; omega)) 12 [] (HNO.out HND.out).1 (HNO.out HND.out).2)
            rw [HDl.out] at HMD
            go_wp2_with fail
            refine HMD.out.mono ?_
            rintro _ w5 ⟨l5, c5, rfl, _, _, F5⟩
            have HWK := Lib.hid (works_any w5)
            have HF5 := Lib.hid (HF2.out.trans F5)
            clear F5
            go_wp2_with fail
            refine HWK.out.mono ?_
            rintro _ w6 ⟨rfl, F6⟩
            go_wp2_with fail
            go_ret
            exact ⟨rfl, HF5.out.trans F6⟩
          · have hdz : (d == 0) = false := by simpa using hd0
            by_cases hkm2 : kk = m
            · have HND : Hid (¬ Sv.IsD ds) := Lib.hid (by rw [← HIF.out]; exact Sv.shrink_stuck (by rw [HLl.out]; omega) (by rw [HLl.out]; exact hkm) HK.out.1 HK.out.2.2 HK.out.2.1 (.inr (.inl (by rw [HLl.out, ← hkm2, HKK.out]))))
              subst hkm2
              clear HMX HIX
              have HMD := Lib.hid (ex_K (made43_any (some ⟨g1, 0, none⟩) oc ds wr (HRD.out.ints (by have := HG2.out; omega)) (by have := HDl.out; omega)) 12 [] (HNO.out HND.out).1 (HNO.out HND.out).2)
              rw [HDl.out] at HMD
              go_wp2_with fail
              refine HMD.out.mono ?_
              rintro _ w5 ⟨l5, c5, rfl, _, _, F5⟩
              have HWK := Lib.hid (works_any w5)
              have HF5 := Lib.hid (HF2.out.trans F5)
              clear F5
              go_wp2_with fail
              refine HWK.out.mono ?_
              rintro _ w6 ⟨rfl, F6⟩
              go_wp2_with fail
              go_ret
              exact ⟨rfl, HF5.out.trans F6⟩
            · have hkm3 : ¬ (kk : Int) = m := by omega
              have hkmb : ((kk : Int) == (m : Int)) = false := by simpa using hkm3
              have hkm4 : kk < m := by have := HKK.out; omega
              have hkm5 : (kk : Int) < m := by omega
              have cc := HRN.out.1 kk (by rw [HLl.out]; exact hkm4)
              obtain ⟨y, hy⟩ : ∃ y, nth l kk = y := ⟨_, rfl⟩
              rw [hy] at cc
              have HY := Lib.hid hy
              by_cases hyd : y = d
              · have HSH := Lib.hid (Sv.shrink_iff (l := l) (k := k) (d := d) (by have := HLl.out; have := HKK.out; omega) HK.out.1 (by rw [← HKK.out, HY.out, hyd]) HK.out.2.2 HK.out.2.1 hd0)
                have HPT := Lib.hid ((Sv.parts2 l k (by have := HLl.out; have := HKK.out; omega)).2 (d - 1))
                subst hyd
                have c0 := HRN.out.1 k (by rw [HLl.out]; exact hkm)
                rw [HK.out.1] at c0
                have f0 := HRN.out.2 k
                have hw2 : IntKind.i64.wrap (y - 1) = y - 1 := IntWalk.i64_in _ ⟨by omega, by omega⟩
                have hw3 : IntKind.i64.wrap ((k : Int) + 2) = (kk : Int) + 1 := by rw [IntWalk.i64_in _ ⟨by omega, by omega⟩]; have := HKK.out; omega
                have hkx : (k : Int) < m := by omega
                have HRN2 := Lib.hid (HRN.out.set k (y - 1) (by rw [HLl.out]; exact hkm))
                have hO := only_set wr g2 k (.int .i64 (y - 1))
                have HRD2 := Lib.hid (HRD.out.other hO (by have := HG2.out; omega) (by have := HG2.out; omega))
                have HF3 := Lib.hid (Only.fut HF2.out hO (by have := HG2.out; omega))
                have HS3 := Lib.hid hO.1
                obtain ⟨m1, hm1'⟩ : ∃ m1, m1 + 1 = m := ⟨m - 1, by omega⟩
                have HDE := Lib.hid (fun W h => del_call g2 m m1 c k kk (l.set k (y - 1)) (by rw [List.length_set, HLl.out]) hm1' HKK.out hkm4 W h hm.2.2.1 hm.2.2.2)
                clear hy hO HMX HIX
                go_wp2_with fail
                refine (HDE.out _ HRN2.out).mono ?_
                rintro _ w4 ⟨rfl, e1, e2, e3⟩
                rw [HPT.out] at e1
                have HL4 : Hid ((l.take k ++ (y - 1) :: l.drop (k + 2)).length = m1) := Lib.hid (by rw [List.length_append, List.length_cons, List.length_take, List.length_drop]; have := HLl.out; have := HKK.out; omega)
                have HR4 := Lib.hid e1
                have HD4 : Hid (RowN w4 g1 ds) := Lib.hid (HRD2.out.below e2 (by have := HG2.out; omega))
                have HI4 : Hid (Sv.IsD (l.take k ++ (y - 1) :: l.drop (k + 2)) ↔ Sv.IsD ds) := Lib.hid (HSH.out.symm.trans HIF.out)
                have HZ4 : Hid (∀ z ∈ l.take k ++ (y - 1) :: l.drop (k + 2), 0 ≤ z ∧ z ≤ 8) := Lib.hid (fun z hz => by
                  rcases List.mem_append.1 hz with hz | hz
                  · exact HZB.out z (List.mem_of_mem_take hz)
                  · rcases List.mem_cons.1 hz with rfl | hz
                    · omega
                    · exact HZB.out z (List.mem_of_mem_drop hz))
                have HF4 : Hid (Fut w w4) := Lib.hid (HF3.out.trans' e2 (by have := HG2.out; omega))
                have HG4 : Hid (w.heap.size ≤ g1 ∧ g1 < g2 ∧ g2 < w4.heap.size) := Lib.hid (by have := HG2.out; have := HS3.out; omega)
                clear e1 e2 e3 c0 f0 cc
                go_wp2_with fail
                go_roundw
                case rel => first
                  | exact ⟨_, m1, c, rfl, by omega, HL4, HR4, HD4, HI4, HZ4, HF4, HG4⟩
                  | ((repeat apply Exists.intro); exact ⟨⟨_, m1, c, rfl, by omega, HL4, HR4, HD4, HI4, HZ4, HF4, HG4⟩, rfl⟩)
                case measure => simp only [lenS]; omega
              · have HND : Hid (¬ Sv.IsD ds) := Lib.hid (by rw [← HIF.out]; exact Sv.shrink_stuck (by rw [HLl.out]; omega) (by rw [HLl.out]; exact hkm) HK.out.1 HK.out.2.2 HK.out.2.1 (.inr (.inr (by rw [← HKK.out, HY.out]; exact hyd))))
                clear HMX HIX hy
                have HMD := Lib.hid (ex_K (made43_any (some ⟨g1, 0, none⟩) oc ds wr (HRD.out.ints (by have := HG2.out; omega)) (by have := HDl.out; omega)) 12 [] (HNO.out HND.out).1 (HNO.out HND.out).2)
                rw [HDl.out] at HMD
                go_wp2_with fail
                refine HMD.out.mono ?_
                rintro _ w5 ⟨l5, c5, rfl, _, _, F5⟩
                have HWK := Lib.hid (works_any w5)
                have HF5 := Lib.hid (HF2.out.trans F5)
                clear F5
                go_wp2_with fail
                refine HWK.out.mono ?_
                rintro _ w6 ⟨rfl, F6⟩
                go_wp2_with fail
                go_ret
                exact ⟨rfl, HF5.out.trans F6⟩
        · obtain rfl : m = 1 := by omega
          obtain ⟨x, hx⟩ := List.length_eq_one_iff.1 HLl.out
          have c0 := HRN.out.1 0 (by rw [HLl.out]; omega)
          rw [hx] at c0
          change wr.cell? ⟨g2, 0, none⟩ = some (.int .i64 x) at c0
          by_cases hx0 : x = 0
          · have HYD : Hid (Sv.IsD ds) := Lib.hid (by rw [← HIF.out, hx, Sv.isD_one]; exact hx0)
            subst hx0
            obtain ⟨t, t1, t2, t3, t4⟩ := HYES.out HYD.out
            obtain ⟨T, hT⟩ : ∃ T, t.lst 0 = T := ⟨_, rfl⟩
            obtain ⟨mt, hmt⟩ : ∃ mt, T.length = mt := ⟨_, rfl⟩
            have hts : t.size = i := by rw [t1, HDl.out]
            have hV := valid_tree t (by omega)
            have hDp := depths_tree t (by omega)
            rw [hts, hT] at hV hDp
            rw [← t2] at hDp
            have hTl : T.length ≤ 8 := by rw [← hT, lst_len']; omega
            have HMD := Lib.hid (ex_K (made43_any (some ⟨g1, 0, none⟩) oc ds wr (HRD.out.ints (by have := HG2.out; omega)) (by have := HDl.out; omega)) 0 T t3 (by rw [t4, hT]))
            have HDP := Lib.hid (fun W l cc (h1 : T.length ≤ cc) h2 => ex_N (depths37_any (i : Nat) l cc T W h2 h1 (by omega)) 0 ds i hV hDp HDl.out)
            rw [HDl.out, hmt] at HMD
            rw [hmt] at HDP
            have HSA := Lib.hid (fun W => same_call i ds HDl.out (by omega) W)
            clear t1 t2 t3 t4 hT hmt hts hV hDp hTl hx
            go_wp2_with fail
            refine HMD.out.mono ?_
            rintro _ w5 ⟨l5, c5, rfl, hc5, I5, F5⟩
            have HI5 := Lib.hid I5
            have HC5 := Lib.hid hc5
            have HF5 := Lib.hid F5
            have c1 := cell_at c0 F5
            clear I5 hc5 F5 c0
            go_wp2_with fail
            refine (HDP.out w5 l5 c5 HC5.out HI5.out).mono ?_
            rintro _ w6 ⟨l6, c6, rfl, I6, F6⟩
            have HI6 := Lib.hid I6
            have HF6 := Lib.hid (HF5.out.trans F6)
            clear I6 F6
            go_wp2_with fail
            refine (HSA.out w6 l6 (some ⟨g1, 0, none⟩) c6 oc HI6.out ((HRD.out.ints (by have := HG2.out; omega)).fut HF6.out)).mono ?_
            rintro _ w7 ⟨rfl, F7⟩
            have HWK := Lib.hid (works_any w7)
            have HF7 := Lib.hid (HF6.out.trans F7)
            clear F7
            go_wp2_with fail
            refine HWK.out.mono ?_
            rintro _ w8 ⟨rfl, F8⟩
            go_wp2_with fail
            go_ret
            exact ⟨rfl, HF2.out.trans (HF7.out.trans F8)⟩
          · have HND : Hid (¬ Sv.IsD ds) := Lib.hid (by rw [← HIF.out, hx, Sv.isD_one]; exact hx0)
            clear hx
            have HMD := Lib.hid (ex_K (made43_any (some ⟨g1, 0, none⟩) oc ds wr (HRD.out.ints (by have := HG2.out; omega)) (by have := HDl.out; omega)) 12 [] (HNO.out HND.out).1 (HNO.out HND.out).2)
            rw [HDl.out] at HMD
            go_wp2_with fail
            refine HMD.out.mono ?_
            rintro _ w5 ⟨l5, c5, rfl, _, _, F5⟩
            have HWK := Lib.hid (works_any w5)
            have HF5 := Lib.hid (HF2.out.trans F5)
            have c1 := cell_at c0 F5
            clear F5 c0
            go_wp2_with fail
            refine HWK.out.mono ?_
            rintro _ w6 ⟨rfl, F6⟩
            go_wp2_with fail
            go_ret
            exact ⟨rfl, HF5.out.trans F6⟩
      
end Go.Proofs.Ytjapconhehdcjaa
