/- sum sieves -/
import Derived.Test.YtjapconhehdcjaaSA
import Derived.Deep.DeepCutAuto
namespace Go.Proofs.Ytjapconhehdcjaa
open Go.RowKit Go.Sort
theorem sum_take (zs : List Int) (i : Nat) (h : i < zs.length) : (zs.take (i + 1)).sum = (zs.take i).sum + nth zs i := by
  rw [List.take_succ_eq_append_getElem h, List.sum_append, nth_eq, List.getElem?_eq_getElem h]
  simp
theorem sum_bnd {zs : List Int} (h : ∀ z ∈ zs, 0 ≤ z ∧ z ≤ 1000000) : ∀ i, 0 ≤ (zs.take i).sum ∧ (zs.take i).sum ≤ 1000000 * i
  | 0 => by simp
  | i + 1 => by
    rcases Nat.lt_or_ge i zs.length with q | q
    · have h1 := sum_bnd h i
      have h2 := h (nth zs i) (nth_mem q)
      rw [sum_take zs i q]
      omega
    · have h1 := sum_bnd h i
      rw [List.take_of_length_le (by omega)] at h1 ⊢
      omega
set_option maxRecDepth 100000 in
theorem sum_any (a : Option Addr) (cap : Nat) (zs : List Int) (w : World) (hA : IntsAt w a zs) (hl : zs.length ≤ 1000) (hz : ∀ z ∈ zs, 0 ≤ z ∧ z ≤ 1000000) :
    Calls Try.prog 116 #[.slice a zs.length cap] w fun e w' => e = .returned (.int .i64 zs.sum) ∧ w = w' := by
  have HA := Lib.hid hA
  have HB := Lib.hid (sum_bnd hz)
  have HT := Lib.hid (sum_take zs)
  have HE : Hid ((zs.take zs.length).sum = zs.sum) := Lib.hid (by rw [List.take_length])
  have hlx : (zs.length : Int) ≤ 1000 := by omega
  obtain ⟨f, hf⟩ : ∃ f : Nat → Int, f = fun i => (zs.take i).sum := ⟨_, rfl⟩
  have HF := Lib.hid hf
  have HF0 : Hid (f 0 = 0) := Lib.hid (by rw [hf]; rfl)
  clear hA hz hf
  go_enter Try.func116, Try.ntmps116
  go_wp2_with fail
  go_loopw [3, 8] (fun sv iv wr => ∃ i : Nat, i ≤ zs.length ∧ iv = .int .i64 i ∧ sv = .int .i64 (f i) ∧ w = wr) (fun _ iv _ => zs.length - (intOf iv).toNat)
  case atStart => exact ⟨0, Nat.zero_le _, rfl, by rw [HF0.out], rfl⟩
  case round =>
    obtain ⟨i, hi, rfl, rfl, rfl⟩ := hrel
    by_cases hil : i < zs.length
    · have hix : (i : Int) < zs.length := by omega
      obtain ⟨b, o, rfl, hb, c⟩ := HA.out i hil
      have hs : f (i + 1) = f i + nth zs i := by rw [HF.out]; exact HT.out i hil
      have h1 := HB.out (i + 1)
      have h2 : f (i + 1) = (zs.take (i + 1)).sum := by rw [HF.out]
      rw [← h2, hs] at h1
      have hw : IntKind.i64.wrap (f i + nth zs i) = f i + nth zs i := IntWalk.i64_in _ ⟨by omega, by omega⟩
      have HS := Lib.hid hs
      clear hs h1 h2
      go_wp2_with fail
      go_roundw
      case rel => exact ⟨i + 1, by omega, by go_num, by rw [HS.out], trivial⟩
      case measure => simp [intOf]; omega
    · obtain rfl : i = zs.length := by omega
      go_wp2_with fail
      go_ret
      exact ⟨ret_int (by rw [HF.out]; exact HE.out), rfl⟩
/-- the sieves of a span. -/
def svP (a i : Nat) : List Int := (List.range i).map fun j => ((a + j : Nat) : Int)
theorem svP_succ (a i : Nat) : svP a (i + 1) = svP a i ++ [((a + i : Nat) : Int)] := by unfold svP; rw [List.range_succ, List.map_append]; rfl
theorem svP_len (a i : Nat) : (svP a i).length = i := by unfold svP; simp
set_option maxRecDepth 100000 in
theorem sieves_any (a b : Nat) (hab : a ≤ b) (hb : b ≤ 100) (w : World) : Calls Try.prog 96 #[spV (a : Nat) (b : Nat)] w fun e w' => ∃ v, e = .returned v ∧ Owns w' w.heap.size v (svP a (b - a)) ∧ Fut w w' := by
  obtain ⟨i0, hi0, hz0, hz1, hz2⟩ := info_parts info3
  obtain ⟨w1, hw1⟩ : ∃ W, W = w.alloc (.cells #[.int .i64 (a : Nat), .int .i64 (b : Nat)] 69) := ⟨_, rfl⟩
  have hbx : (b : Int) ≤ 100 := by omega
  have HBX : Hid (w1.heap[w.heap.size]? = some (.cells #[.int .i64 (a : Nat), .int .i64 (b : Nat)] 69)) := Lib.hid (by rw [hw1]; exact World.alloc_heap_new w _)
  have HF1 : Hid (Fut w w1) := Lib.hid (by rw [hw1]; exact Fut.alloc _ _)
  have HZ : Hid (w1.heap.size = w.heap.size + 1) := Lib.hid (by rw [hw1, World.size_alloc])
  have HW := Lib.hid hw1
  have c0 : (w.alloc (.cells #[.int .i64 (a : Nat), .int .i64 (b : Nat)] 69)).cell? ⟨w.heap.size, 0, none⟩ = some (.int .i64 (a : Nat)) := (two_cell (World.alloc_heap_new w _)).1
  clear hw1
  go_enter Try.func96, Try.ntmps96
  go_wp2_with fail
  rw [← HW.out]
  clear HW c0
  go_loopw [3, 4] (fun lv kv wr => ∃ (i : Nat) (oa : Option Addr) (oc : Nat), a + i ≤ b ∧ kv = .int .i64 ((a + i : Nat) : Int) ∧ lv = .slice oa i oc ∧ Hid (Owns wr w1.heap.size (.slice oa i oc) (svP a i)) ∧ Hid (Fut w1 wr)) (fun _ kv _ => b - (intOf kv).toNat)
  case atStart => exact ⟨0, none, 0, by omega, rfl, rfl, Lib.hid (World.ownsRow_nil _ _ _ _), Lib.hid Fut.rfl⟩
  case round =>
    obtain ⟨i, oa, oc, hi, rfl, rfl, HO, HF⟩ := hrel
    have hc := heap_fut HBX.out HF.out
    have c1 := (two_cell hc).2.1
    by_cases hil : a + i < b
    · have hix : ((a + i : Nat) : Int) < b := by omega
      have hwx : IntKind.i64.wrap (((a + i : Nat) : Int) + 1) = ((a + (i + 1) : Nat) : Int) := by rw [IntWalk.i64_in _ ⟨by omega, by omega⟩]; omega
      have FA : Fut wr (wr.alloc (.cells #[.int .i64 ((a + i : Nat) : Int)] 3)) := Fut.alloc _ _
      have HOW : Hid ((wr.alloc (.cells #[.int .i64 ((a + i : Nat) : Int)] 3)).ownsRow w1.heap.size 3 1 (.slice oa i oc) i ((svP a i).map (Value.int .i64))) := Lib.hid (by have h := HO.out.fut FA; unfold Owns at h; rwa [svP_len] at h)
      have HFA := Lib.hid (HF.out.trans FA)
      have HZA : Hid (w1.heap.size ≤ (wr.alloc (.cells #[.int .i64 ((a + i : Nat) : Int)] 3)).heap.size) := Lib.hid (RowKit.Below.size HFA.out)
      generalize hq : ((a + i : Nat) : Int) = q at *
      have HQ := Lib.hid hq
      clear hq FA hc HO
      go_wp2_with (at_builtin; refine wpList_append_lies _ rfl _ _ 22 rfl w1.heap.size 3 i0 (.int .i64 0) 1 8 Try.underlying22 hi0 hz0 hz1 hz2 rfl (by decide) (.slice oa i oc) i ((svP a i).map (Value.int .i64)) rfl HOW.out ⟨wr.heap.size, 0, none⟩ 1 1 [.int .i64 q] rfl rfl (cell_one (by simp [go_sem])) (by simp [Value.oneCell']) (by omega) (by unfold maxLen; omega) (by omega) HZA.out _ rfl ?_)
      intro g8 c8 w8 hown8 hgrow8 hat8 _
      have HX8 : Hid (Owns w8 w1.heap.size (.slice (some ⟨g8, 0, none⟩) (i + 1) c8) (svP a (i + 1))) := Lib.hid (by
        unfold Owns
        rw [svP_len, svP_succ, HQ.out, List.map_append]; exact hown8)
      have HF8 : Hid (Fut w1 w8) := Lib.hid (fut_own HFA.out hgrow8 (fun q hq => (World.ownsRow.lt HOW.out q hq).1))
      clear hown8 hgrow8 hat8 HOW HFA HZA c1
      go_wp2_with fail
      go_roundw
      case rel => first
        | exact ⟨i + 1, _, c8, by omega, rfl, rfl, HX8, HF8⟩
        | ((repeat apply Exists.intro); exact ⟨⟨i + 1, _, c8, by omega, rfl, rfl, HX8, HF8⟩, rfl⟩)
      case measure => have := HQ.out; simp [intOf]; omega
    · have hib : a + i = b := by omega
      have hix : ¬ ((a + i : Nat) : Int) < b := by omega
      have HIB : Hid (b - a = i) := Lib.hid (by omega)
      clear hib hc
      go_wp2_with fail
      go_ret
      exact ⟨_, rfl, by rw [HIB.out]; exact HO.out.base (by have := HZ.out; omega), HF1.out.trans HF.out⟩
end Go.Proofs.Ytjapconhehdcjaa
