/- Dust.made 45 -/
import Derived.Test.YtjapconhehdcjaaLE
import Derived.Test.YtjapconhehdcjaaOP
import Derived.Deep.DeepCutAuto
import Derived.Deep.AppendLies
namespace Go.Proofs.Ytjapconhehdcjaa
open Go.RowKit Go.Sort
theorem slice8 (k : Nat) (hk : k ≤ 8) (B : Nat) (w : World) : (Instr.sliceAt 42 (.pointer (some ⟨B, 1, none⟩)) none (some (.int .i64 k)) none).run Try.prog w = .ok (.slice (some ⟨B, 1, none⟩) k 8) w := by
  have h0 : ∀ B w, (Instr.sliceAt 42 (.pointer (some ⟨B, 1, none⟩)) none (some (.int .i64 0)) none).run Try.prog w = .ok (.slice (some ⟨B, 1, none⟩) 0 8) w := fun _ _ => by kernel_rfl
  have h1 : ∀ B w, (Instr.sliceAt 42 (.pointer (some ⟨B, 1, none⟩)) none (some (.int .i64 1)) none).run Try.prog w = .ok (.slice (some ⟨B, 1, none⟩) 1 8) w := fun _ _ => by kernel_rfl
  have h2 : ∀ B w, (Instr.sliceAt 42 (.pointer (some ⟨B, 1, none⟩)) none (some (.int .i64 2)) none).run Try.prog w = .ok (.slice (some ⟨B, 1, none⟩) 2 8) w := fun _ _ => by kernel_rfl
  have h3 : ∀ B w, (Instr.sliceAt 42 (.pointer (some ⟨B, 1, none⟩)) none (some (.int .i64 3)) none).run Try.prog w = .ok (.slice (some ⟨B, 1, none⟩) 3 8) w := fun _ _ => by kernel_rfl
  have h4 : ∀ B w, (Instr.sliceAt 42 (.pointer (some ⟨B, 1, none⟩)) none (some (.int .i64 4)) none).run Try.prog w = .ok (.slice (some ⟨B, 1, none⟩) 4 8) w := fun _ _ => by kernel_rfl
  have h5 : ∀ B w, (Instr.sliceAt 42 (.pointer (some ⟨B, 1, none⟩)) none (some (.int .i64 5)) none).run Try.prog w = .ok (.slice (some ⟨B, 1, none⟩) 5 8) w := fun _ _ => by kernel_rfl
  have h6 : ∀ B w, (Instr.sliceAt 42 (.pointer (some ⟨B, 1, none⟩)) none (some (.int .i64 6)) none).run Try.prog w = .ok (.slice (some ⟨B, 1, none⟩) 6 8) w := fun _ _ => by kernel_rfl
  have h7 : ∀ B w, (Instr.sliceAt 42 (.pointer (some ⟨B, 1, none⟩)) none (some (.int .i64 7)) none).run Try.prog w = .ok (.slice (some ⟨B, 1, none⟩) 7 8) w := fun _ _ => by kernel_rfl
  have h8 : ∀ B w, (Instr.sliceAt 42 (.pointer (some ⟨B, 1, none⟩)) none (some (.int .i64 8)) none).run Try.prog w = .ok (.slice (some ⟨B, 1, none⟩) 8 8) w := fun _ _ => by kernel_rfl
  match k, hk with
  | 0, _ => exact h0 B w
  | 1, _ => exact h1 B w
  | 2, _ => exact h2 B w
  | 3, _ => exact h3 B w
  | 4, _ => exact h4 B w
  | 5, _ => exact h5 B w
  | 6, _ => exact h6 B w
  | 7, _ => exact h7 B w
  | 8, _ => exact h8 B w
  | k + 9, h => exact absurd h (by omega)
theorem slice80 (k : Nat) (hk : k ≤ 8) (B : Nat) (w : World) : (Instr.sliceAt 42 (.pointer (some ⟨B, 0, none⟩)) none (some (.int .i64 k)) none).run Try.prog w = .ok (.slice (some ⟨B, 0, none⟩) k 8) w := by
  have h0 : ∀ B w, (Instr.sliceAt 42 (.pointer (some ⟨B, 0, none⟩)) none (some (.int .i64 0)) none).run Try.prog w = .ok (.slice (some ⟨B, 0, none⟩) 0 8) w := fun _ _ => by kernel_rfl
  have h1 : ∀ B w, (Instr.sliceAt 42 (.pointer (some ⟨B, 0, none⟩)) none (some (.int .i64 1)) none).run Try.prog w = .ok (.slice (some ⟨B, 0, none⟩) 1 8) w := fun _ _ => by kernel_rfl
  have h2 : ∀ B w, (Instr.sliceAt 42 (.pointer (some ⟨B, 0, none⟩)) none (some (.int .i64 2)) none).run Try.prog w = .ok (.slice (some ⟨B, 0, none⟩) 2 8) w := fun _ _ => by kernel_rfl
  have h3 : ∀ B w, (Instr.sliceAt 42 (.pointer (some ⟨B, 0, none⟩)) none (some (.int .i64 3)) none).run Try.prog w = .ok (.slice (some ⟨B, 0, none⟩) 3 8) w := fun _ _ => by kernel_rfl
  have h4 : ∀ B w, (Instr.sliceAt 42 (.pointer (some ⟨B, 0, none⟩)) none (some (.int .i64 4)) none).run Try.prog w = .ok (.slice (some ⟨B, 0, none⟩) 4 8) w := fun _ _ => by kernel_rfl
  have h5 : ∀ B w, (Instr.sliceAt 42 (.pointer (some ⟨B, 0, none⟩)) none (some (.int .i64 5)) none).run Try.prog w = .ok (.slice (some ⟨B, 0, none⟩) 5 8) w := fun _ _ => by kernel_rfl
  have h6 : ∀ B w, (Instr.sliceAt 42 (.pointer (some ⟨B, 0, none⟩)) none (some (.int .i64 6)) none).run Try.prog w = .ok (.slice (some ⟨B, 0, none⟩) 6 8) w := fun _ _ => by kernel_rfl
  have h7 : ∀ B w, (Instr.sliceAt 42 (.pointer (some ⟨B, 0, none⟩)) none (some (.int .i64 7)) none).run Try.prog w = .ok (.slice (some ⟨B, 0, none⟩) 7 8) w := fun _ _ => by kernel_rfl
  have h8 : ∀ B w, (Instr.sliceAt 42 (.pointer (some ⟨B, 0, none⟩)) none (some (.int .i64 8)) none).run Try.prog w = .ok (.slice (some ⟨B, 0, none⟩) 8 8) w := fun _ _ => by kernel_rfl
  match k, hk with
  | 0, _ => exact h0 B w
  | 1, _ => exact h1 B w
  | 2, _ => exact h2 B w
  | 3, _ => exact h3 B w
  | 4, _ => exact h4 B w
  | 5, _ => exact h5 B w
  | 6, _ => exact h6 B w
  | 7, _ => exact h7 B w
  | 8, _ => exact h8 B w
  | k + 9, h => exact absurd h (by omega)
/-- the loads of dust by numbers. -/
def dustL (k most : Nat) (b : Nat → Nat) : List Int := (List.range k).map fun j => ((1 + b j % most : Nat) : Int)
theorem dustL_len (k most : Nat) (b : Nat → Nat) : (dustL k most b).length = k := by unfold dustL; simp
theorem dustL_succ (k most : Nat) (b : Nat → Nat) : dustL (k + 1) most b = dustL k most b ++ [((1 + b k % most : Nat) : Int)] := by unfold dustL; rw [List.range_succ, List.map_append]; rfl
theorem dustL_in (k most : Nat) (b : Nat → Nat) (hm : 1 ≤ most) : ∀ z ∈ dustL k most b, 1 ≤ z ∧ z ≤ most := fun z hz => by
  unfold dustL at hz
  obtain ⟨j, _, rfl⟩ := List.mem_map.1 hz
  have := Nat.mod_lt (b j) (show 0 < most by omega)
  omega
theorem dust_cell {w : World} {B : Nat} {k : Nat} {b : Nat → Nat} (h : w.heap[B]? = some (.cells #[.int .u8 (k : Nat), .int .u8 (b 0 : Nat), .int .u8 (b 1 : Nat), .int .u8 (b 2 : Nat), .int .u8 (b 3 : Nat), .int .u8 (b 4 : Nat), .int .u8 (b 5 : Nat), .int .u8 (b 6 : Nat), .int .u8 (b 7 : Nat)] 44)) : w.cell? ⟨B, 0, none⟩ = some (.int .u8 (k : Nat)) ∧ ∀ j, j < 8 → w.cell? ⟨B, 1 + j, none⟩ = some (.int .u8 (b j : Nat)) := by
  refine ⟨by unfold World.cell?; rw [h]; rfl, fun j hj => ?_⟩
  match j, hj with
  | 0, _ => unfold World.cell?; rw [h]; rfl
  | 1, _ => unfold World.cell?; rw [h]; rfl
  | 2, _ => unfold World.cell?; rw [h]; rfl
  | 3, _ => unfold World.cell?; rw [h]; rfl
  | 4, _ => unfold World.cell?; rw [h]; rfl
  | 5, _ => unfold World.cell?; rw [h]; rfl
  | 6, _ => unfold World.cell?; rw [h]; rfl
  | 7, _ => unfold World.cell?; rw [h]; rfl
set_option maxRecDepth 100000 in
set_option maxHeartbeats 4000000 in
theorem dmade_any (k0 : Nat) (b : Nat → Nat) (hk : k0 ≤ 255) (hb : ∀ j, b j ≤ 255) (kinds most n : Nat) (hkd : 1 ≤ kinds ∧ kinds ≤ 8) (hmo : 1 ≤ most ∧ most ≤ 1000) (hn : 1 + k0 % kinds = n) (w : World) :
    Calls Try.prog 45 #[dustV k0 b, .int .i64 (kinds : Nat), .int .i64 (most : Nat)] w fun e w' => ∃ v, e = .returned v ∧ Owns w' w.heap.size v (dustL n most b) ∧ Fut w w' := by
  obtain ⟨i0, hi0, hz0, hz1, hz2⟩ := info_parts info3
  have hn8 : n ≤ 8 := by have := Nat.mod_lt k0 (show 0 < kinds by omega); omega
  have hn1 : 1 ≤ n := by omega
  obtain ⟨r, hr⟩ : ∃ r : Nat, k0 % kinds = r := ⟨_, rfl⟩
  have hR : (k0 : Int) % (kinds : Int) = (r : Int) := by rw [← hr]; simp
  have hN : 1 + (r : Int) = (n : Int) := by omega
  have hrx : (r : Int) ≤ 8 := by omega
  have hk0 : ¬ (kinds : Int) = 0 := by omega
  have hk00 : ¬ kinds = 0 := by omega
  have hm0 : ¬ (most : Int) = 0 := by omega
  have hm00 : ¬ most = 0 := by omega
  have hkx : (k0 : Int) ≤ 255 := by omega
  have hkdx : (kinds : Int) ≤ 8 := by omega
  have hmox : (most : Int) ≤ 1000 := by omega
  have hsl := slice8 n hn8
  obtain ⟨W0, hW0⟩ : ∃ W0, W0 = w.alloc (.cells #[.int .u8 (k0 : Nat), .int .u8 (b 0 : Nat), .int .u8 (b 1 : Nat), .int .u8 (b 2 : Nat), .int .u8 (b 3 : Nat), .int .u8 (b 4 : Nat), .int .u8 (b 5 : Nat), .int .u8 (b 6 : Nat), .int .u8 (b 7 : Nat)] 44) := ⟨_, rfl⟩
  obtain ⟨H, hH⟩ : ∃ H, H = w.heap.size := ⟨_, rfl⟩
  have HC := Lib.hid (dust_cell (w := W0) (B := H) (k := k0) (b := b) (by rw [hH, hW0]; exact World.alloc_heap_new w _))
  have HF0 : Hid (Fut w W0) := Lib.hid (by rw [hW0]; exact Fut.alloc _ _)
  have HHL : Hid (H < W0.heap.size) := Lib.hid (by rw [hH, hW0, World.size_alloc]; omega)
  have HW := Lib.hid hW0
  have HHH := Lib.hid hH
  have HBB := Lib.hid hb
  clear hn hW0 hb hH hr
  unfold dustV
  go_enter Try.func45, Try.ntmps45
  go_upto_region 2 with fail
  rw [← HW.out, ← HHH.out]
  clear HW
  obtain ⟨c0, _⟩ := HC.out
  go_wp2_with fail
  clear c0 hR hN hsl
  go_loopw [7, 19] (fun lv kv wr => ∃ (i : Nat) (oa : Option Addr) (oc : Nat), i ≤ n ∧ kv = .int .i64 (i : Nat) ∧ lv = .slice oa i oc ∧ Hid (Owns wr W0.heap.size (.slice oa i oc) (dustL i most b)) ∧ Hid (Fut W0 wr)) (fun _ kv _ => n - (intOf kv).toNat)
  case atStart => exact ⟨0, none, 0, by omega, rfl, rfl, Lib.hid (World.ownsRow_nil _ _ _ _), Lib.hid Fut.rfl⟩
  case round =>
    obtain ⟨i, oa, oc, hi, rfl, rfl, HO, HF⟩ := hrel
    by_cases hil : i < n
    · have hix : (i : Int) < n := by omega
      have c1 := (RowKit.Below.cell HF.out (p := ⟨H, 1 + i, none⟩) HHL.out).trans (HC.out.2 i (by omega))
      have hbi := HBB.out i
      have HSU := Lib.hid (dustL_succ i most b)
      generalize b i = y at *
      have hmlt := Nat.mod_lt y (show 0 < most by omega)
      obtain ⟨x, hx⟩ : ∃ x : Nat, x = 1 + y % most := ⟨_, rfl⟩
      obtain ⟨ym, hym⟩ : ∃ ym : Nat, y % most = ym := ⟨_, rfl⟩
      have hR : (y : Int) % (most : Int) = (ym : Int) := by rw [← hym]; simp
      rw [hym] at hx hmlt
      have hN : 1 + (ym : Int) = (x : Int) := by omega
      have HX := Lib.hid hx
      have hymx : (ym : Int) ≤ 1000 := by omega
      have hwx : IntKind.i64.wrap ((i : Int) + 1) = ((i + 1 : Nat) : Int) := by rw [IntWalk.i64_in _ ⟨by omega, by omega⟩]; omega
      have hyx : (y : Int) ≤ 255 := by omega
      have FA : Fut wr (wr.alloc (.cells #[.int .i64 (x : Nat)] 3)) := Fut.alloc _ _
      have HOW : Hid ((wr.alloc (.cells #[.int .i64 (x : Nat)] 3)).ownsRow W0.heap.size 3 1 (.slice oa i oc) i ((dustL i most b).map (Value.int .i64))) := Lib.hid (by have h := HO.out.fut FA; unfold Owns at h; rwa [dustL_len] at h)
      have HFA := Lib.hid (HF.out.trans FA)
      have HZA : Hid (W0.heap.size ≤ (wr.alloc (.cells #[.int .i64 (x : Nat)] 3)).heap.size) := Lib.hid (RowKit.Below.size HFA.out)
      have HSV : Hid (dustL (i + 1) most b = dustL i most b ++ [((x : Nat) : Int)]) := Lib.hid (by rw [HSU.out, hx, hym])
      clear FA HO hx hym
      go_wp2_with (at_builtin; refine wpList_append_lies _ rfl _ _ 22 rfl W0.heap.size 3 i0 (.int .i64 0) 1 8 Try.underlying22 hi0 hz0 hz1 hz2 rfl (by decide) (.slice oa i oc) i ((dustL i most b).map (Value.int .i64)) rfl HOW.out ⟨wr.heap.size, 0, none⟩ 1 1 [.int .i64 (x : Nat)] rfl rfl (cell_one (by simp [go_sem])) (by simp [Value.oneCell']) (by omega) (by unfold maxLen; omega) (by omega) HZA.out _ rfl ?_)
      intro g8 c8 w8 hown8 hgrow8 hat8 _
      have HX8 : Hid (Owns w8 W0.heap.size (.slice (some ⟨g8, 0, none⟩) (i + 1) c8) (dustL (i + 1) most b)) := Lib.hid (by
        unfold Owns
        rw [dustL_len, HSV.out, List.map_append]; exact hown8)
      have HF8 : Hid (Fut W0 w8) := Lib.hid (fut_own HFA.out hgrow8 (fun q hq => (World.ownsRow.lt HOW.out q hq).1))
      clear hown8 hgrow8 hat8 HOW HFA HZA c1 hR hN
      go_wp2_with fail
      go_roundw
      case rel => first
        | exact ⟨i + 1, _, c8, by omega, rfl, rfl, HX8, HF8⟩
        | ((repeat apply Exists.intro); exact ⟨⟨i + 1, _, c8, by omega, rfl, rfl, HX8, HF8⟩, rfl⟩)
      case measure => simp [intOf]; omega
    · obtain rfl : i = n := by omega
      go_wp2_with fail
      go_ret
      exact ⟨_, rfl, HO.out.base (RowKit.Below.size HF0.out), HF0.out.trans HF.out⟩
end Go.Proofs.Ytjapconhehdcjaa
