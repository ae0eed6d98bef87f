/- spansOf -/
import Derived.Test.YtjapconhehdcjaaSD
import Derived.Deep.DeepCutAuto
import Derived.Deep.AppendLies
namespace Go.Proofs.Ytjapconhehdcjaa
open Go.RowKit Go.Sort
def flatS : List (Nat × Nat) → List Value
  | [] => []
  | p :: l => .int .i64 (p.1 : Nat) :: .int .i64 (p.2 : Nat) :: flatS l
theorem flatS_app : ∀ (l : List (Nat × Nat)) (p : Nat × Nat), flatS (l ++ [p]) = flatS l ++ [.int .i64 (p.1 : Nat), .int .i64 (p.2 : Nat)]
  | [], _ => rfl
  | q :: l, p => by show _ :: _ :: flatS (l ++ [p]) = _; rw [flatS_app l p]; rfl
theorem flatS_get : ∀ (l : List (Nat × Nat)) (j : Nat), j < l.length → (flatS l)[j * 2]? = some (.int .i64 ((l[j]?.getD (0, 0)).1 : Nat)) ∧ (flatS l)[j * 2 + 1]? = some (.int .i64 ((l[j]?.getD (0, 0)).2 : Nat))
  | [], j, h => by simp at h
  | p :: l, 0, _ => ⟨rfl, rfl⟩
  | p :: l, j + 1, h => by
    have := flatS_get l j (by simpa using h)
    rw [show (j + 1) * 2 = j * 2 + 1 + 1 by omega]
    exact this
def OwnS (w : World) (B : Nat) (v : Value) (ss : List (Nat × Nat)) : Prop := w.ownsRow B 69 2 v ss.length (flatS ss)
theorem row_futs {w w' : World} {B size n : Nat} {e : TypeId} {v : Value} {xs : List Value} (h : w.ownsRow B e size v n xs) (F : Fut w w') : w'.ownsRow B e size v n xs := by
  rcases h with ⟨h0, h | ⟨g, cap, cur, rfl, hB, hg, h1⟩⟩
  · exact ⟨h0, .inl h⟩
  · exact ⟨h0, .inr ⟨g, cap, cur, rfl, hB, heap_fut hg F, h1⟩⟩
def spR (m f : Nat) : List (Nat × Nat) := (List.range f).map fun j => (j, j + m)
def spK (n m f : Nat) : List (Nat × Nat) := ((List.range m).flatMap fun i => spR i (n - i)) ++ spR m f
def spansL (n : Nat) : List (Nat × Nat) := spK n n 0
theorem spK_succ (n m f : Nat) : spK n m (f + 1) = spK n m f ++ [(f, f + m)] := by
  unfold spK spR
  rw [List.range_succ, List.map_append, ← List.append_assoc]
  rfl
theorem spK_row (n m : Nat) : spK n (m + 1) 0 = spK n m (n - m) := by
  unfold spK
  rw [List.range_succ, List.flatMap_append]
  simp [spR]
theorem spK_len (n : Nat) (hn : n ≤ 8) : ∀ m f, (spK n m f).length ≤ 8 * m + f
  | 0, f => by unfold spK spR; simp
  | m + 1, 0 => by
    rw [spK_row]
    have := spK_len n hn m (n - m)
    omega
  | m + 1, f + 1 => by
    rw [spK_succ, List.length_append]
    have := spK_len n hn (m + 1) f
    simp
    omega
theorem info69 : (Try.prog.info? 69).map (fun i => (i.zero, i.size, i.bytes)) = some (some (.agg #[.int .i64 0, .int .i64 0]), 2, 16) := by kernel_rfl
theorem cells_two {w : World} {b : Nat} {x y : Value} (h : w.cell? ⟨b, 0, none⟩ = some x) (h' : w.cell? ⟨b, 1, none⟩ = some y) : ∀ j u, [x, y][j]? = some u → w.cell? ((⟨b, 0, none⟩ : Addr).add j) = some u := fun j u hj => by
  match j, hj with
  | 0, hj => simp at hj; subst hj; exact h
  | 1, hj => simp at hj; subst hj; exact h'
set_option maxRecDepth 100000 in
theorem spansOf_any (n : Nat) (hn : n ≤ 8) (w : World) : Calls Try.prog 91 #[.int .i64 (n : Nat)] w fun e w' => ∃ v, e = .returned v ∧ OwnS w' w.heap.size v (spansL n) ∧ Fut w w' := by
  obtain ⟨i0, hi0, hz0, hz1, hz2⟩ := info_parts info69
  have HL := Lib.hid (spK_len n hn)
  have hnx : (n : Int) ≤ 8 := by omega
  go_enter Try.func91, Try.ntmps91
  go_wp2_with fail
  go_loopw [3, 7] (fun lv kv wr => ∃ (m : Nat) (oa : Option Addr) (k oc : Nat), m ≤ n ∧ kv = .int .i64 ((m : Nat) : Int) ∧ lv = .slice oa k oc ∧ Hid (k = (spK n m 0).length ∧ OwnS wr w.heap.size (.slice oa k oc) (spK n m 0)) ∧ Hid (Fut w wr)) (fun _ kv _ => n - (intOf kv).toNat)
  case atStart => exact ⟨0, none, 0, 0, by omega, rfl, rfl, Lib.hid ⟨by unfold spK spR; simp, World.ownsRow_nil _ _ _ _⟩, Lib.hid Fut.rfl⟩
  case round =>
    obtain ⟨m, oa, k, oc, hm, rfl, rfl, HO, HF⟩ := hrel
    by_cases hmn : m < n
    · have hmx : ((m : Nat) : Int) < n := by omega
      have hw1 : IntKind.i64.wrap (((n : Nat) : Int) - ((m : Nat) : Int)) = ((n - m : Nat) : Int) := by rw [IntWalk.i64_in _ ⟨by omega, by omega⟩]; omega
      have hw2 : IntKind.i64.wrap (((m : Nat) : Int) + 1) = ((m + 1 : Nat) : Int) := by rw [IntWalk.i64_in _ ⟨by omega, by omega⟩]; omega
      go_wp2_with fail
      go_loopw [3, 13] (fun lv kv wr => ∃ (f : Nat) (oa : Option Addr) (k oc : Nat), f ≤ n - m ∧ kv = .int .i64 ((f : Nat) : Int) ∧ lv = .slice oa k oc ∧ Hid (k = (spK n m f).length ∧ OwnS wr w.heap.size (.slice oa k oc) (spK n m f)) ∧ Hid (Fut w wr)) (fun _ kv _ => (n - m) - (intOf kv).toNat)
      case atStart => exact ⟨0, oa, k, oc, by omega, rfl, rfl, HO, HF⟩
      case round =>
        obtain ⟨f, oa, k, oc, hf, rfl, rfl, HO, HF⟩ := hrel
        by_cases hfn : f < n - m
        · have hfx : ((f : Nat) : Int) < ((n - m : Nat) : Int) := by omega
          have hw3 : IntKind.i64.wrap (((f : Nat) : Int) + ((m : Nat) : Int)) = ((f + m : Nat) : Int) := by rw [IntWalk.i64_in _ ⟨by omega, by omega⟩]; omega
          have hw4 : IntKind.i64.wrap (((f : Nat) : Int) + 1) = ((f + 1 : Nat) : Int) := by rw [IntWalk.i64_in _ ⟨by omega, by omega⟩]; omega
          have hkb : k ≤ 200 := by have := HL.out m f; have := HO.out.1; omega
          generalize hq : ((f + m : Nat) : Int) = q at *
          have HQ := Lib.hid hq
          obtain ⟨wa, hwa⟩ : ∃ wa, wa = wr.alloc (.cells #[.int .i64 (f : Nat), .int .i64 q] 69) := ⟨_, rfl⟩
          have FA : Fut wr wa := by rw [hwa]; exact Fut.alloc _ _
          have hnew : wa.heap[wr.heap.size]? = some (.cells #[.int .i64 (f : Nat), .int .i64 q] 69) := by rw [hwa]; exact World.alloc_heap_new wr _
          have HC := Lib.hid (two_cell hnew)
          have HOW : Hid (wa.ownsRow w.heap.size 69 2 (.slice oa k oc) k (flatS (spK n m f))) := Lib.hid (by
            have h := HO.out.2
            unfold OwnS at h
            rw [← HO.out.1] at h
            exact row_futs h FA)
          have HFA := Lib.hid (HF.out.trans FA)
          have HZA : Hid (w.heap.size ≤ wa.heap.size) := Lib.hid (RowKit.Below.size HFA.out)
          have HKL := Lib.hid HO.out.1
          have HWA := Lib.hid hwa
          clear hq FA hnew HO hwa
          go_wp2_with (at_builtin; rw [← HWA.out]; refine wpList_append_lies _ rfl _ _ 103 rfl w.heap.size 69 i0 (.agg #[.int .i64 0, .int .i64 0]) 2 16 Try.underlying103 hi0 hz0 hz1 hz2 rfl (by decide) (.slice oa k oc) k (flatS (spK n m f)) rfl HOW.out ⟨wr.heap.size, 0, none⟩ 1 1 [.int .i64 (f : Nat), .int .i64 q] rfl rfl (cells_two HC.out.1 HC.out.2.1) (by simp [Value.oneCell']) (by omega) (by unfold maxLen; omega) (by omega) HZA.out _ rfl ?_)
          intro g8 c8 w8 hown8 hgrow8 hat8 _
          have HX8 : Hid (k + 1 = (spK n m (f + 1)).length ∧ OwnS w8 w.heap.size (.slice (some ⟨g8, 0, none⟩) (k + 1) c8) (spK n m (f + 1))) := Lib.hid (by
            have hl : (spK n m (f + 1)).length = k + 1 := by rw [spK_succ, List.length_append, ← HKL.out]; rfl
            refine ⟨hl.symm, ?_⟩
            unfold OwnS
            rw [hl, spK_succ, flatS_app]
            show w8.ownsRow w.heap.size 69 2 _ _ (_ ++ [_, .int .i64 ((f + m : Nat) : Int)])
            rw [HQ.out]; exact hown8)
          have HF8 : Hid (Fut w w8) := Lib.hid (fut_own HFA.out hgrow8 (fun q hq => (World.ownsRow.lt HOW.out q hq).1))
          clear hown8 hgrow8 hat8 HOW HFA HZA HC HWA
          go_wp2_with fail
          go_roundw
          case rel => first
            | exact ⟨f + 1, _, _, c8, by omega, rfl, rfl, HX8, HF8⟩
            | ((repeat apply Exists.intro); exact ⟨⟨f + 1, _, _, c8, by omega, rfl, rfl, HX8, HF8⟩, rfl⟩)
          case measure => simp [intOf]; omega
        · obtain rfl : f = n - m := by omega
          have HR : Hid (k = (spK n (m + 1) 0).length ∧ OwnS wr w.heap.size (.slice oa k oc) (spK n (m + 1) 0)) := Lib.hid (by rw [spK_row]; exact HO.out)
          go_wp2_with fail
          go_roundw
          case rel => first
            | exact ⟨m + 1, _, _, oc, by omega, rfl, rfl, HR, HF⟩
            | ((repeat apply Exists.intro); exact ⟨⟨m + 1, _, _, oc, by omega, rfl, rfl, HR, HF⟩, rfl⟩)
          case measure => simp [intOf]; omega
    · obtain rfl : m = n := by omega
      go_wp2_with fail
      go_ret
      exact ⟨_, rfl, by have h := HO.out.2; exact h, HF.out⟩
end Go.Proofs.Ytjapconhehdcjaa
