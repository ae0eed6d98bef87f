/- Layer 1: where all orders begin. -/
import Derived.Test.YtdnbdaegahcoeaaQueueC
import Derived.Laws.EntriesVeiled
namespace Go.Proofs.Ytdnbdaegahcoeaa
open Go.RowKit Go.Sort
abbrev QW (w : World) (x : Int) (ga oa cap n : Nat) : World :=
  (((((((w.alloc (.cells #[.int .i64 x] 3)).alloc (.cells #[.slice (some ⟨ga, oa, none⟩) n cap] 22)).alloc (.cells #[.int .i64 n] 3)).alloc (.cells (Array.replicate n (.int .i64 0)) 3)).alloc (.cells #[.slice (some ⟨w.heap.size + 1 + 1 + 1, 0, none⟩) n n] 22)).alloc (.cells #[.int .i64 0] 3)).alloc (.cells #[.bool true] 4)).alloc
    (.cells #[.func (.func 51) #[] #[.pointer (some ⟨w.heap.size + 1 + 1, 0, none⟩), .pointer (some ⟨w.heap.size + 1 + 1 + 1 + 1 + 1 + 1 + 1, 0, none⟩), .pointer (some ⟨w.heap.size + 1 + 1 + 1 + 1 + 1, 0, none⟩), .pointer (some ⟨w.heap.size, 0, none⟩), .pointer (some ⟨w.heap.size + 1, 0, none⟩), .pointer (some ⟨w.heap.size + 1 + 1 + 1 + 1, 0, none⟩), .pointer (some ⟨w.heap.size + 1 + 1 + 1 + 1 + 1 + 1, 0, none⟩)]] 62)
theorem cell0_of {w : World} {b : Nat} {v : Value} {t : TypeId} (h : w.heap[b]? = some (.cells #[v] t (0, 0))) : w.cell? ⟨b, 0, none⟩ = some v := by
  rw [cell_of_row w b 0 _ _ _ h]; rfl
theorem queue_start (w : World) (x : Int) (ga oa cap : Nat) (zs : List Int) (h5 : zs.length ≤ 5) (hga : ga < w.heap.size) (hz : ∀ j, j < zs.length → w.cell? ⟨ga, oa + j, none⟩ = some (.int .i64 (nth zs j))) :
    Cst (w.heap.size + 1 + 1) (w.heap.size + 1 + 1 + 1 + 1 + 1 + 1 + 1) (w.heap.size + 1 + 1 + 1 + 1 + 1) w.heap.size (w.heap.size + 1) (w.heap.size + 1 + 1 + 1 + 1) (w.heap.size + 1 + 1 + 1 + 1 + 1 + 1) (w.heap.size + 1 + 1 + 1) ga oa cap x zs (QW w x ga oa cap zs.length) ∧
    Mut (w.heap.size + 1 + 1 + 1 + 1 + 1) (w.heap.size + 1 + 1 + 1 + 1 + 1 + 1) (w.heap.size + 1 + 1 + 1) zs.length 0 (fun _ => 0) (QW w x ga oa cap zs.length) ∧ Fut w (QW w x ga oa cap zs.length) ∧ (QW w x ga oa cap zs.length).heap.size = w.heap.size + 8 ∧
    Dst (w.heap.size + 1 + 1) (w.heap.size + 1 + 1 + 1 + 1 + 1 + 1 + 1) (w.heap.size + 1 + 1 + 1 + 1 + 1) w.heap.size (w.heap.size + 1) (w.heap.size + 1 + 1 + 1 + 1) (w.heap.size + 1 + 1 + 1 + 1 + 1 + 1) (w.heap.size + 1 + 1 + 1) ga (w.heap.size + 8) := by
  have hF : Fut w (QW w x ga oa cap zs.length) := (((((((Fut.alloc w _).trans (Fut.alloc _ _)).trans (Fut.alloc _ _)).trans (Fut.alloc _ _)).trans (Fut.alloc _ _)).trans (Fut.alloc _ _)).trans (Fut.alloc _ _)).trans (Fut.alloc _ _)
  have b0 : (QW w x ga oa cap zs.length).heap[w.heap.size]? = some (.cells #[.int .i64 x] 3 (0, 0)) := by
    simp only [QW, heap_alloc_get, World.size_alloc]; (repeat (first | rw [if_pos trivial] | rw [if_pos rfl] | rw [if_neg (by omega)]))
  have b1 : (QW w x ga oa cap zs.length).heap[w.heap.size + 1]? = some (.cells #[.slice (some ⟨ga, oa, none⟩) zs.length cap] 22 (0, 0)) := by
    simp only [QW, heap_alloc_get, World.size_alloc]; (repeat (first | rw [if_pos trivial] | rw [if_pos rfl] | rw [if_neg (by omega)]))
  have b2 : (QW w x ga oa cap zs.length).heap[w.heap.size + 1 + 1]? = some (.cells #[.int .i64 zs.length] 3 (0, 0)) := by
    simp only [QW, heap_alloc_get, World.size_alloc]; (repeat (first | rw [if_pos trivial] | rw [if_pos rfl] | rw [if_neg (by omega)]))
  have b3 : (QW w x ga oa cap zs.length).heap[w.heap.size + 1 + 1 + 1]? = some (.cells (Array.replicate zs.length (.int .i64 0)) 3 (0, 0)) := by
    simp only [QW, heap_alloc_get, World.size_alloc]; (repeat (first | rw [if_pos trivial] | rw [if_pos rfl] | rw [if_neg (by omega)]))
  have b4 : (QW w x ga oa cap zs.length).heap[w.heap.size + 1 + 1 + 1 + 1]? = some (.cells #[.slice (some ⟨w.heap.size + 1 + 1 + 1, 0, none⟩) zs.length zs.length] 22 (0, 0)) := by
    simp only [QW, heap_alloc_get, World.size_alloc]; (repeat (first | rw [if_pos trivial] | rw [if_pos rfl] | rw [if_neg (by omega)]))
  have b5 : (QW w x ga oa cap zs.length).heap[w.heap.size + 1 + 1 + 1 + 1 + 1]? = some (.cells #[.int .i64 0] 3 (0, 0)) := by
    simp only [QW, heap_alloc_get, World.size_alloc]; (repeat (first | rw [if_pos trivial] | rw [if_pos rfl] | rw [if_neg (by omega)]))
  have b6 : (QW w x ga oa cap zs.length).heap[w.heap.size + 1 + 1 + 1 + 1 + 1 + 1]? = some (.cells #[.bool true] 4 (0, 0)) := by
    simp only [QW, heap_alloc_get, World.size_alloc]; (repeat (first | rw [if_pos trivial] | rw [if_pos rfl] | rw [if_neg (by omega)]))
  have b7 : (QW w x ga oa cap zs.length).heap[w.heap.size + 1 + 1 + 1 + 1 + 1 + 1 + 1]? = some (.cells #[.func (.func 51) #[] (putV (w.heap.size + 1 + 1) (w.heap.size + 1 + 1 + 1 + 1 + 1 + 1 + 1) (w.heap.size + 1 + 1 + 1 + 1 + 1) w.heap.size (w.heap.size + 1) (w.heap.size + 1 + 1 + 1 + 1) (w.heap.size + 1 + 1 + 1 + 1 + 1 + 1))] 62 (0, 0)) := by
    simp only [QW, heap_alloc_get, World.size_alloc]; (repeat (first | rw [if_pos trivial] | rw [if_pos rfl] | rw [if_neg (by omega)]))
  refine ⟨⟨cell0_of b2, cell0_of b7, cell0_of b0, cell0_of b1, cell0_of b4, fun j hj => (RowKit.Below.cell hF (p := ⟨ga, oa + j, none⟩) hga).trans (hz j hj)⟩,
    ⟨cell0_of b5, frozen_of_row _ _ 0 _ _ b5, cell0_of b6, frozen_of_row _ _ 0 _ _ b6, ?_⟩, hF, by simp [QW], ⟨by omega, by omega, by omega, by omega, by omega⟩⟩
  have e : (list5 (fun _ => (0 : Int))).take zs.length = List.replicate zs.length 0 := by
    have : ∀ n : Fin 6, (list5 (fun _ => (0 : Int))).take n.val = List.replicate n.val 0 := by decide
    exact this ⟨zs.length, by omega⟩
  rw [e]
  refine ⟨fun j hj => ?_, fun j => frozen_of_row _ _ j _ _ b3⟩
  rw [List.length_replicate] at hj
  rw [cell_of_row _ _ j _ _ _ b3, nth_eq]
  simp [hj]
theorem ext_all (m : Fin 5 → Int) (n : Nat) (hn : n ≤ 5) (x : Int) (j : Fin 5) : addAll m x (ext n n []) (fun _ => 0) j = addAll m x (vis n (idxL n) 0) (fun _ => 0) j ∧ (ext n n []).length = fct n := by
  have hp := ext_vis ⟨n, by omega⟩
  simp only at hp
  refine ⟨?_, by rw [hp.length_eq, vis_length]⟩
  rw [addAll_eq, addAll_eq]
  have := perm_sum (hp.map fun o => inF m o x (fun _ => 0) j)
  omega
end Go.Proofs.Ytdnbdaegahcoeaa
