/- partWith -/
import Derived.Test.YtjapconhehdcjaaSC
import Derived.Deep.DeepCutAuto
namespace Go.Proofs.Ytjapconhehdcjaa
open Go.RowKit Go.Sort
set_option maxRecDepth 100000 in
theorem partWith_any (a b k s : Int) (hs : -1000 ≤ s ∧ s ≤ 1000) (w : World) : Calls Try.prog 99 #[spV a b, .int .i64 k, .int .i64 s] w fun e w' => e = .returned (if k ≤ s then spV a s else spV (s + 1) b) ∧ Fut w w' := by
  obtain ⟨W0, hW0⟩ : ∃ W0, W0 = (w.alloc (.cells #[.int .i64 a, .int .i64 b] 69)).alloc (.cells #[.int .i64 0, .int .i64 0] 69) := ⟨_, rfl⟩
  have g0 : W0.heap[w.heap.size]? = some (.cells #[.int .i64 a, .int .i64 b] 69) := by
    rw [hW0]
    exact heap_fut (World.alloc_heap_new w _) (Fut.alloc _ _)
  have g1 : W0.heap[w.heap.size + 1]? = some (.cells #[.int .i64 0, .int .i64 0] 69) := by
    rw [hW0]
    have := World.alloc_heap_new (w.alloc (.cells #[.int .i64 a, .int .i64 b] 69)) (.cells #[.int .i64 0, .int .i64 0] 69)
    rw [World.size_alloc] at this
    exact this
  have HP := Lib.hid (parts_any a b s hs W0)
  have HB0 := Lib.hid g0
  have HB1 := Lib.hid g1
  have HFU : Hid (Fut w W0) := Lib.hid (by rw [hW0]; exact (Fut.alloc _ _).trans (Fut.alloc _ _))
  have HW := Lib.hid hW0
  clear g0 g1 hW0
  go_enter Try.func99, Try.ntmps99
  go_upto_region 1 with fail
  rw [← HW.out]
  clear HW
  have hc0 := two_cell HB0.out
  obtain ⟨c0, c1, _⟩ := hc0
  go_wp2_with fail
  refine HP.out.mono ?_
  rintro _ w2 ⟨rfl, F2⟩
  go_upto_region 2 with fail
  have FA : Fut w2 ((w2.alloc (Obj.cells #[.int .i64 a, .int .i64 s] 69)).alloc (Obj.cells #[.int .i64 (s + 1), .int .i64 b] 69)) := (Fut.alloc _ _).trans (Fut.alloc _ _)
  have g2 : ((w2.alloc (Obj.cells #[.int .i64 a, .int .i64 s] 69)).alloc (Obj.cells #[.int .i64 (s + 1), .int .i64 b] 69)).heap[w2.heap.size]? = some (.cells #[.int .i64 a, .int .i64 s] 69) := heap_fut (World.alloc_heap_new w2 _) (Fut.alloc _ _)
  have g3 : ((w2.alloc (Obj.cells #[.int .i64 a, .int .i64 s] 69)).alloc (Obj.cells #[.int .i64 (s + 1), .int .i64 b] 69)).heap[w2.heap.size + 1]? = some (.cells #[.int .i64 (s + 1), .int .i64 b] 69) := by
    have := World.alloc_heap_new (w2.alloc (Obj.cells #[.int .i64 a, .int .i64 s] 69)) (Obj.cells #[.int .i64 (s + 1), .int .i64 b] 69)
    rw [World.size_alloc] at this
    exact this
  have g1 := heap_fut (heap_fut HB1.out F2) FA
  have HF3 := Lib.hid ((HFU.out.trans F2).trans FA)
  generalize (w2.alloc (Obj.cells #[.int .i64 a, .int .i64 s] 69)).alloc (Obj.cells #[.int .i64 (s + 1), .int .i64 b] 69) = w3 at *
  clear HP HB0 HB1 HFU c0 c1 F2 FA
  have hz : w.heap.size ≤ w.heap.size + 1 := by omega
  by_cases hk : k ≤ s
  · have e1 := set2_both (.int .i64 a) (.int .i64 s) g1
    obtain ⟨⟨y1, y2⟩, ⟨y3, y4⟩, y5⟩ := e1
    obtain ⟨l0, l1, _⟩ := two_cell g2
    have HR := Lib.hid y5
    have HFC : Hid (Fut w ((w3.setCell ⟨w.heap.size + 1, 0, none⟩ (.int .i64 a)).setCell ⟨w.heap.size + 1, 1, none⟩ (.int .i64 s))) := Lib.hid (RowKit.Below.setCell (p := ⟨w.heap.size + 1, 1, none⟩) (RowKit.Below.setCell (p := ⟨w.heap.size + 1, 0, none⟩) HF3.out hz _) hz _)
    clear g1 g2 g3 y5
    go_wp2_with fail
    refine bodyPost_ret (res_one69 rfl rfl HR.out) rfl ?_
    exact ⟨rfl, HFC.out⟩
  · have e1 := set2_both (.int .i64 (s + 1)) (.int .i64 b) g1
    obtain ⟨⟨y1, y2⟩, ⟨y3, y4⟩, y5⟩ := e1
    obtain ⟨l0, l1, _⟩ := two_cell g3
    have HR := Lib.hid y5
    have HFC : Hid (Fut w ((w3.setCell ⟨w.heap.size + 1, 0, none⟩ (.int .i64 (s + 1))).setCell ⟨w.heap.size + 1, 1, none⟩ (.int .i64 b))) := Lib.hid (RowKit.Below.setCell (p := ⟨w.heap.size + 1, 1, none⟩) (RowKit.Below.setCell (p := ⟨w.heap.size + 1, 0, none⟩) HF3.out hz _) hz _)
    clear g1 g2 g3 y5
    go_wp2_with fail
    refine bodyPost_ret (res_one69 rfl rfl HR.out) rfl ?_
    exact ⟨rfl, HFC.out⟩
end Go.Proofs.Ytjapconhehdcjaa
