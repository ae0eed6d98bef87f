/- Layer 3: the law's A, B and C. -/
import Derived.Test.YtpgifeaejjjjnaaBS
namespace Go.Proofs.Ytpgifeaejjjjnaa
open Go.RowKit Go.Sort
theorem lst_one {w : World} {b : Nat} {l : Option Addr} {zs : List Int} {lc : Nat} (hb : b < w.heap.size) (hc : w.cell? ⟨b, 0, none⟩ = some (.slice l zs.length lc)) (h1 : zs.length ≤ lc) (h2 : lc ≤ 9223372036854775807) (hI : IntsAt w l zs) : LstC w (some ⟨b, 0, none⟩) [zs] := fun j hj => by
  obtain rfl : j = 0 := by simp at hj; exact hj
  exact ⟨b, 0, l, lc, rfl, hb, hc, h1, h2, hI⟩
theorem lst_two {w : World} {b : Nat} {l k : Option Addr} {zs ys : List Int} {lc kc : Nat} (hb : b < w.heap.size) (hc : w.cell? ⟨b, 0, none⟩ = some (.slice l zs.length lc)) (h1 : zs.length ≤ lc) (h2 : lc ≤ 9223372036854775807) (hI : IntsAt w l zs)
    (hd : w.cell? ⟨b, 1, none⟩ = some (.slice k ys.length kc)) (g1 : ys.length ≤ kc) (g2 : kc ≤ 9223372036854775807) (hK : IntsAt w k ys) : LstC w (some ⟨b, 0, none⟩) [zs, ys] := fun j hj => by
  match j, hj with
  | 0, _ => exact ⟨b, 0, l, lc, rfl, hb, hc, h1, h2, hI⟩
  | 1, _ => exact ⟨b, 0, k, kc, rfl, hb, hd, g1, g2, hK⟩
  | j + 2, hj => exact absurd hj (by simp)
theorem lawA (w : World) : Calls Try.prog 59 #[] w fun e w' => ∃ l, e = .returned (.slice l 1 1) ∧ LstC w' l [[0, 1, 2]] ∧ Fut w w' := by
  have hI := ints_new w [0, 1, 2]
  have hF : Fut w (w.alloc (.cells ([0, 1, 2].map (Value.int .i64)).toArray 3)) := Fut.alloc _ _
  go_enter Try.func59, Try.ntmps59
  go_wp2
  go_ret
  refine ⟨_, rfl, ?_, hF.trans (Fut.alloc _ _)⟩
  exact lst_one (lc := 3) (by simp) (by simp [go_sem]) (by simp) (by omega) (hI.fut (Fut.alloc _ _))
theorem lawB (w : World) : Calls Try.prog 60 #[] w fun e w' => ∃ l, e = .returned (.slice l 2 2) ∧ LstC w' l [[0, 1], [1, 0]] ∧ Fut w w' := by
  have hI := ints_new w [0, 1]
  have hF : Fut w (w.alloc (.cells ([0, 1].map (Value.int .i64)).toArray 3)) := Fut.alloc _ _
  have hJ := ints_new (w.alloc (.cells ([0, 1].map (Value.int .i64)).toArray 3)) [1, 0]
  have hG : Fut (w.alloc (.cells ([0, 1].map (Value.int .i64)).toArray 3)) ((w.alloc (.cells ([0, 1].map (Value.int .i64)).toArray 3)).alloc (.cells ([1, 0].map (Value.int .i64)).toArray 3)) := Fut.alloc _ _
  go_enter Try.func60, Try.ntmps60
  go_wp2
  go_ret
  refine ⟨_, rfl, ?_, (hF.trans hG).trans (Fut.alloc _ _)⟩
  exact lst_two (lc := 2) (kc := 2) (by simp) (by simp [go_sem]) (by simp) (by omega) ((hI.fut hG).fut (Fut.alloc _ _)) (by simp [go_sem]) (by simp) (by omega) (hJ.fut (Fut.alloc _ _))
theorem lawC (w : World) : Calls Try.prog 68 #[] w fun e w' => ∃ l, e = .returned (.slice l 2 2) ∧ LstC w' l [[0, 1], [1, 2]] ∧ Fut w w' := by
  have hI := ints_new w [0, 1]
  have hF : Fut w (w.alloc (.cells ([0, 1].map (Value.int .i64)).toArray 3)) := Fut.alloc _ _
  have hJ := ints_new (w.alloc (.cells ([0, 1].map (Value.int .i64)).toArray 3)) [1, 2]
  have hG : Fut (w.alloc (.cells ([0, 1].map (Value.int .i64)).toArray 3)) ((w.alloc (.cells ([0, 1].map (Value.int .i64)).toArray 3)).alloc (.cells ([1, 2].map (Value.int .i64)).toArray 3)) := Fut.alloc _ _
  go_enter Try.func68, Try.ntmps68
  go_wp2
  go_ret
  refine ⟨_, rfl, ?_, (hF.trans hG).trans (Fut.alloc _ _)⟩
  exact lst_two (lc := 2) (kc := 2) (by simp) (by simp [go_sem]) (by simp) (by omega) ((hI.fut hG).fut (Fut.alloc _ _)) (by simp [go_sem]) (by simp) (by omega) (hJ.fut (Fut.alloc _ _))
end Go.Proofs.Ytpgifeaejjjjnaa
