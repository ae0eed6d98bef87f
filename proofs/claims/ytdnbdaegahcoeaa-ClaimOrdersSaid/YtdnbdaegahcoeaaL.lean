/- Layer 1: a division in an order. -/
import Derived.Test.YtdnbdaegahcoeaaK
namespace Go.Proofs.Ytdnbdaegahcoeaa
open Go.RowKit Go.Sort
theorem cellsH.bel {w w' : World} {b n D : Nat} {x : Int} {f : Fin 5 → Int} (hB : RowKit.Below D w w') (hb : b < D) (h : cellsH w b n x f) : cellsH w' b n x f := by
  have hc : ∀ o, w'.cell? ⟨b, o, none⟩ = w.cell? ⟨b, o, none⟩ := fun o => hB.cell (p := ⟨b, o, none⟩) hb
  obtain ⟨h0, h1, h2, h3, h4, h5, h6⟩ := h
  refine ⟨?_, ?_, ?_, ?_, ?_, ?_, ?_⟩ <;> rw [hc] <;> assumption
def inF (m : Fin 5 → Int) : List (Fin 5) → Int → (Fin 5 → Int) → (Fin 5 → Int)
  | [], _, g => g
  | i :: o, left, g => inF m o (left - min (m i) left) (upd g i (min (m i) left))
def valL (ds : List (Fin 5)) : List Int := ds.map fun i => (i.val : Int)
theorem valL_length (ds : List (Fin 5)) : (valL ds).length = ds.length := by simp [valL]
theorem valL_nth (ds : List (Fin 5)) (k : Nat) (h : k < ds.length) : nth (valL ds) k = ((ds[k]).val : Int) := by
  unfold nth valL; simp [h]
theorem in_start (w : World) (n : Nat) (x : Int) (f : Fin 5 → Int) :
    cellsH (((w.alloc (.cells #[.int .i64 n, .int .i64 x, .int .i64 (f 0), .int .i64 (f 1), .int .i64 (f 2), .int .i64 (f 3), .int .i64 (f 4)] 68)).alloc (.cells #[.int .i64 0, .int .i64 0, .int .i64 0, .int .i64 0, .int .i64 0] 66)).alloc (.cells #[.int .i64 0, .int .i64 0, .int .i64 0, .int .i64 0, .int .i64 0] 66)) w.heap.size n x f ∧ RowAt (((w.alloc (.cells #[.int .i64 n, .int .i64 x, .int .i64 (f 0), .int .i64 (f 1), .int .i64 (f 2), .int .i64 (f 3), .int .i64 (f 4)] 68)).alloc (.cells #[.int .i64 0, .int .i64 0, .int .i64 0, .int .i64 0, .int .i64 0] 66)).alloc (.cells #[.int .i64 0, .int .i64 0, .int .i64 0, .int .i64 0, .int .i64 0] 66)) (w.heap.size + 1) (fun _ => 0) ∧ RowAt (((w.alloc (.cells #[.int .i64 n, .int .i64 x, .int .i64 (f 0), .int .i64 (f 1), .int .i64 (f 2), .int .i64 (f 3), .int .i64 (f 4)] 68)).alloc (.cells #[.int .i64 0, .int .i64 0, .int .i64 0, .int .i64 0, .int .i64 0] 66)).alloc (.cells #[.int .i64 0, .int .i64 0, .int .i64 0, .int .i64 0, .int .i64 0] 66)) (w.heap.size + 1 + 1) (fun _ => 0) ∧
    RowKit.Below w.heap.size w (((w.alloc (.cells #[.int .i64 n, .int .i64 x, .int .i64 (f 0), .int .i64 (f 1), .int .i64 (f 2), .int .i64 (f 3), .int .i64 (f 4)] 68)).alloc (.cells #[.int .i64 0, .int .i64 0, .int .i64 0, .int .i64 0, .int .i64 0] 66)).alloc (.cells #[.int .i64 0, .int .i64 0, .int .i64 0, .int .i64 0, .int .i64 0] 66)) ∧ (((w.alloc (.cells #[.int .i64 n, .int .i64 x, .int .i64 (f 0), .int .i64 (f 1), .int .i64 (f 2), .int .i64 (f 3), .int .i64 (f 4)] 68)).alloc (.cells #[.int .i64 0, .int .i64 0, .int .i64 0, .int .i64 0, .int .i64 0] 66)).alloc (.cells #[.int .i64 0, .int .i64 0, .int .i64 0, .int .i64 0, .int .i64 0] 66)).heap.size = w.heap.size + 3 := by
  have b1 := (RowKit.Below.refl w.heap.size w).alloc (Nat.le_refl _) (.cells #[.int .i64 n, .int .i64 x, .int .i64 (f 0), .int .i64 (f 1), .int .i64 (f 2), .int .i64 (f 3), .int .i64 (f 4)] 68)
  have b2 := (RowKit.Below.refl _ (w.alloc (.cells #[.int .i64 n, .int .i64 x, .int .i64 (f 0), .int .i64 (f 1), .int .i64 (f 2), .int .i64 (f 3), .int .i64 (f 4)] 68))).alloc (Nat.le_refl _) (.cells #[.int .i64 0, .int .i64 0, .int .i64 0, .int .i64 0, .int .i64 0] 66)
  have b3 := (RowKit.Below.refl _ ((w.alloc (.cells #[.int .i64 n, .int .i64 x, .int .i64 (f 0), .int .i64 (f 1), .int .i64 (f 2), .int .i64 (f 3), .int .i64 (f 4)] 68)).alloc (.cells #[.int .i64 0, .int .i64 0, .int .i64 0, .int .i64 0, .int .i64 0] 66))).alloc (Nat.le_refl _) (.cells #[.int .i64 0, .int .i64 0, .int .i64 0, .int .i64 0, .int .i64 0] 66)
  refine ⟨(((cellsH_new w n x f).below b2).below b3), ?_, ?_, (b1.alloc (by simp) _).alloc (by simp; omega) _, by simp⟩
  · have h0 : RowAt ((w.alloc (.cells #[.int .i64 n, .int .i64 x, .int .i64 (f 0), .int .i64 (f 1), .int .i64 (f 2), .int .i64 (f 3), .int .i64 (f 4)] 68)).alloc (.cells #[.int .i64 0, .int .i64 0, .int .i64 0, .int .i64 0, .int .i64 0] 66)) (w.heap.size + 1) (fun _ => 0) := by
      have := heap_alloc_new (w.alloc (.cells #[.int .i64 n, .int .i64 x, .int .i64 (f 0), .int .i64 (f 1), .int .i64 (f 2), .int .i64 (f 3), .int .i64 (f 4)] 68)) (.cells #[.int .i64 0, .int .i64 0, .int .i64 0, .int .i64 0, .int .i64 0] 66)
      rw [World.size_alloc] at this; exact this
    exact h0.other b3 (by simp)
  · have := heap_alloc_new ((w.alloc (.cells #[.int .i64 n, .int .i64 x, .int .i64 (f 0), .int .i64 (f 1), .int .i64 (f 2), .int .i64 (f 3), .int .i64 (f 4)] 68)).alloc (.cells #[.int .i64 0, .int .i64 0, .int .i64 0, .int .i64 0, .int .i64 0] 66)) (.cells #[.int .i64 0, .int .i64 0, .int .i64 0, .int .i64 0, .int .i64 0] 66)
    rw [World.size_alloc, World.size_alloc] at this; exact this
set_option maxHeartbeats 1000000 in
theorem inOrder_any (n : Nat) (x : Int) (f : Fin 5 → Int) (c : Option Addr) (dap : Nat) (ds : List (Fin 5)) (w : World) (hx : 0 ≤ x ∧ x ≤ 10000000) (hf : ∀ i, Pt (f i)) (hl : ds.length ≤ 1000) (hG : IntsAt w c (valL ds)) :
    Calls Try.prog 70 #[hv n x (f 0) (f 1) (f 2) (f 3) (f 4), .slice c ds.length dap] w fun e w' => e = .returned (agg5 (inF f ds x (fun _ => 0))) ∧ RowKit.Below w.heap.size w w' := by
  obtain ⟨hx1, hx2⟩ := hx
  generalize hr : inF f ds x (fun _ => 0) = r
  have HR := Lib.hid hr; clear hr
  have HGo := Lib.hid hG; clear hG
  have HFf := Lib.hid hf; clear hf
  go_enter Try.func70, Try.ntmps70
  go_wp2_with fail
  obtain ⟨hH, hO, hZ, hB, hS⟩ := in_start w n x f
  generalize (((w.alloc (.cells #[.int .i64 n, .int .i64 x, .int .i64 (f 0), .int .i64 (f 1), .int .i64 (f 2), .int .i64 (f 3), .int .i64 (f 4)] 68)).alloc (.cells #[.int .i64 0, .int .i64 0, .int .i64 0, .int .i64 0, .int .i64 0] 66)).alloc (.cells #[.int .i64 0, .int .i64 0, .int .i64 0, .int .i64 0, .int .i64 0] 66)) = W3 at hH hO hZ hB hS ⊢
  have HH := Lib.hid hH
  have HS := Lib.hid hS
  clear hH hS
  go_loopw [6, 13] (fun lv iv wr => ∃ (k : Nat) (lz : Int) (g : Fin 5 → Int), k ≤ ds.length ∧ iv = .int .i64 k ∧ lv = .int .i64 lz ∧ 0 ≤ lz ∧ lz ≤ 10000000 ∧ RowAt wr (w.heap.size + 1 + 1) g ∧ RowKit.Below (w.heap.size + 1 + 1) W3 wr ∧ Hid (inF f (ds.drop k) lz g = r)) (fun _ iv _ => ds.length - (intOf iv).toNat)
  case atStart => exact ⟨0, x, fun _ => 0, Nat.zero_le _, rfl, rfl, hx1, hx2, hZ, RowKit.Below.refl _ _, by simpa using HR⟩
  case round =>
    obtain ⟨k, lz, g, hk, rfl, rfl, hz, hz', hg, hBr, HG⟩ := hrel
    by_cases hlt : k < ds.length
    · obtain ⟨b, off, rfl, hb, hcell⟩ := HGo.out k (by rw [valL_length]; exact hlt)
      have hcell' := (hBr.cell (p := ⟨b, off + k, none⟩) (by show b < _; omega)).trans ((hB.cell (p := ⟨b, off + k, none⟩) hb).trans hcell)
      rw [valL_nth ds k hlt] at hcell'
      have hHr := cellH_at (cellsH.bel hBr (by omega) HH.out) ds[k]
      have hdr : ds.drop k = ds[k] :: ds.drop (k + 1) := List.drop_eq_getElem_cons hlt
      rw [hdr] at HG
      have hst := hg.free (ds[k]).val
      have hgc := hg.cell ds[k]
      have hset := hg.set ds[k]
      have hmb := HFf.out ds[k]
      have hib := (ds[k]).isLt
      generalize ds[k] = i at hcell' hHr hst hgc hset hmb HG hib
      have HSET := Lib.hid hset
      clear hset hdr
      obtain ⟨hm0, hm1⟩ := hmb
      have hi5 : ((i.val : Nat) : Int) < 5 := by omega
      go_wp2
      go_roundw
      case rel =>
        exact ⟨k + 1, _, _, by omega, by go_num, rfl, by omega, by omega, (HSET.out _ : RowAt (wr.setCell _ _) _ _), (hBr.setCell (p := ⟨w.heap.size + 1 + 1, i.val, none⟩) (Nat.le_refl _) _), HG⟩
      case measure => simp [intOf]; omega
    · obtain rfl : k = ds.length := by omega
      have HG' : Hid (g = r) := by
        have := HG.out; rw [List.drop_of_length_le (Nat.le_refl _)] at this; exact this
      have g0 : wr.cell? ⟨w.heap.size + 1 + 1, 0, none⟩ = some (.int .i64 (g 0)) := hg.cell 0
      have g1 : wr.cell? ⟨w.heap.size + 1 + 1, 1, none⟩ = some (.int .i64 (g 1)) := hg.cell 1
      have g2 : wr.cell? ⟨w.heap.size + 1 + 1, 2, none⟩ = some (.int .i64 (g 2)) := hg.cell 2
      have g3 : wr.cell? ⟨w.heap.size + 1 + 1, 3, none⟩ = some (.int .i64 (g 3)) := hg.cell 3
      have g4 : wr.cell? ⟨w.heap.size + 1 + 1, 4, none⟩ = some (.int .i64 (g 4)) := hg.cell 4
      have hy := hO.other hBr (by omega)
      have z0 : wr.cell? ⟨w.heap.size + 1, 0, none⟩ = some (.int .i64 0) := hy.cell 0
      have z1 : wr.cell? ⟨w.heap.size + 1, 1, none⟩ = some (.int .i64 0) := hy.cell 1
      have z2 : wr.cell? ⟨w.heap.size + 1, 2, none⟩ = some (.int .i64 0) := hy.cell 2
      have z3 : wr.cell? ⟨w.heap.size + 1, 3, none⟩ = some (.int .i64 0) := hy.cell 3
      have z4 : wr.cell? ⟨w.heap.size + 1, 4, none⟩ = some (.int .i64 0) := hy.cell 4
      have f0 : wr.frozen? ⟨w.heap.size + 1, 0, none⟩ = false := hy.free 0
      have f1 : wr.frozen? ⟨w.heap.size + 1, 1, none⟩ = false := hy.free 1
      have f2 : wr.frozen? ⟨w.heap.size + 1, 2, none⟩ = false := hy.free 2
      have f3 : wr.frozen? ⟨w.heap.size + 1, 3, none⟩ = false := hy.free 3
      have f4 : wr.frozen? ⟨w.heap.size + 1, 4, none⟩ = false := hy.free 4
      clear hy hg hz' HG
      go_wp2
      refine bodyPost_ret (v := agg5 g) (by simp [results, Try.results70, go_sem, *]) rfl ⟨?_, ?_⟩
      · rw [HG'.out]
      · have hBw := hB.trans (hBr.mono (by omega))
        exact ((((hBw.setCell (by simp) _).setCell (by simp) _).setCell (by simp) _).setCell (by simp) _).setCell (by simp) _
end Go.Proofs.Ytdnbdaegahcoeaa
