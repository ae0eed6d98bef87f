/- Layer 2, of layer 1: what one of equal parts, but of none more than its most, gives out. -/
import Derived.Test.YtimddkofcejijaaVB
namespace Go.Proofs.Ytimddkofcejijaa.Cl
open Go.RowKit Go.Sort
set_option maxRecDepth 100000
theorem below_putRow {w w0 : World} {B blk : Nat} (h : RowKit.Below B w0 w) (hb : B ≤ blk) (d : Array (Fin 5)) : RowKit.Below B w0 (putRow enc5 w blk 0 d) :=
  h.trans ⟨rfl, rfl, rfl, by simp, fun k hk => by
    show (w.heap.modify blk _)[k]? = _
    rw [Array.getElem?_modify, if_neg (by omega)]⟩
theorem below_drewN {w w0 : World} {B : Nat} (h : RowKit.Below B w0 w) (n : Nat) : RowKit.Below B w0 (w.drewN n) := h.trans ⟨rfl, rfl, rfl, Nat.le_refl _, fun _ _ => rfl⟩
theorem swo5 (f : Fin 5 → Int) : SWO (ltOf fun i j => cmpI (f i) (f j)) := by
  have e : ∀ i j, (ltOf fun i j => cmpI (f i) (f j)) i j = decide (f i < f j) := fun i j => by
    show decide (cmpI (f i) (f j) < 0) = _
    unfold cmpI; split
    · simp [*]
    · split <;> simp [*] <;> omega
  refine ⟨fun x => ?_, fun x y z => ?_, fun x y z => ?_⟩ <;> simp only [e, decide_eq_true_eq, decide_eq_false_iff_not] <;> omega
theorem lt5_eq (f : Fin 5 → Int) (i j : Fin 5) : (ltOf fun i j => cmpI (f i) (f j)) i j = decide (f i < f j) := by
  show decide (cmpI (f i) (f j) < 0) = _
  unfold cmpI; split
  · simp [*]
  · split <;> simp [*] <;> omega
theorem sorted5_spec (f : Fin 5 → Int) (d : Array (Fin 5)) : PermIn 0 d.size d (sorted5 f d) ∧ SortedIn (ltOf fun i j => cmpI (f i) (f j)) 0 d.size (sorted5 f d) :=
  insertionSort_holds (swo5 f) d 0 d.size (Nat.zero_le _) (Nat.le_refl _)
theorem sorted5_size (f : Fin 5 → Int) (d : Array (Fin 5)) : (sorted5 f d).size = d.size := (sorted5_spec f d).1.1
theorem drop_getElem! (od : Array (Fin 5)) (k : Nat) (h : k < od.size) : od.toList.drop k = od[k]! :: od.toList.drop (k + 1) := by
  rw [List.drop_eq_getElem_cons (by simpa using h)]
  congr 1
  simp [h]
theorem lev_start (w : World) (hb z : Array Value) (m : Fin 5 → Int) (v : Value) (hv : hb[0]? = some v) :
    RowAt (((w.alloc (.cells hb 111)).alloc (.cells (cells5 m) 109)).alloc (.cells z 109)) (w.heap.size + 1) m ∧
    (((w.alloc (.cells hb 111)).alloc (.cells (cells5 m) 109)).alloc (.cells z 109)).heap.size = w.heap.size + 3 ∧
    (((w.alloc (.cells hb 111)).alloc (.cells (cells5 m) 109)).alloc (.cells z 109)).cell? ⟨w.heap.size, 0, none⟩ = some v ∧
    RowKit.Below w.heap.size w (((w.alloc (.cells hb 111)).alloc (.cells (cells5 m) 109)).alloc (.cells z 109)) ∧
    (((w.alloc (.cells hb 111)).alloc (.cells (cells5 m) 109)).alloc (.cells z 109)).heap[w.heap.size + 1 + 1]? = some (.cells z 109 (0, 0)) := by
  have hR0 : RowAt ((w.alloc (.cells hb 111)).alloc (.cells (cells5 m) 109)) (w.heap.size + 1) m := by
    unfold RowAt; have := heap_alloc_new (w.alloc (.cells hb 111)) (.cells (cells5 m) 109)
    simpa using this
  refine ⟨hR0.other ((RowKit.Below.refl _ _).alloc (Nat.le_refl _) _) (by simp), by simp, ?_, ((((RowKit.Below.refl _ _).alloc (Nat.le_refl _) _).alloc (by simp) _).alloc (by simp; omega) _), ?_⟩
  · rw [World.cell?_alloc_past _ _ _ (by simp; omega), World.cell?_alloc_past _ _ _ (by simp), World.cell?_alloc_at _ _ _ _ (by simp)]; exact hv
  · have := heap_alloc_new ((w.alloc (.cells hb 111)).alloc (.cells (cells5 m) 109)) (.cells z 109)
    simpa using this
set_option maxHeartbeats 1000000 in
theorem level_any (n : Nat) (h1 : 1 ≤ n) (h5 : n ≤ 5) (x a b c d e p : Int) (m : Fin 5 → Int) (w : World) (hp : 0 ≤ p) (hp' : p ≤ 10000000) (hm : ∀ i, Pt (m i)) :
    Calls Try.prog 91 #[hv n x a b c d e, .int .i64 p, .agg (cells5 m)] w fun r w' =>
      r = .returned (.agg (cells5 (levRun m n 0 (sorted5 m (idx5 n)).toList p (fun _ => 0)))) ∧ RowKit.Below w.heap.size w w' := by
  have HN := Lib.hid (numbers_any n h1 h5 x a b c d e)
  have hsz : (idx5 n).size = n := by simp [idx5]; omega
  go_enter Try.func91, Try.ntmps91
  go_wp2_with fail
  obtain ⟨HR, HS, HC, HB, HZ⟩ := lev_start w #[.int .i64 n, .int .i64 x, .int .i64 a, .int .i64 b, .int .i64 c, .int .i64 d, .int .i64 e] #[.int .i64 0, .int .i64 0, .int .i64 0, .int .i64 0, .int .i64 0] m _ rfl
  generalize (((w.alloc (Obj.cells #[.int .i64 n, .int .i64 x, .int .i64 a, .int .i64 b, .int .i64 c, .int .i64 d, .int .i64 e] 111)).alloc (.cells (cells5 m) 109)).alloc (.cells #[.int .i64 0, .int .i64 0, .int .i64 0, .int .i64 0, .int .i64 0] 109)) = W3 at HR HS HC HB HZ ⊢
  refine (HN.out W3).mono ?_
  rintro r w1 ⟨rfl, hH, hB1, hs1⟩
  have HS' : W3.heap.size = w.heap.size + 3 := HS
  rw [HS'] at hH hs1 ⊢
  have HR1 : RowAt w1 (w.heap.size + 1) m := HR.other hB1 (by omega)
  have HZ1 : RowAt w1 (w.heap.size + 1 + 1) (fun _ => 0) := RowAt.other (g := fun _ => 0) HZ hB1 (by omega)
  have HC1 : w1.cell? ⟨w.heap.size, 0, none⟩ = some (.int .i64 n) := (hB1.cell (p := ⟨w.heap.size, 0, none⟩) (by show w.heap.size < _; omega)).trans HC
  have HB1 : RowKit.Below w.heap.size w w1 := HB.trans (hB1.mono (by omega))
  have hs1' : w1.heap.size = w.heap.size + 5 := by omega
  clear HN HR HS HC HB HZ hB1 hs1 HS'
  have HSo := sort_any m (w.heap.size + 1) (w.heap.size + 3 + 1) n (idx5 n) w1 (by omega) (by omega) (fun k => HR1.cell k) hH (by omega)
  rw [hsz] at HSo
  have HSO := Lib.hid HSo
  have HH := Lib.hid hH
  have HSZ := Lib.hid hsz
  have HS1 := Lib.hid hs1'
  clear HSo hH hsz hs1'
  have hod : (sorted5 m (idx5 n)).size = n := by rw [sorted5_size, HSZ.out]
  generalize hso : sorted5 m (idx5 n) = od at HSO hod
  generalize hG : levRun m n 0 od.toList p (fun _ => 0) = G
  have HSOE := Lib.hid hso
  clear hso
  go_wp2_with fail
  refine (HSO.out).mono ?_
  rintro r w2 ⟨rfl, q, hw2⟩
  have HR2 : RowAt w2 (w.heap.size + 1) m := by
    rw [hw2]; exact HR1.other (below_drewN (below_putRow (B := w.heap.size + 3 + 1) (RowKit.Below.refl _ _) (Nat.le_refl _) _) _) (by omega)
  have HZ2 : RowAt w2 (w.heap.size + 1 + 1) (fun _ => 0) := by
    rw [hw2]; exact HZ1.other (below_drewN (below_putRow (B := w.heap.size + 3 + 1) (RowKit.Below.refl _ _) (Nat.le_refl _) _) _) (by omega)
  have HC2 : w2.cell? ⟨w.heap.size, 0, none⟩ = some (.int .i64 n) := by
    rw [← HC1, hw2]; exact (below_drewN (below_putRow (B := w.heap.size + 3 + 1) (RowKit.Below.refl _ _) (Nat.le_refl _) _) _).cell (p := ⟨w.heap.size, 0, none⟩) (by show w.heap.size < _; omega)
  have HB2 : RowKit.Below w.heap.size w w2 := by
    rw [hw2]; exact below_drewN (below_putRow HB1 (by omega) _) _
  have HS2 : w2.heap.size = w.heap.size + 5 := by rw [hw2]; simpa using HS1.out
  have HO2 : ∀ k, k < n → w2.cell? ⟨w.heap.size + 3 + 1, k, none⟩ = some (enc5 od[k]!) := fun k hk => by
    have := (holds_putRow enc5 w1 (w.heap.size + 3 + 1) 0 (idx5 n) od HH.out (by rw [hod, HSZ.out]) k (by omega)).1
    rw [hw2]; simpa using this
  have HS2h := Lib.hid HS2
  have HODh := Lib.hid hod
  clear hw2 HH HSZ HS1 HSO HR1 HC1 HB1 HZ1 HS2 hod
  have HO2h := Lib.hid HO2
  clear HO2
  have HGh := Lib.hid hG
  clear hG
  go_wp2
  go_loopw [1, 18] (fun pv iv wr => ∃ (k : Nat) (pz : Int) (g : Fin 5 → Int), k ≤ n ∧ iv = .int .i64 k ∧ pv = .int .i64 pz ∧ 0 ≤ pz ∧ pz ≤ 10000000 ∧ RowAt wr w2.heap.size g ∧ RowKit.Below w2.heap.size w2 wr ∧ Hid (levRun m n k (od.toList.drop k) pz g = G)) (fun _ iv _ => n - (intOf iv).toNat)
  case atStart =>
    exact ⟨0, p, fun _ => 0, Nat.zero_le _, rfl, rfl, hp, hp', heap_alloc_new w2 _, (RowKit.Below.refl _ _).alloc (Nat.le_refl _) _, by simpa using HGh⟩
  case round =>
    obtain ⟨k, pz, g, hk, rfl, rfl, hz, hz', hg, hBr, HG⟩ := hrel
    by_cases hlt : k < n
    · have hord := (hBr.cell (p := ⟨w.heap.size + 3 + 1, k, none⟩) (by show w.heap.size + 3 + 1 < _; have := HS2h.out; omega)).trans (HO2h.out k hlt)
      have hmany := (hBr.cell (p := ⟨w.heap.size, 0, none⟩) (by show w.heap.size < _; have := HS2h.out; omega)).trans HC2
      have hmost := (HR2.other hBr (by have := HS2h.out; omega)).cell od[k]!
      have hst := hg.free (od[k]!).val
      have hgc := hg.cell od[k]!
      have hset := hg.set od[k]!
      have hmb := hm od[k]!
      have hdr := drop_getElem! od k (by rw [HODh.out]; exact hlt)
      rw [hdr] at HG
      have hib := (od[k]!).isLt
      generalize od[k]! = i at hord hmost hst hgc hset hmb HG hib
      unfold enc5 at hord
      have HSET := Lib.hid hset
      clear hset hdr
      obtain ⟨hm0, hm1⟩ := hmb
      have hi5 : ((i.val : Nat) : Int) < 5 := by omega
      have hnk : (0 : Int) < n - k := by omega
      have hq0 : 0 ≤ pz / ((n : Int) - k) := Int.ediv_nonneg hz (by omega)
      have hq1 : pz / ((n : Int) - k) ≤ pz := Int.ediv_le_self _ hz
      go_wp2
      go_region
      go_wp2
      go_roundw
      case rel =>
        exact ⟨k + 1, _, _, by omega, by go_num, rfl, by omega, by omega, (HSET.out _ : RowAt (wr.setCell _ _) _ _), (hBr.setCell (p := ⟨w2.heap.size, i.val, none⟩) (Nat.le_refl _) _).drew, HG⟩
      case measure => simp [intOf]; omega
    · obtain rfl : k = n := by omega
      have HG' : Hid (g = G) := by
        have := HG.out; rw [List.drop_of_length_le (by simp [HODh.out])] at this; exact this
      have g0 : wr.cell? ⟨w2.heap.size, 0, none⟩ = some (.int .i64 (g 0)) := hg.cell 0
      have g1 : wr.cell? ⟨w2.heap.size, 1, none⟩ = some (.int .i64 (g 1)) := hg.cell 1
      have g2 : wr.cell? ⟨w2.heap.size, 2, none⟩ = some (.int .i64 (g 2)) := hg.cell 2
      have g3 : wr.cell? ⟨w2.heap.size, 3, none⟩ = some (.int .i64 (g 3)) := hg.cell 3
      have g4 : wr.cell? ⟨w2.heap.size, 4, none⟩ = some (.int .i64 (g 4)) := hg.cell 4
      have hz := HZ2.other hBr (by have := HS2h.out; omega)
      have z0 : wr.cell? ⟨w.heap.size + 1 + 1, 0, none⟩ = some (.int .i64 0) := hz.cell 0
      have z1 : wr.cell? ⟨w.heap.size + 1 + 1, 1, none⟩ = some (.int .i64 0) := hz.cell 1
      have z2 : wr.cell? ⟨w.heap.size + 1 + 1, 2, none⟩ = some (.int .i64 0) := hz.cell 2
      have z3 : wr.cell? ⟨w.heap.size + 1 + 1, 3, none⟩ = some (.int .i64 0) := hz.cell 3
      have z4 : wr.cell? ⟨w.heap.size + 1 + 1, 4, none⟩ = some (.int .i64 0) := hz.cell 4
      have f0 : wr.frozen? ⟨w.heap.size + 1 + 1, 0, none⟩ = false := hz.free 0
      have f1 : wr.frozen? ⟨w.heap.size + 1 + 1, 1, none⟩ = false := hz.free 1
      have f2 : wr.frozen? ⟨w.heap.size + 1 + 1, 2, none⟩ = false := hz.free 2
      have f3 : wr.frozen? ⟨w.heap.size + 1 + 1, 3, none⟩ = false := hz.free 3
      have f4 : wr.frozen? ⟨w.heap.size + 1 + 1, 4, none⟩ = false := hz.free 4
      clear hz hg hz'
      go_wp2
      refine bodyPost_ret (v := .agg (cells5 g)) (by unfold cells5; simp [results, Try.results91, go_sem, *]) rfl ⟨?_, ?_⟩
      · rw [HSOE.out, HGh.out, HG'.out]
      · have hBw := HB2.trans (hBr.mono (by have := HS2h.out; omega))
        exact ((((hBw.setCell (by simp; omega) _).setCell (by simp; omega) _).setCell (by simp; omega) _).setCell (by simp; omega) _).setCell (by simp; omega) _
end Go.Proofs.Ytimddkofcejijaa.Cl
