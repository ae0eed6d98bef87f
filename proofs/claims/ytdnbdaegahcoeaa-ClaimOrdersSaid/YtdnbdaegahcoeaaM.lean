/- Layer 1: orders, in which each house is once. -/
import Derived.Test.YtdnbdaegahcoeaaL
namespace Go.Proofs.Ytdnbdaegahcoeaa
open Go.RowKit Go.Sort
/-- five bools. -/
def cellsB (f : Fin 5 → Bool) : Array Value := #[.bool (f 0), .bool (f 1), .bool (f 2), .bool (f 3), .bool (f 4)]
abbrev updB (g : Fin 5 → Bool) (i : Fin 5) : Fin 5 → Bool := fun j => if j = i then true else g j
theorem cellsB_upd (g : Fin 5 → Bool) (i : Fin 5) : (cellsB g).setIfInBounds i.val (.bool true) = cellsB (updB g i) := by
  match i with
  | 0 => rfl
  | 1 => rfl
  | 2 => rfl
  | 3 => rfl
  | 4 => rfl
theorem cellsB_get (g : Fin 5 → Bool) (i : Fin 5) : (cellsB g)[i.val]? = some (.bool (g i)) := by
  match i with
  | 0 => rfl
  | 1 => rfl
  | 2 => rfl
  | 3 => rfl
  | 4 => rfl
def BoolAt (w : World) (b : Nat) (g : Fin 5 → Bool) : Prop := w.heap[b]? = some (.cells (cellsB g) 100 (0, 0))
theorem BoolAt.cell {w : World} {b : Nat} {g : Fin 5 → Bool} (h : BoolAt w b g) (i : Fin 5) : w.cell? ⟨b, i.val, none⟩ = some (.bool (g i)) := by
  rw [cell_of_row w b i.val _ _ _ h]; exact cellsB_get g i
theorem BoolAt.free {w : World} {b : Nat} {g : Fin 5 → Bool} (h : BoolAt w b g) (i : Nat) : w.frozen? ⟨b, i, none⟩ = false := frozen_of_row w b i _ _ h
theorem BoolAt.lt {w : World} {b : Nat} {g : Fin 5 → Bool} (h : BoolAt w b g) : b < w.heap.size := (Array.getElem?_eq_some_iff.1 h).1
theorem BoolAt.set {w : World} {b : Nat} {g : Fin 5 → Bool} (h : BoolAt w b g) (i : Fin 5) : BoolAt (w.setCell ⟨b, i.val, none⟩ (.bool true)) b (updB g i) := by
  have hlt := h.lt
  have h' : w.heap[b] = .cells (cellsB g) 100 (0, 0) := by
    have := h; unfold BoolAt at this
    simpa [Array.getElem?_eq_getElem hlt] using this
  show (w.heap.modify b _)[b]? = _
  rw [Array.getElem?_eq_getElem (by simpa using hlt), Array.getElem_modify_self, h', ← cellsB_upd]; rfl
/-- the first number of an order with an error: none, or one that occurs before. -/
def onceF (n : Nat) : List Int → (Fin 5 → Bool) → Int
  | [], _ => 0
  | i :: o, g => if h : 0 ≤ i ∧ i < n ∧ i.toNat < 5 then (if g ⟨i.toNat, h.2.2⟩ then 6 else onceF n o (updB g ⟨i.toNat, h.2.2⟩)) else 2
def onceE (n : Nat) (os : List Int) : Int := if os.length ≠ n then 5 else onceF n os (fun _ => false)
theorem drop_nth (os : List Int) (k : Nat) (h : k < os.length) : os.drop k = nth os k :: os.drop (k + 1) := by
  rw [List.drop_eq_getElem_cons h, nth_eq, List.getElem?_eq_getElem h]; rfl
theorem once_start (w : World) (hb : Array Value) (v : Value) (hv : hb[0]? = some v) :
    ((w.alloc (.cells hb 68)).alloc (.cells #[.bool false, .bool false, .bool false, .bool false, .bool false] 100)).cell? ⟨w.heap.size, 0, none⟩ = some v ∧ BoolAt ((w.alloc (.cells hb 68)).alloc (.cells #[.bool false, .bool false, .bool false, .bool false, .bool false] 100)) (w.heap.size + 1) (fun _ => false) ∧
    RowKit.Below w.heap.size w ((w.alloc (.cells hb 68)).alloc (.cells #[.bool false, .bool false, .bool false, .bool false, .bool false] 100)) := by
  refine ⟨?_, ?_, ((RowKit.Below.refl _ _).alloc (Nat.le_refl _) _).alloc (by simp) _⟩
  · rw [World.cell?_alloc_past _ _ _ (by simp), World.cell?_alloc_at _ _ _ _ rfl]; exact hv
  · have := heap_alloc_new (w.alloc (.cells hb 68)) (.cells #[.bool false, .bool false, .bool false, .bool false, .bool false] 100)
    rw [World.size_alloc] at this; exact this
set_option maxHeartbeats 1000000 in
theorem eachOnce_any (n : Nat) (hn : n ≤ 5) (x : Int) (f : Fin 5 → Int) (c : Option Addr) (dap : Nat) (os : List Int) (w : World) (hl : os.length ≤ 9223372036854775807) (hG : IntsAt w c os) :
    Calls Try.prog 69 #[hv n x (f 0) (f 1) (f 2) (f 3) (f 4), .slice c os.length dap] w fun e w' => e = .returned (.int .i64 (onceE n os)) ∧ RowKit.Below w.heap.size w w' := by
  by_cases hlen : os.length = n
  · have e : onceE n os = onceF n os (fun _ => false) := by unfold onceE; rw [if_neg (by simpa using hlen)]
    rw [e]
    generalize hr : onceF n os (fun _ => false) = r
    have HR := Lib.hid hr; clear hr e
    have HLEN := Lib.hid hlen
    have hne : ((os.length : Int) != n) = false := by simp; omega
    have HGo := Lib.hid hG; clear hG hlen
    go_enter Try.func69, Try.ntmps69
    go_wp2_with fail
    obtain ⟨hc0, hb0, hB⟩ := once_start w #[.int .i64 n, .int .i64 x, .int .i64 (f 0), .int .i64 (f 1), .int .i64 (f 2), .int .i64 (f 3), .int .i64 (f 4)] _ rfl
    generalize ((w.alloc (.cells #[.int .i64 n, .int .i64 x, .int .i64 (f 0), .int .i64 (f 1), .int .i64 (f 2), .int .i64 (f 3), .int .i64 (f 4)] 68)).alloc (.cells #[.bool false, .bool false, .bool false, .bool false, .bool false] 100)) = W2 at hc0 hb0 hB ⊢
    go_loopw [15] (fun iv wr => ∃ (k : Nat) (g : Fin 5 → Bool), k ≤ os.length ∧ iv = .int .i64 k ∧ BoolAt wr (w.heap.size + 1) g ∧ RowKit.Below (w.heap.size + 1) W2 wr ∧ Hid (onceF n (os.drop k) g = r)) (fun iv _ => os.length - (intOf iv).toNat)
    case atStart => exact ⟨0, fun _ => false, Nat.zero_le _, rfl, hb0, RowKit.Below.refl _ _, by simpa using HR⟩
    case round =>
      obtain ⟨k, g, hk, rfl, hg, hBr, HG⟩ := hrel
      have hBw := hB.trans (hBr.mono (by omega))
      by_cases hlt : k < os.length
      · obtain ⟨b, off, rfl, hb, hcell⟩ := HGo.out k hlt
        have hcell' := (hBr.cell (p := ⟨b, off + k, none⟩) (by show b < _; omega)).trans ((hB.cell (p := ⟨b, off + k, none⟩) hb).trans hcell)
        have hc0' := (hBr.cell (p := ⟨w.heap.size, 0, none⟩) (by show w.heap.size < _; omega)).trans hc0
        rw [drop_nth os k hlt] at HG
        generalize nth os k = i at hcell hcell' HG
        by_cases hin : 0 ≤ i ∧ i < n
        · obtain ⟨hi0, hi1⟩ := hin
          have hi5 : i.toNat < 5 := by omega
          have hbt : (decide (0 ≤ i) && decide (i < (n : Int))) = true := by simp; omega
          have hst := hg.free i.toNat
          have hgc := hg.cell ⟨i.toNat, hi5⟩
          have hset := hg.set ⟨i.toNat, hi5⟩
          have hi5' : i < 5 := by omega
          dsimp only at hgc hset
          obtain ⟨q, rfl⟩ := Int.eq_ofNat_of_zero_le hi0
          simp only [Int.toNat_natCast] at hst hgc hset hi5 HG
          cases hgq : g ⟨q, hi5⟩ with
          | true =>
            have E : Hid (r = 6) := by
              have := HG.out; unfold onceF at this
              rw [dif_pos ⟨by omega, by omega, by simpa using hi5⟩] at this
              simp only [Int.toNat_natCast] at this
              rw [if_pos hgq] at this
              exact this.symm
            rw [hgq] at hgc
            clear hset HG hgq hi0
            go_wp2_with (go_at_call 79; refine (isIndex_any _ _ _).mono ?_; rintro e w' ⟨rfl, rfl⟩)
            go_ret
            exact ⟨ret_int E.out.symm, hBw⟩
          | false =>
            have E : Hid (onceF n (os.drop (k + 1)) (updB g ⟨q, hi5⟩) = r) := by
              have := HG.out; unfold onceF at this
              rw [dif_pos ⟨by omega, by omega, by simpa using hi5⟩] at this
              simp only [Int.toNat_natCast] at this
              rw [if_neg (by simp [hgq])] at this
              exact this
            rw [hgq] at hgc
            have HSET := Lib.hid hset
            clear hset HG hgq hi0
            go_wp2_with (go_at_call 79; refine (isIndex_any _ _ _).mono ?_; rintro e w' ⟨rfl, rfl⟩)
            go_roundw
            case rel => exact ⟨k + 1, _, by omega, by go_num, HSET.out, hBr.setCell (p := ⟨w.heap.size + 1, q, none⟩) (Nat.le_refl _) _, E⟩
            case measure => simp [intOf]; omega
        · have E : Hid (r = 2) := by
            have := HG.out; unfold onceF at this
            rw [dif_neg (by omega)] at this
            exact this.symm
          have hbt : (decide (0 ≤ i) && decide (i < (n : Int))) = false := by
            rw [Bool.and_eq_false_iff]; simp only [decide_eq_false_iff_not]; omega
          clear HG hin
          go_wp2_with (go_at_call 79; refine (isIndex_any _ _ _).mono ?_; rintro e w' ⟨rfl, rfl⟩)
          go_ret
          exact ⟨ret_int E.out.symm, hBw⟩
      · have hke : os.drop k = [] := List.drop_of_length_le (by omega)
        have E : Hid (r = 0) := by have := HG.out; rw [hke] at this; exact this.symm
        clear hke HG
        go_wp2
        go_ret
        exact ⟨ret_int E.out.symm, hBw⟩
  · have e : onceE n os = 5 := by unfold onceE; rw [if_pos hlen]
    rw [e]
    have hne : ((os.length : Int) != n) = true := by simp; omega
    clear hG hlen e
    go_enter Try.func69, Try.ntmps69
    go_wp2
    go_ret
    exact ⟨rfl, (RowKit.Below.refl _ _).alloc (Nat.le_refl _) _⟩
end Go.Proofs.Ytdnbdaegahcoeaa
