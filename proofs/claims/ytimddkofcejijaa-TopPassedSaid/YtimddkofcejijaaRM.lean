/- Layer 2: a cart goes through a street. -/
import Derived.Test.YtimddkofcejijaaRL
namespace Go.Proofs.Ytimddkofcejijaa
open Go.RowKit Go.Sort
abbrev cartI (x : Int) (l g : Nat) : Value := .agg #[.int .i64 x, sv l, sv g]
/-- the block b holds a cart, and may be written. -/
def BoxC (w : World) (b : Nat) (x : Int) (l g : Nat) : Prop := b < w.heap.size ∧ w.cell? ⟨b, 0, none⟩ = some (.int .i64 x) ∧ w.cell? ⟨b, 1, none⟩ = some (sv l) ∧ w.cell? ⟨b, 2, none⟩ = some (sv g) ∧ w.frozen? ⟨b, 0, none⟩ = false ∧ w.frozen? ⟨b, 1, none⟩ = false ∧ w.frozen? ⟨b, 2, none⟩ = false
theorem BoxC.fut {w w' : World} {b : Nat} {x : Int} {l g : Nat} (h : BoxC w b x l g) (F : Fut w w') : BoxC w' b x l g :=
  ⟨Nat.lt_of_lt_of_le h.1 (RowKit.Below.size F), (RowKit.Below.cell F (p := ⟨b, 0, none⟩) h.1).trans h.2.1, (RowKit.Below.cell F (p := ⟨b, 1, none⟩) h.1).trans h.2.2.1, (RowKit.Below.cell F (p := ⟨b, 2, none⟩) h.1).trans h.2.2.2.1,
   (RowKit.Below.frozen F (p := ⟨b, 0, none⟩) h.1).trans h.2.2.2.2.1, (RowKit.Below.frozen F (p := ⟨b, 1, none⟩) h.1).trans h.2.2.2.2.2.1, (RowKit.Below.frozen F (p := ⟨b, 2, none⟩) h.1).trans h.2.2.2.2.2.2⟩
set_option maxRecDepth 100000 in
set_option maxHeartbeats 2000000 in
theorem through_t (c : Int) (a : Option Addr) (cap : Nat) (ss : List (Int × Int)) (x : Int) (l g i : Nat) (w : World) (hS : StrAt w a ss) (hl : ss.length ≤ 15) (hi : i < ss.length) (hp : Sm (str ss i)) (hx : 0 ≤ x ∧ x ≤ 15) (_hll : l < 65536) (hg : g < 65536) (hb : g.testBit i = true) :
    Calls Try.prog 100 #[mapV c a ss.length cap, cartI x l g, .int .i64 i] w fun e w' => e = .returned (cartI ((str ss i).1 + (str ss i).2 - x) (l) (dif g (2 ^ i))) ∧ Fut w w' := by
  have HO := Lib.hid (fun W (F : Fut w W) => other_any c a cap ss i x W (hS.fut F) hi (by omega) hp hx)
  have HH := Lib.hid (fun W => has_any g i W hg (by omega))
  have H1 := Lib.hid (fun W => one_any i W (by omega))
  have hp2 := pow_lt i (by omega)
  have e : bits BinOp.andNot IntKind.u64 (g : Int) ((2 ^ i : Nat) : Int) = ((dif g (2 ^ i) : Nat) : Int) := by
    rw [← dif_eq64 g (2 ^ i) (by omega) hp2]; exact u64_andNot_nat _ _ (by omega) (by omega)
  rw [hb] at HH
  have hlx : (ss.length : Int) ≤ 15 := by omega
  have hix : (i : Int) < ss.length := by omega
  clear hS hp hb
  generalize (str ss i).1 + (str ss i).2 - x = y at *
  generalize dif g (2 ^ i) = q at *
  generalize 2 ^ i = I at *
  go_enter Try.func100, Try.ntmps100
  go_wp2_with (go_at_call 71; refine (HH.out _).mono ?_; rintro _ _ ⟨rfl, rfl⟩)
  go_region_with (go_at_call 96; refine (H1.out _).mono ?_; rintro _ _ ⟨rfl, rfl⟩)
  all_goals go_wp2_with fail
  all_goals
    have hFW := (((Fut.alloc w (.cells #[.int .i64 c, .slice a ss.length cap] 24)).trans (Fut.alloc _ (.cells #[.int .i64 x, sv l, sv q] 123))).trans (Fut.alloc _ (.cells #[.int .i64 0, .int .u64 0, .int .u64 0] 123))).trans (Fut.drewN _ 1)
    refine (HO.out _ hFW).mono ?_
    rintro _ wa ⟨rfl, F⟩
    have k1 : BoxC wa (w.heap.size + 1) x l q := BoxC.fut (by refine ⟨by simp, ?_, ?_, ?_, ?_, ?_, ?_⟩ <;> simp [go_sem]) F
    have k2 : BoxC wa (w.heap.size + 2) 0 0 0 := BoxC.fut (by refine ⟨by simp, ?_, ?_, ?_, ?_, ?_, ?_⟩ <;> simp [go_sem]) F
    have HF := Lib.hid (hFW.trans F)
    have hz : w.heap.size + 2 < wa.heap.size := k2.1
    clear hFW F
    generalize hB : w.heap.size = B at *
    obtain ⟨hb1, k10, k11, k12, k13, k14, k15⟩ := k1
    obtain ⟨hb2, k20, k21, k22, k23, k24, k25⟩ := k2
    have HBB := Lib.hid hB
    clear hB
    go_wp2
    refine bodyPost_ret (v := cartI y l q) (by simp [results, Try.results100, go_sem, *]) rfl ⟨rfl, ?_⟩
    have hle : w.heap.size ≤ B := Nat.le_of_eq HBB.out
    exact (((HF.out.setCell (by show _ ≤ B + 1; omega) _).setCell (by show _ ≤ B + 1 + 1; omega) _).setCell (by show _ ≤ B + 1 + 1; omega) _).setCell (by show _ ≤ B + 1 + 1; omega) _
set_option maxRecDepth 100000 in
set_option maxHeartbeats 2000000 in
theorem through_f (c : Int) (a : Option Addr) (cap : Nat) (ss : List (Int × Int)) (x : Int) (l g i : Nat) (w : World) (hS : StrAt w a ss) (hl : ss.length ≤ 15) (hi : i < ss.length) (hp : Sm (str ss i)) (hx : 0 ≤ x ∧ x ≤ 15) (hll : l < 65536) (hg : g < 65536) (hb : g.testBit i = false) :
    Calls Try.prog 100 #[mapV c a ss.length cap, cartI x l g, .int .i64 i] w fun e w' => e = .returned (cartI ((str ss i).1 + (str ss i).2 - x) (dif l (2 ^ i)) (g)) ∧ Fut w w' := by
  have HO := Lib.hid (fun W (F : Fut w W) => other_any c a cap ss i x W (hS.fut F) hi (by omega) hp hx)
  have HH := Lib.hid (fun W => has_any g i W hg (by omega))
  have H1 := Lib.hid (fun W => one_any i W (by omega))
  have hp2 := pow_lt i (by omega)
  have e : bits BinOp.andNot IntKind.u64 (l : Int) ((2 ^ i : Nat) : Int) = ((dif l (2 ^ i) : Nat) : Int) := by
    rw [← dif_eq64 l (2 ^ i) (by omega) hp2]; exact u64_andNot_nat _ _ (by omega) (by omega)
  rw [hb] at HH
  have hlx : (ss.length : Int) ≤ 15 := by omega
  have hix : (i : Int) < ss.length := by omega
  clear hS hp hb
  generalize (str ss i).1 + (str ss i).2 - x = y at *
  generalize dif l (2 ^ i) = q at *
  generalize 2 ^ i = I at *
  go_enter Try.func100, Try.ntmps100
  go_wp2_with (go_at_call 71; refine (HH.out _).mono ?_; rintro _ _ ⟨rfl, rfl⟩)
  go_region_with (go_at_call 96; refine (H1.out _).mono ?_; rintro _ _ ⟨rfl, rfl⟩)
  all_goals go_wp2_with fail
  all_goals
    have hFW := (((Fut.alloc w (.cells #[.int .i64 c, .slice a ss.length cap] 24)).trans (Fut.alloc _ (.cells #[.int .i64 x, sv q, sv g] 123))).trans (Fut.alloc _ (.cells #[.int .i64 0, .int .u64 0, .int .u64 0] 123))).trans (Fut.drewN _ 1)
    refine (HO.out _ hFW).mono ?_
    rintro _ wa ⟨rfl, F⟩
    have k1 : BoxC wa (w.heap.size + 1) x q g := BoxC.fut (by refine ⟨by simp, ?_, ?_, ?_, ?_, ?_, ?_⟩ <;> simp [go_sem]) F
    have k2 : BoxC wa (w.heap.size + 2) 0 0 0 := BoxC.fut (by refine ⟨by simp, ?_, ?_, ?_, ?_, ?_, ?_⟩ <;> simp [go_sem]) F
    have HF := Lib.hid (hFW.trans F)
    have hz : w.heap.size + 2 < wa.heap.size := k2.1
    clear hFW F
    generalize hB : w.heap.size = B at *
    obtain ⟨hb1, k10, k11, k12, k13, k14, k15⟩ := k1
    obtain ⟨hb2, k20, k21, k22, k23, k24, k25⟩ := k2
    have HBB := Lib.hid hB
    clear hB
    go_wp2
    refine bodyPost_ret (v := cartI y q g) (by simp [results, Try.results100, go_sem, *]) rfl ⟨rfl, ?_⟩
    have hle : w.heap.size ≤ B := Nat.le_of_eq HBB.out
    exact (((HF.out.setCell (by show _ ≤ B + 1; omega) _).setCell (by show _ ≤ B + 1 + 1; omega) _).setCell (by show _ ≤ B + 1 + 1; omega) _).setCell (by show _ ≤ B + 1 + 1; omega) _
theorem ends_bit {p : Int × Int} (h : Sm p) (x : Nat) : (endsM p).testBit x = (decide (p.1 = x) || decide (p.2 = x)) := by
  obtain ⟨h1, h2, h3, h4⟩ := h
  unfold endsM
  rw [Nat.testBit_or, Nat.testBit_two_pow, Nat.testBit_two_pow]
  congr 1 <;> (congr 1; rw [eq_iff_iff]; constructor <;> intro h <;> omega)
theorem oth_ok {p : Int × Int} (h : Sm p) {x : Nat} (hx : (endsM p).testBit x = true) : 0 ≤ p.1 + p.2 - x ∧ p.1 + p.2 - x ≤ 15 := by
  rw [ends_bit h] at hx
  obtain ⟨h1, h2, h3, h4⟩ := h
  simp at hx
  omega
abbrev cartN (x l g : Nat) : Value := .agg #[.int .i64 x, sv l, sv g]
theorem through_any (c : Int) (a : Option Addr) (cap : Nat) (ss : List (Int × Int)) (x l g i : Nat) (w : World) (hS : StrAt w a ss) (hl : ss.length ≤ 15) (hi : i < ss.length) (hp : Sm (str ss i)) (hx : x ≤ 15) (hll : l < 65536) (hg : g < 65536) (he : (endsM (str ss i)).testBit x = true) :
    Calls Try.prog 100 #[mapV c a ss.length cap, cartN x l g, .int .i64 i] w fun e w' => e = .returned (cartN (thr ss x l g i).1 (thr ss x l g i).2.1 (thr ss x l g i).2.2) ∧ Fut w w' := by
  have ho := oth_ok hp he
  have e1 : ((((str ss i).1 + (str ss i).2 - x).toNat : Nat) : Int) = (str ss i).1 + (str ss i).2 - x := by omega
  cases hb : g.testBit i
  · have := through_f c a cap ss x l g i w hS hl hi hp (by omega) hll hg hb
    simp only [thr, hb, Bool.false_eq_true, if_false, cartN, e1]
    exact this
  · have := through_t c a cap ss x l g i w hS hl hi hp (by omega) hll hg hb
    simp only [thr, hb, if_true, cartN, e1]
    exact this
theorem thr_lt (ss : List (Int × Int)) {x l g i : Nat} (hp : Sm (str ss i)) (he : (endsM (str ss i)).testBit x = true) (hll : l < 65536) (hg : g < 65536) :
    (thr ss x l g i).1 ≤ 15 ∧ (thr ss x l g i).2.1 < 65536 ∧ (thr ss x l g i).2.2 < 65536 := by
  have ho := oth_ok hp he
  refine ⟨by unfold thr; dsimp only; omega, ?_, ?_⟩ <;> (unfold thr; dsimp only; split)
  · exact hll
  · exact Nat.lt_of_le_of_lt (dif_le _ _) hll
  · exact Nat.lt_of_le_of_lt (dif_le _ _) hg
  · exact hg
end Go.Proofs.Ytimddkofcejijaa
