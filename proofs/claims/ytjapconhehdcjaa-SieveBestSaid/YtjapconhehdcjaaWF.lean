/- closure 51: SieveBest's callback (cb8) -/
import Derived.Test.YtjapconhehdcjaaWE
import Derived.Deep.DeepCutAuto
namespace Go.Proofs.Ytjapconhehdcjaa
open Go.RowKit Go.Sort
theorem heap_lt1 {w : World} {B : Nat} {o : Obj} (h : w.heap[B]? = some o) : B < w.heap.size := (Array.getElem?_eq_some_iff.1 h).1
theorem set_far {w : World} {B C : Nat} {o : Obj} (u : Value) (h : w.heap[C]? = some o) (hne : C ≠ B) : (w.setCell ⟨B, 0, none⟩ u).heap[C]? = some o := ((only_set w B 0 u).2.2 C (Array.getElem?_eq_some_iff.1 h).1 hne).trans h
structure St4 (B2 B3 B4 B5 : Nat) (W : World) (v m : Int) (f l : Value) : Prop where
  n : B2 ≠ B3 ∧ B2 ≠ B4 ∧ B2 ≠ B5 ∧ B3 ≠ B4 ∧ B3 ≠ B5 ∧ B4 ≠ B5
  h2 : W.heap[B2]? = some (.cells #[.int .i64 v] 3)
  h3 : W.heap[B3]? = some (.cells #[.int .i64 m] 3)
  h4 : W.heap[B4]? = some (.cells #[f] 22)
  h5 : W.heap[B5]? = some (.cells #[l] 22)
def Z4 (B2 B3 B4 B5 : Nat) (q : Nat) : Prop := q = B2 ∨ q = B3 ∨ q = B4 ∨ q = B5
section
variable {B2 B3 B4 B5 : Nat} {W : World} {v m : Int} {f l : Value}
theorem St4.set2 (h : St4 B2 B3 B4 B5 W v m f l) (x : Int) : St4 B2 B3 B4 B5 (W.setCell ⟨B2, 0, none⟩ (.int .i64 x)) x m f l := ⟨h.n, set_of1 _ h.h2, set_far _ h.h3 (fun e => h.n.1 e.symm), set_far _ h.h4 (fun e => h.n.2.1 e.symm), set_far _ h.h5 (fun e => h.n.2.2.1 e.symm)⟩
theorem St4.set3 (h : St4 B2 B3 B4 B5 W v m f l) (x : Int) : St4 B2 B3 B4 B5 (W.setCell ⟨B3, 0, none⟩ (.int .i64 x)) v x f l := ⟨h.n, set_far _ h.h2 h.n.1, set_of1 _ h.h3, set_far _ h.h4 (fun e => h.n.2.2.2.1 e.symm), set_far _ h.h5 (fun e => h.n.2.2.2.2.1 e.symm)⟩
theorem St4.set4 (h : St4 B2 B3 B4 B5 W v m f l) (x : Value) : St4 B2 B3 B4 B5 (W.setCell ⟨B4, 0, none⟩ x) v m x l := ⟨h.n, set_far _ h.h2 h.n.2.1, set_far _ h.h3 h.n.2.2.2.1, set_of1 _ h.h4, set_far _ h.h5 (fun e => h.n.2.2.2.2.2 e.symm)⟩
theorem St4.set5 (h : St4 B2 B3 B4 B5 W v m f l) (x : Value) : St4 B2 B3 B4 B5 (W.setCell ⟨B5, 0, none⟩ x) v m f x := ⟨h.n, set_far _ h.h2 h.n.2.2.1, set_far _ h.h3 h.n.2.2.2.2.1, set_far _ h.h4 h.n.2.2.2.2.2, set_of1 _ h.h5⟩
theorem St4.fut (h : St4 B2 B3 B4 B5 W v m f l) {W' : World} (F : Fut W W') : St4 B2 B3 B4 B5 W' v m f l := ⟨h.n, below_heap h.h2 F (heap_lt1 h.h2), below_heap h.h3 F (heap_lt1 h.h3), below_heap h.h4 F (heap_lt1 h.h4), below_heap h.h5 F (heap_lt1 h.h5)⟩
theorem But.set {W W' : World} (b : But (Z4 B2 B3 B4 B5) W W') (q : Nat) (hq : Z4 B2 B3 B4 B5 q) (u : Value) : But (Z4 B2 B3 B4 B5) W (W'.setCell ⟨q, 0, none⟩ u) := b.setCell (p := ⟨q, 0, none⟩) (.inl hq) u
end
def R51 (B2 B3 B4 B5 : Nat) (w' : World) (v : Int) (m : Nat) (f l R : Value) (q : Int) : Prop := ((v < 0 ∨ q < v) ∧ St4 B2 B3 B4 B5 w' q 1 R R) ∨ (¬ v < 0 ∧ q = v ∧ St4 B2 B3 B4 B5 w' v ((m + 1 : Nat) : Int) f R) ∨ (¬ v < 0 ∧ v < q ∧ St4 B2 B3 B4 B5 w' v m f l)
set_option maxRecDepth 100000 in
set_option maxHeartbeats 8000000 in
theorem put51 {B1 B2 B3 B4 B5 : Nat} {W : World} {v : Int} {m : Nat} {f l : Value} (S : St4 B2 B3 B4 B5 W v m f l) {g lg lc : Nat} (hl : W.cell? ⟨B1, 0, none⟩ = some (.slice (some ⟨g, 0, none⟩) lg lc)) (ra da : Option Addr) (rn rc dn dc : Nat) (q : Int)
    (hA : Calls Try.prog 52 #[.slice (some ⟨g, 0, none⟩) lg lc, .slice da dn dc] W fun e w' => e = .returned (.int .i64 q) ∧ W = w') (hm : m ≤ 1000) :
    Calls Try.prog 51 #[.slice ra rn rc, .slice da dn dc, .pointer (some ⟨B1, 0, none⟩), .pointer (some ⟨B2, 0, none⟩), .pointer (some ⟨B3, 0, none⟩), .pointer (some ⟨B4, 0, none⟩), .pointer (some ⟨B5, 0, none⟩)] W fun e w' => e = .returned (.tuple #[]) ∧ But (Z4 B2 B3 B4 B5) W w' ∧
      R51 B2 B3 B4 B5 w' v m f l (.slice ra rn rc) q := by
  have HA := Lib.hid hA
  have c2 := cell_of1 S.h2
  have c3 := cell_of1 S.h3
  have f2 := froz_of1 S.h2
  have f3 := froz_of1 S.h3
  have c5 := cell_of1 S.h5
  have f5 := froz_of1 S.h5
  clear hA
  go_enter Try.func51, Try.ntmps51
  go_wp2_with fail
  refine HA.out.mono ?_
  rintro _ _ ⟨rfl, rfl⟩
  by_cases hlt : v < 0 ∨ q < v
  · have S1 := S.set2 q
    have S2 := S1.set3 0
    have S3 := S2.set4 (.slice ra rn rc)
    have S4 := S3.set3 1
    have S5 := S4.set5 (.slice ra rn rc)
    have a3 := cell_of1 S1.h3
    have g3 := froz_of1 S1.h3
    have a4 := cell_of1 S2.h4
    have g4 := froz_of1 S2.h4
    have b2 := cell_of1 S3.h2
    have b3 := cell_of1 S3.h3
    have k3 := froz_of1 S3.h3
    have b5 := cell_of1 S4.h5
    have k5 := froz_of1 S4.h5
    have BB : But (Z4 B2 B3 B4 B5) W (((((W.setCell ⟨B2, 0, none⟩ (.int .i64 q)).setCell ⟨B3, 0, none⟩ (.int .i64 0)).setCell ⟨B4, 0, none⟩ (.slice ra rn rc)).setCell ⟨B3, 0, none⟩ (.int .i64 1)).setCell ⟨B5, 0, none⟩ (.slice ra rn rc)) := ((((But.refl _ W).set B2 (.inl rfl) _).set B3 (.inr (.inl rfl)) _).set B4 (.inr (.inr (.inl rfl))) _).set B3 (.inr (.inl rfl)) _ |>.set B5 (.inr (.inr (.inr rfl))) _
    have HS := Lib.hid S5
    have HB := Lib.hid BB
    clear S1 S2 S3 S4 S5 BB
    have HL := Lib.hid hlt
    by_cases hv : v < 0
    · clear hlt
      go_wp2_with fail
      first | refine bodyPost_ret (results_none rfl _ _ _) rfl ?_ | refine bodyPost_end (results_none rfl _ _ _) rfl ?_
      exact ⟨rfl, HB.out, by unfold R51; exact .inl ⟨HL.out, HS.out⟩⟩
    · have hq : q < v := by omega
      clear hlt
      go_wp2_with fail
      first | refine bodyPost_ret (results_none rfl _ _ _) rfl ?_ | refine bodyPost_end (results_none rfl _ _ _) rfl ?_
      exact ⟨rfl, HB.out, by unfold R51; exact .inl ⟨HL.out, HS.out⟩⟩
  · have hv : ¬ v < 0 := by omega
    have hq : ¬ q < v := by omega
    have HNV := Lib.hid hv
    clear hlt
    by_cases he : q = v
    · have S1 := S.set3 ((m + 1 : Nat) : Int)
      have S2 := S1.set5 (.slice ra rn rc)
      have b5 := cell_of1 S1.h5
      have k5 := froz_of1 S1.h5
      have BB : But (Z4 B2 B3 B4 B5) W ((W.setCell ⟨B3, 0, none⟩ (.int .i64 ((m + 1 : Nat) : Int))).setCell ⟨B5, 0, none⟩ (.slice ra rn rc)) := ((But.refl _ W).set B3 (.inr (.inl rfl)) _).set B5 (.inr (.inr (.inr rfl))) _
      have HS := Lib.hid S2
      have HB := Lib.hid BB
      obtain ⟨mm, hmm⟩ : ∃ mm : Nat, m + 1 = mm := ⟨_, rfl⟩
      have hw : IntKind.i64.wrap ((m : Int) + 1) = (mm : Int) := by rw [IntWalk.i64_in _ ⟨by omega, by omega⟩]; omega
      rw [hmm] at HS HB b5 k5
      have HMM := Lib.hid hmm
      clear S1 S2 BB hmm
      subst he
      go_wp2_with fail
      first | refine bodyPost_ret (results_none rfl _ _ _) rfl ?_ | refine bodyPost_end (results_none rfl _ _ _) rfl ?_
      exact ⟨rfl, HB.out, by unfold R51; rw [HMM.out]; exact .inr (.inl ⟨by have := HNV.out; omega, rfl, HS.out⟩)⟩
    · have hqv : v < q := by omega
      have HS := Lib.hid S
      have HQ := Lib.hid hqv
      clear S
      go_wp2_with fail
      first | refine bodyPost_ret (results_none rfl _ _ _) rfl ?_ | refine bodyPost_end (results_none rfl _ _ _) rfl ?_
      exact ⟨rfl, But.refl _ _, by unfold R51; exact .inr (.inr ⟨by have := HNV.out; omega, HQ.out, HS.out⟩)⟩
theorem eg51 : ∀ args w, (callFunc 51 args).run Try.prog w = .ok (.enter 51 args) w := enters_of Try.func51 (by kernel_rfl) rfl
/-- a variable that holds this tree, or none. -/
def TrZ (Z : Nat → Prop) (W : World) (o : Option Sv.Tr) (v : Value) : Prop := ∃ l n c, v = .slice l n c ∧ (match o with | none => n = 0 | some t => IntsZ Z W l (t.lst 0) ∧ (t.lst 0).length = n)
theorem TrZ.but {Z : Nat → Prop} {W W' : World} {o : Option Sv.Tr} {v : Value} (h : TrZ Z W o v) (b : But Z W W') : TrZ Z W' o v := by
  obtain ⟨l, n, c, e, h⟩ := h
  refine ⟨l, n, c, e, ?_⟩
  cases o with
  | none => exact h
  | some t => exact ⟨h.1.but b, h.2⟩
theorem TrZ.mk {Z : Nat → Prop} {W : World} {t : Sv.Tr} {l : Option Addr} {n c : Nat} (h : IntsZ Z W l (t.lst 0)) (hn : (t.lst 0).length = n) : TrZ Z W (some t) (.slice l n c) := ⟨l, n, c, rfl, h, hn⟩
def P8 (zs : List Int) (g lg lc B1 B2 B3 B4 B5 : Nat) (D : List Sv.Tr) (W : World) : Prop := ∃ v m hd lt fv lv, Sv.BestSt zs D v m hd lt ∧ St4 B2 B3 B4 B5 W v (m : Nat) fv lv ∧ TrZ (Z4 B2 B3 B4 B5) W hd fv ∧ TrZ (Z4 B2 B3 B4 B5) W lt lv ∧ CellZ (Z4 B2 B3 B4 B5) W B1 (.slice (some ⟨g, 0, none⟩) lg lc) ∧ IntsZ (Z4 B2 B3 B4 B5) W (some ⟨g, 0, none⟩) zs
theorem cb8 {zs : List Int} (hzb : ∀ z ∈ zs, 0 ≤ z ∧ z ≤ 100) {n : Nat} (hn : zs.length = n) (hn8 : 1 ≤ n ∧ n ≤ 8) (g lc B1 B2 B3 B4 B5 : Nat) : Cb (Z4 B2 B3 B4 B5) 51 #[.pointer (some ⟨B1, 0, none⟩), .pointer (some ⟨B2, 0, none⟩), .pointer (some ⟨B3, 0, none⟩), .pointer (some ⟨B4, 0, none⟩), .pointer (some ⟨B5, 0, none⟩)] 0 (Sv.trs (n - 1)) (P8 zs g n lc B1 B2 B3 B4 B5) := by
  refine ⟨eg51, ?_, ?_⟩
  · rintro D W W' ⟨v, m, hd, lt, fv, lv, h1, h2, h3, h4, h5, h6⟩ F
    exact ⟨v, m, hd, lt, fv, lv, h1, h2.fut F, h3.but (But.of_below F), h4.but (But.of_below F), h5.fut F, h6.fut F⟩
  · rintro D t W l tn cl dd dn cd ⟨v, m, hd, lt, fv, lv, h1, h2, h3, h4, h5, h6⟩ hZ hfx hlI hdI hln hdn hlc hdc
    have hts := (Sv.mem_trs (n - 1) t).1 (Sv.mem_pre hfx)
    have hdl := fun d (h : d ∈ t.dep) => Sv.dep_lt t d h
    have hdn' : dn = n := by rw [← hdn, Sv.dep_len]; omega
    have hcnt : m ≤ 1000 := by
      have a1 := Sv.st_cnt h1
      have a2 := hfx.length_le
      have a3 := trs_cat n hn8.1 hn8.2
      have a4 := cat_pos n hn8.1 hn8.2
      rw [List.length_append] at a2
      omega
    have hq0 : 0 ≤ Sv.qst zs t := (dotI_bd zs t.dep hzb (fun d hd => by have := hdl d hd; omega)).1
    refine (put51 h2 h5.2.2 l dd tn cl dn cd (Sv.qst zs t) (asks_any _ dd n dn lc cd zs t.dep hn hdn (by omega) (by omega) hzb (fun d hd => by have := hdl d hd; omega) W h6.here hdI.here) hcnt).mono ?_
    rintro e w' ⟨rfl, b, h⟩
    refine ⟨rfl, b, ?_⟩
    have k5 := h5.but b
    have k6 := h6.but b
    have kt : TrZ (Z4 B2 B3 B4 B5) w' (some t) (.slice l tn cl) := TrZ.mk (hlI.but b) hln
    rcases h with ⟨a1, a2⟩ | ⟨a1, a2, a3⟩ | ⟨a1, a2, a3⟩
    · exact ⟨_, 1, _, _, _, _, Sv.st_less h1 hq0 a1, a2, kt, kt, k5, k6⟩
    · exact ⟨_, m + 1, _, _, _, _, Sv.st_eq h1 a1 a2, a3, h3.but b, kt, k5, k6⟩
    · exact ⟨_, m, _, _, _, _, Sv.st_more h1 a1 a2, a3, h3.but b, h4.but b, k5, k6⟩
end Go.Proofs.Ytjapconhehdcjaa
