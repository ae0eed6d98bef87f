/- Layer 1: all orders' divisions added. -/
import Derived.Test.YtdnbdaegahcoeaaP
import Derived.Deep.DeepCutAuto
namespace Go.Proofs.Ytdnbdaegahcoeaa
open Go.RowKit Go.Sort
/-- all but blocks s and t is as it was. -/
structure But2 (s t : Nat) (w w' : World) : Prop where
  os : w'.os = w.os
  tape : w'.tape = w.tape
  output : w'.output = w.output
  size : w.heap.size ≤ w'.heap.size
  block : ∀ k, k < w.heap.size → k ≠ s → k ≠ t → w'.heap[k]? = w.heap[k]?
theorem But.two {s t : Nat} {w w' : World} (h : But s w w') : But2 s t w w' := ⟨h.os, h.tape, h.output, h.size, fun k hk h1 _ => h.block k hk h1⟩
theorem But2.trans {s t : Nat} {a b c : World} (h : But2 s t a b) (k : But2 s t b c) : But2 s t a c :=
  ⟨k.os.trans h.os, k.tape.trans h.tape, k.output.trans h.output, Nat.le_trans h.size k.size, fun i hi hn hm => (k.block i (Nat.lt_of_lt_of_le hi h.size) hn hm).trans (h.block i hi hn hm)⟩
theorem But2.setT {s t : Nat} {a b : World} (h : But2 s t a b) (k : Nat) (v : Value) : But2 s t a (b.setCell ⟨t, k, none⟩ v) :=
  h.trans ⟨rfl, rfl, rfl, by simp [World.setCell], fun i _ _ hm => RowKit.Below.heap_setCell _ _ _ _ hm⟩
theorem But2.drew {s t : Nat} {a b : World} (h : But2 s t a b) : But2 s t a b.drew := ⟨h.os, h.tape, h.output, h.size, h.block⟩
theorem But2.back {s t : Nat} {w w' : World} {o : List (Fin 5)} (h : But2 s t w w') (h1 : OrdAt w t o) (h2 : OrdAt w' t o) : But s w w' :=
  ⟨h.os, h.tape, h.output, h.size, fun k hk hn => by
    by_cases e : k = t
    · subst e; exact h2.trans h1.symm
    · exact h.block k hk hn e⟩
theorem But2.cellsH {s t b n : Nat} {w w' : World} {x : Int} {f : Fin 5 → Int} (h : But2 s t w w') (hr : cellsH w b n x f) (hn : b ≠ s) (hm : b ≠ t) : cellsH w' b n x f := by
  have hb : b < w.heap.size := World.block_lt_of_cell? w _ hr.1
  have hc : ∀ o, w'.cell? ⟨b, o, none⟩ = w.cell? ⟨b, o, none⟩ := fun o => World.cell?_of_block (w := w) (h.block b hb hn hm)
  obtain ⟨h0, h1, h2, h3, h4, h5, h6⟩ := hr
  refine ⟨?_, ?_, ?_, ?_, ?_, ?_, ?_⟩ <;> rw [hc] <;> assumption
theorem RowAt.setO {w : World} {s t k : Nat} {g : Fin 5 → Int} (h : RowAt w s g) (hn : s ≠ t) (v : Value) : RowAt (w.setCell ⟨t, k, none⟩ v) s g := (RowKit.Below.heap_setCell _ _ _ _ hn).trans h
/-- an order's number. -/
def onth (o : List (Fin 5)) (k : Nat) : Fin 5 := o[k]?.getD 0
theorem OrdAt.cellN {w : World} {b : Nat} {o : List (Fin 5)} (h : OrdAt w b o) (k : Nat) (hk : k < o.length) : w.cell? ⟨b, k, none⟩ = some (.int .i64 ((onth o k).val : Int)) := h.cell k hk
theorem OrdAt.swapN {w : World} {b : Nat} {o : List (Fin 5)} (h : OrdAt w b o) (i j : Nat) : OrdAt ((w.setCell ⟨b, i, none⟩ (.int .i64 ((onth o j).val : Int))).setCell ⟨b, j, none⟩ (.int .i64 ((onth o i).val : Int))) b (swapL o i j) := h.swap i j
theorem visK_length (r : Nat) (o : List (Fin 5)) (first : Nat) : ∀ t, (visK r o first t).length = t * fct r
  | 0 => by simp [visK]
  | t + 1 => by rw [visK_succ, List.length_append, visK_length r o first t, vis_length r, Nat.succ_mul]
theorem fct_le {r : Nat} (h : r ≤ 5) : fct r ≤ 120 := by
  match r, h with
  | 0, _ => exact (by decide)
  | 1, _ => exact (by decide)
  | 2, _ => exact (by decide)
  | 3, _ => exact (by decide)
  | 4, _ => exact (by decide)
  | 5, _ => exact (by decide)
set_option maxRecDepth 100000 in
set_option maxHeartbeats 2000000 in
theorem add_all (n : Nat) (x : Int) (f : Fin 5 → Int) (ob sb dap : Nat) (hne : ob ≠ sb) (hx : 0 ≤ x ∧ x ≤ 10000000) (hf : ∀ i, Pt (f i)) : ∀ (r : Nat) (first : Nat) (o : List (Fin 5)) (g : Fin 5 → Int) (w : World), first + r = o.length → o.length ≤ 5 →
    (∀ i, 0 ≤ g i ∧ g i + 1000000 * (fct r : Int) ≤ 1000000000) → OrdAt w ob o → RowAt w sb g →
    Calls Try.prog 73 #[hv n x (f 0) (f 1) (f 2) (f 3) (f 4), .slice (some ⟨ob, 0, none⟩) o.length dap, .int .i64 first, .pointer (some ⟨sb, 0, none⟩)] w fun e w' =>
      e = .returned (.int .i64 (fct r : Int)) ∧ RowAt w' sb (addAll f x (vis r o first) g) ∧ But sb w w'
  | 0, first, o, g, w, hlen, h5, hg, hO, hS => by
    have hfl : first = o.length := by omega
    subst hfl
    exact add_base n x f g ob sb dap o w hx hf (fun i => by have := hg i; simp only [fct] at this; omega) (by omega) hO hS
  | r + 1, first, o, g, w, hlen, h5, hg, hO, hS => by
    have ih := add_all n x f ob sb dap hne hx hf r
    have IH := Lib.hid ih; clear ih
    have HO := Lib.hid hO
    have HS := Lib.hid hS
    have HG := Lib.hid hg
    have HLEN := Lib.hid hlen
    have hfl : ((first : Int) == o.length) = false := by rw [beq_eq_false_iff_ne]; omega
    have hol : (o.length : Int) ≤ 5 := by omega
    have hfi : (first : Int) < o.length := by omega
    clear hO hS hg hlen
    go_enter Try.func73, Try.ntmps73
    go_wp2_with fail
    have hH := cellsH_new w n x f
    have hBt := But.alloc sb w (.cells #[.int .i64 n, .int .i64 x, .int .i64 (f 0), .int .i64 (f 1), .int .i64 (f 2), .int .i64 (f 3), .int .i64 (f 4)] 68)
    have hne2 : w.heap.size ≠ sb := by have := HS.out.lt; omega
    have HROW : Hid ((w.alloc (.cells #[.int .i64 n, .int .i64 x, .int .i64 (f 0), .int .i64 (f 1), .int .i64 (f 2), .int .i64 (f 3), .int .i64 (f 4)] 68)).heap[sb]? = w.heap[sb]?) := RowKit.Below.heap_alloc _ _ _ HS.out.lt
    generalize (w.alloc (.cells #[.int .i64 n, .int .i64 x, .int .i64 (f 0), .int .i64 (f 1), .int .i64 (f 2), .int .i64 (f 3), .int .i64 (f 4)] 68)) = W at hH hBt HROW ⊢
    have HH := Lib.hid hH
    have HB := Lib.hid hBt
    have HO1 : Hid (OrdAt W ob o) := hBt.ord HO.out hne
    have hS1 : RowAt W sb g := by
      have h := HS.out; exact (HROW.out.trans h)
    clear hH hBt
    go_loopw [11, 12] (fun cv kv wr => ∃ (t c k : Nat), Hid (k = first + t ∧ c = t * fct r) ∧ t ≤ r + 1 ∧ kv = .int .i64 k ∧ cv = .int .i64 c ∧ RowAt wr sb (addAll f x (visK r o first t) g) ∧ OrdAt wr ob o ∧ But sb W wr) (fun _ kv _ => o.length - (intOf kv).toNat)
    case atStart => exact ⟨0, 0, first, ⟨rfl, by simp⟩, by omega, rfl, rfl, by simpa [visK, addAll] using hS1, HO1.out, But.refl _ _⟩
    case round =>
      obtain ⟨t, c, k, HKC, ht, rfl, rfl, hrow, hord, hbut⟩ := hrel
      have hf1 : fct r ≤ 120 := fct_le (by have := HLEN.out; omega)
      have hf2 : fct (r + 1) ≤ 120 := fct_le (by have := HLEN.out; omega)
      have hf3 : t * fct r ≤ fct (r + 1) := Nat.mul_le_mul_right _ ht
      have hc2 : (c : Int) ≤ 1000 := by have := HKC.out.2; omega
      by_cases hlt : t < r + 1
      · have hkl : (k : Int) < o.length := by have := HKC.out.1; have := HLEN.out; omega
        have hkn : k < o.length := by omega
        have e1 := hord.cellN first (by omega)
        have e2 := hord.cellN k hkn
        have e3 := hord.free first
        have e4 := hord.free k
        have hsb : sb ≠ ob := fun h => hne h.symm
        have HORD := Lib.hid hord
        have HROWr := Lib.hid hrow
        have HBUT := Lib.hid hbut
        clear hord hrow hbut
        have hob : ob < w.heap.size := HO.out.lt
        have hwo : w.heap.size ≠ ob := by omega
        go_wp2_with fail
        go_upto_region 12 with fail
        go_cut [] (fun wx => OrdAt wx ob (swapL o first k) ∧ RowAt wx sb (addAll f x (visK r o first t) g) ∧ But2 sb ob W wx)
        case first =>
          by_cases hfk : k = first
          · subst hfk
            go_region
            all_goals (go_wp2_with fail; go_meet)
            all_goals exact ⟨(HORD.out.swapN k k).drew, ((HROWr.out.setO hsb _).setO hsb _).drew, ((HBUT.out.two.setT _ _).setT _ _).drew⟩
          · have hfk' : ¬ first = k := fun h => hfk h.symm
            go_region
            all_goals (go_wp2_with fail; go_meet)
            all_goals exact ⟨(HORD.out.swapN first k).drew, ((HROWr.out.setO hsb _).setO hsb _).drew, ((HBUT.out.two.setT _ _).setT _ _).drew⟩
        case rest =>
          obtain ⟨hO2, hR2, hB2⟩ := hcut
          have hH2 := hB2.cellsH HH.out hne2 hwo
          obtain ⟨m0, m1, m2, m3, m4, m5, m6⟩ := hH2
          have hgb := addAll_bd f hf x hx.1 (visK r o first t) g (1000000000 - 1000000 * (fct (r + 1) : Int)) (fun i => by have := HG.out i; omega)
          have hfi1 : (t + 1) * fct r ≤ fct (r + 1) := Nat.mul_le_mul_right _ (by omega)
          have IHk := IH.out (first + 1) (swapL o first k) (addAll f x (visK r o first t) g) wc (by rw [swapL_length]; have := HLEN.out; omega) (by rw [swapL_length]; omega) (fun i => by
            have := hgb i; rw [visK_length] at this
            have e : (((t + 1) * fct r : Nat) : Int) = ((t * fct r : Nat) : Int) + (fct r : Int) := by rw [Nat.succ_mul]; omega
            omega) hO2 hR2
          rw [swapL_length] at IHk
          have ef : ((first + 1 : Nat) : Int) = (first : Int) + 1 := by omega
          rw [ef] at IHk
          have IHK := Lib.hid IHk
          have HO2 := Lib.hid hO2
          have HB2 := Lib.hid hB2
          have hfr : (fct r : Int) ≤ 120 := by omega
          clear IHk hO2 hR2 hB2 hgb ef e1 e2 e3 e4 hf1 hf2 hf3 hfi1
          go_wp2_with (go_at_call 73; refine (IHK.out).mono ?_; rintro e w3 ⟨rfl, hR3, hB3⟩)
          have hO3 := hB3.ord HO2.out hne
          have hB3w := HB2.out.trans hB3.two
          have hk3 : k < (swapL o first k).length := by rw [swapL_length]; exact hkn
          have hf3 : first < (swapL o first k).length := by rw [swapL_length]; omega
          have e1 := hO3.cellN first hf3
          have e2 := hO3.cellN k hk3
          have e3 := hO3.free first
          have e4 := hO3.free k
          have HO3 := Lib.hid hO3
          have HR3 := Lib.hid hR3
          have HB3 := Lib.hid hB3w
          have hback := swapL_swapL o first k (by omega) hkn
          have HBACK := Lib.hid hback
          clear hO3 hR3 hB3w hB3 hback hk3 hf3
          have hR5 : RowAt w3 sb (addAll f x (visK r o first (t + 1)) g) := by
            rw [visK_succ, addAll_append, ← HKC.out.1]; exact HR3.out
          have HR5 := Lib.hid hR5
          clear hR5
          generalize swapL o first k = o2 at e1 e2 HO3 HBACK
          by_cases hfk : k = first
          · subst hfk
            go_region
            all_goals
              go_wp2
              go_roundw
              case rel =>
                have hO4 := (HO3.out.swapN k k).drew
                rw [HBACK.out] at hO4
                exact ⟨t + 1, c + fct r, k + 1, ⟨by have := HKC.out.1; omega, by rw [Nat.succ_mul, HKC.out.2]⟩, by omega, by go_num, by go_num, ((HR5.out.setO hsb _).setO hsb _).drew, hO4, (((HB3.out.setT _ _).setT _ _).drew).back HO1.out hO4⟩
              case measure => simp [intOf]; omega
          · have hfk' : ¬ first = k := fun h => hfk h.symm
            go_region
            all_goals
              go_wp2
              go_roundw
              case rel =>
                have hO4 := (HO3.out.swapN first k).drew
                rw [HBACK.out] at hO4
                exact ⟨t + 1, c + fct r, k + 1, ⟨by have := HKC.out.1; omega, by rw [Nat.succ_mul, HKC.out.2]⟩, by omega, by go_num, by go_num, ((HR5.out.setO hsb _).setO hsb _).drew, hO4, (((HB3.out.setT _ _).setT _ _).drew).back HO1.out hO4⟩
              case measure => simp [intOf]; omega
      · have htr : t = r + 1 := by omega
        have hkl : (o.length : Int) ≤ k := by have := HKC.out.1; have := HLEN.out; omega
        have E : Hid ((c : Int) = (fct (r + 1) : Int)) := by
          have := HKC.out.2; rw [htr] at this
          show _ = _
          rw [this]; rfl
        have HR6 : Hid (RowAt wr sb (addAll f x (vis (r + 1) o first) g)) := by rw [htr] at hrow; exact hrow
        have HB6 := Lib.hid (HB.out.trans hbut)
        clear hrow hord hbut htr hf1 hf2 hf3
        go_wp2
        go_ret
        exact ⟨ret_int E.out, HR6.out, HB6.out⟩
end Go.Proofs.Ytdnbdaegahcoeaa
