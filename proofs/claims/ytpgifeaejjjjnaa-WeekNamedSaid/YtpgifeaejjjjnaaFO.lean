/- the closure of the law's crossings: put_crs -/
import Derived.Test.YtpgifeaejjjjnaaFN
import Derived.Test.YtpgifeaejjjjnaaCX
namespace Go.Proofs.Ytpgifeaejjjjnaa
open Go.RowKit Go.Sort
theorem bx1 (wr : World) (v : Value) : ((wr.alloc (.cells #[v] 3)).drew).cell? ⟨wr.heap.size, 0, none⟩ = some v := alloc_cell wr v 3
theorem bx2 (wr : World) (v : Value) (o : Obj) : (((wr.alloc (.cells #[v] 3)).alloc o).drew).cell? ⟨wr.heap.size, 0, none⟩ = some v := alloc_old _ _ (alloc_cell wr v 3)
theorem bx3 (wr : World) (v : Value) (o : Obj) : (((wr.alloc o).alloc (.cells #[v] 3)).drew).cell? ⟨wr.heap.size + 1, 0, none⟩ = some v := by
  have h := alloc_cell (wr.alloc o) v 3
  rw [World.size_alloc] at h
  exact h
theorem fu1 (wr : World) (o : Obj) : Fut wr (wr.alloc o).drew := below_drewN (Fut.alloc wr o) 1
theorem fu2 (wr : World) (o o' : Obj) : Fut wr ((wr.alloc o).alloc o').drew := below_drewN ((Fut.alloc wr o).trans (Fut.alloc _ o')) 1
theorem row_base {w : World} {B B' e : Nat} {v : Value} {n : Nat} {xs : List Value} (h : w.ownsRow B e 1 v n xs) (hB : B' ≤ B) : w.ownsRow B' e 1 v n xs := by
  refine ⟨h.1, ?_⟩
  rcases h.2 with h3 | ⟨g, cap, cur, h3, h4, h5⟩
  · exact .inl h3
  · exact .inr ⟨g, cap, cur, h3, by omega, h5⟩
theorem fut_grown {w w' : World} (h : w.grownBy w' none) : Fut w w' := RowKit.Below.grown (RowKit.Below.refl _ _) h (Nat.le_refl _) (fun i hi => by cases hi)
/-- what put is over: its boxes. -/
abbrev putC (S : Nat) : Array Value := #[.pointer (some ⟨S + 1, 0, none⟩), .pointer (some ⟨S + 2, 0, none⟩), .pointer (some ⟨S, 0, none⟩), .pointer (some ⟨S + 3, 0, none⟩)]
structure Pcr (w0 : World) (n : Nat) (a : Option Addr) (cap : Nat) (zss : List (List Int)) (w : World) : Prop where
  low : RowKit.Below w0.heap.size w0 w
  sz : w0.heap.size + 4 ≤ w.heap.size
  p : w.cell? ⟨w0.heap.size, 0, none⟩ = some (.slice a n cap)
  n : w.cell? ⟨w0.heap.size + 1, 0, none⟩ = some (.int .i64 n)
  f : w.cell? ⟨w0.heap.size + 3, 0, none⟩ = some (.func (.func 95) #[] (putC w0.heap.size))
theorem Pcr.but {w0 : World} {n : Nat} {a : Option Addr} {cap : Nat} {zss : List (List Int)} {w w' : World} (h : Pcr w0 n a cap zss w) {Z : Nat → Prop} (hb : But Z w w') (hZ : ∀ k, Z k → k = w0.heap.size + 2 ∨ w0.heap.size + 4 ≤ k) : Pcr w0 n a cap zss w' where
  low := h.low.trans (hb.below w0.heap.size (by have := h.sz; omega) fun k hk => by have := hZ k hk; omega)
  sz := Nat.le_trans h.sz hb.size
  n := (hb.cell (p := ⟨w0.heap.size + 1, 0, none⟩) (by have := h.sz; show w0.heap.size + 1 < _; omega) (fun hk => by have h5 := hZ _ hk; simp only at h5; omega)).trans h.n
  p := (hb.cell (p := ⟨w0.heap.size, 0, none⟩) (by have := h.sz; show w0.heap.size < _; omega) (fun hk => by have h5 := hZ _ hk; simp only at h5; omega)).trans h.p
  f := (hb.cell (p := ⟨w0.heap.size + 3, 0, none⟩) (by have := h.sz; show w0.heap.size + 3 < _; omega) (fun hk => by have h5 := hZ _ hk; simp only at h5; omega)).trans h.f
set_option maxRecDepth 100000 in
set_option maxHeartbeats 8000000 in
theorem put_crs (w0 : World) (n : Nat) (hn : n ≤ 5) (a : Option Addr) (cap : Nat) (zss : List (List Int)) (hL : LstAt w0 a zss) (hz : zss.length = n) (hd : ∀ k, k < n → (lth zss k).length = n) :
    ∀ (m : Nat) (la : Option Addr) (lc : Nat) (ma : Option Addr) (mc : Nat) (h t : List Int) (ov : Value) (acc : List (List Int)) (w : World), h.length + m = n → t.length = h.length → (la = none ↔ ma = none) → Owns w (w0.heap.size + 4) (.slice la h.length lc) h → Owns w (w0.heap.size + 4) (.slice ma h.length mc) t → Pcr w0 n a cap zss w → Got w0 ov acc w → acc.length + n ^ m ≤ 10000 →
      Calls Try.prog 95 (#[.slice la h.length lc, .slice ma h.length mc] ++ putC w0.heap.size) w (PutP w0 ov (acc ++ crsT n zss m h t) w) := by
  intro m
  induction m with
  | zero =>
    intro la lc ma mc h t ov acc w hl htl hnn hO hM hP hG hacc
    obtain ⟨i1, hi1, hy0, hy1, hy2⟩ := info_parts info28
    obtain rfl : h.length = n := by omega
    have c1 := hP.n
    have c2 := hG.c
    have c3 := hG.fz
    have HO := Lib.hid hO
    have HP := Lib.hid hP
    have HG := Lib.hid hG
    obtain ⟨vals, hrow, hel⟩ := hG.own
    have HRW := Lib.hid hrow
    have HEL := Lib.hid hel
    have HACC := Lib.hid hacc
    have HSB := Lib.hid hP.sz
    show Calls Try.prog 95 #[.slice la h.length lc, .slice ma h.length mc, .pointer (some ⟨w0.heap.size + 1, 0, none⟩), .pointer (some ⟨w0.heap.size + 2, 0, none⟩), .pointer (some ⟨w0.heap.size, 0, none⟩), .pointer (some ⟨w0.heap.size + 3, 0, none⟩)] w _
    clear hl hO hP hG hacc hrow hel hM htl hnn
    go_enter Try.func95, Try.ntmps95
    go_wp2_with (at_builtin; refine wpList_append_lies _ rfl _ _ 22 rfl (w0.heap.size + 4) 28 i1 (.slice none 0 0) 1 24 Try.underlying22 hi1 hy0 hy1 hy2 rfl (by decide) _ acc.length vals rfl (row_fut HRW.out (Fut.alloc _ _)) ⟨w.heap.size, 0, none⟩ 1 1 [.slice la h.length lc] rfl rfl (cell_one (by simp [go_sem])) (by simp [Value.oneCell']) (by omega) (by have := HACC.out; unfold maxLen; omega) (by have := HACC.out; omega) (by have := HSB.out; simp; omega) _ rfl ?_)
    intro g8 c8 w8 hown8 hgrow8 hat8 _
    have hSB := HSB.out
    have hna : ¬ some (w0.heap.size + 2) = ov.ownBlock := fun e => by
      have := HG.out.own.block _ e.symm
      omega
    have hc8 : w8.cell? ⟨w0.heap.size + 2, 0, none⟩ = some ov := (World.cell?_of_block (hgrow8.block (w0.heap.size + 2) (by simp; omega) hna)).trans (alloc_old _ _ HG.out.c)
    have hf8 : w8.frozen? ⟨w0.heap.size + 2, 0, none⟩ = false := (World.frozen?_of_block ((hgrow8.block (w0.heap.size + 2) (by simp; omega) hna).trans (RowKit.Below.heap_alloc _ _ _ (by omega)))).trans HG.out.fz
    have HX8 : Hid (OwnL w8 (w0.heap.size + 4) (.slice (some ⟨g8, 0, none⟩) (acc.length + 1) c8) (acc ++ [h])) := Lib.hid (OwnL.app (row_fut HRW.out (Fut.alloc _ _)) (HEL.out.fut (Fut.alloc _ _)) (HO.out.fut (Fut.alloc _ _)) hown8 hgrow8)
    have HB8 : Hid (But (fun k => k = w0.heap.size + 2 ∨ ov.ownBlock = some k) w w8) := Lib.hid ((But.of_below (Fut.alloc w (.cells #[.slice la h.length lc] 28))).trans ⟨hgrow8.os, hgrow8.tape, hgrow8.output, hgrow8.size, fun k hk hzz => hgrow8.block k hk (fun e => hzz (.inr e.symm))⟩)
    have HAT : Hid (ov.ownBlock = some g8 ∨ g8 = w.heap.size + 1) := Lib.hid hat8
    clear hown8 hgrow8 hna hSB hat8 c2 c3 c1
    go_wp2_with fail
    refine bodyPost_ret (results_none rfl _ _ _) rfl ?_
    refine ⟨rfl, _, ⟨World.cell?_setCell_same' _ _ _ (by rw [hc8]; rfl), by rw [World.frozen?_setCell]; exact hf8, HX8.out.grown (grownBy_setCell' _ _ _) (by show w0.heap.size + 2 < _; omega)⟩, HB8.out.setCell (p := ⟨w0.heap.size + 2, 0, none⟩) (.inl (.inl rfl)) _, fun k hk => ?_⟩
    have hk' : g8 = k := by simpa [Value.ownBlock] using hk
    subst hk'
    rcases HAT.out with h5 | h5
    · exact .inl h5
    · exact .inr (by omega)
  | succ m ih =>
    intro la lc ma mc h t ov acc w hl htl hnn hO hM hP hG hacc
    obtain ⟨i0, hi0, hz0, hz1, hz2⟩ := info_parts info3
    have hne : ((h.length : Int) == (n : Int)) = false := by simp; omega
    have hlx : (h.length : Int) < n := by omega
    obtain ⟨bb, off, l2, lc2, ea, hbb, d1, hI2⟩ := hL h.length (by omega)
    subst ea
    rw [hd h.length (by omega)] at d1
    have HI2 : Hid (∀ k, k < n → ∀ W, RowKit.Below w0.heap.size w0 W → ∃ b2 o2, l2 = some ⟨b2, o2, none⟩ ∧ W.cell? ⟨b2, o2 + k, none⟩ = some (.int .i64 (nth (lth zss h.length) k))) := Lib.hid (fun k hk W F => by
      obtain ⟨b2, o2, e, hb2, c2⟩ := hI2 k (by rw [hd h.length (by omega)]; exact hk)
      exact ⟨b2, o2, e, (RowKit.Below.cell F (p := ⟨b2, o2 + k, none⟩) hb2).trans c2⟩)
    have d2 : w.cell? ⟨bb, off + h.length, none⟩ = some (.slice l2 n lc2) := (RowKit.Below.cell hP.low (p := ⟨bb, off + h.length, none⟩) hbb).trans d1
    have c1 := hP.n
    have c2 := hP.p
    have HO := Lib.hid hO
    have HM := Lib.hid hM
    have HP := Lib.hid hP
    have HG := Lib.hid hG
    have HL := Lib.hid hl
    have HTL := Lib.hid htl
    have HIH := Lib.hid ih
    have HACC := Lib.hid hacc
    have HNN := Lib.hid hnn
    show Calls Try.prog 95 #[.slice la h.length lc, .slice ma h.length mc, .pointer (some ⟨w0.heap.size + 1, 0, none⟩), .pointer (some ⟨w0.heap.size + 2, 0, none⟩), .pointer (some ⟨w0.heap.size, 0, none⟩), .pointer (some ⟨w0.heap.size + 3, 0, none⟩)] w _
    clear hl hO hM hP hG hacc ih hL hd d1 hI2 htl hnn
    go_enter Try.func95, Try.ntmps95
    go_wp2_with fail
    clear c1 c2 d2
    go_loopw [24] (fun kv wr => ∃ (k : Nat) (ovk : Value), k ≤ n ∧ kv = .int .i64 k ∧ Hid (Pcr w0 n (some ⟨bb, off, none⟩) cap zss wr) ∧ Hid (Got w0 ovk (acc ++ csgT n zss m h t k) wr) ∧ Hid (Owns wr (w0.heap.size + 4) (.slice la h.length lc) h) ∧ Hid (Owns wr (w0.heap.size + 4) (.slice ma h.length mc) t) ∧ Hid (But (fun k => k = w0.heap.size + 2 ∨ ov.ownBlock = some k) w wr) ∧ Hid (∀ k, ovk.ownBlock = some k → ov.ownBlock = some k ∨ w.heap.size ≤ k)) (fun kv _ => n - (intOf kv).toNat)
    case atStart => exact ⟨0, ov, Nat.zero_le _, rfl, HP, by rw [csgT_zero, List.append_nil]; exact HG, HO, HM, Lib.hid (But.refl _ _), Lib.hid fun k hk => .inl hk⟩
    case round =>
      obtain ⟨k, ovk, hk, rfl, HPk, HGk, HOk, HMk, HBk, HVk⟩ := hrel
      clear HP HG HO HM
      by_cases hkt : k < n
      · have hkx : (k : Int) < n := by omega
        have HSS := Lib.hid (csgT_succ n zss m h t k)
        obtain ⟨b2, o2, rfl, e2⟩ := HI2.out k hkt wr HPk.out.low
        obtain ⟨a', cap', e', q1, q2, hI⟩ := HOk.out.form
        simp only [Value.slice.injEq, true_and] at e'
        obtain ⟨rfl, rfl⟩ := e'
        have HC := Lib.hid (contains_any la lc h k wr hI (by have := HL.out; omega))
        have HMF : Hid (∀ x : Int, Calls Try.prog 51 #[.slice ma h.length mc, .int .i64 x] wr fun e w' => e = .returned (.bool (t.contains x)) ∧ wr = w') := Lib.hid (fun x => by
          have hf := HMk.out.form
          rw [HTL.out] at hf
          obtain ⟨a', cap', e', q3, q4, hJ⟩ := hf
          simp only [Value.slice.injEq, true_and] at e'
          obtain ⟨rfl, rfl⟩ := e'
          have := contains_any ma mc t x wr hJ (by have := HL.out; have := HTL.out; omega)
          rwa [HTL.out] at this)
        have hbk : h.length ≤ lc := q1
        have HMM := Lib.hid (HMF.out (nth (lth zss h.length) k))
        clear hI q1 q2 HMF
        generalize nth (lth zss h.length) (k : Nat) = x at *
        cases hc : h.contains (k : Int)
        · rw [hc, Bool.false_or] at HSS
          rw [hc] at HC
          clear hc
          cases ht : t.contains x
          · rw [ht] at HSS HMM
            simp only [Bool.false_eq_true, if_false] at HSS
            clear ht
            have HCALL : Hid (∀ (g cg g' cg' : Nat) (w1 : World), Fut wr w1 → w1.ownsRow wr.heap.size 3 1 (.slice (some ⟨g, 0, none⟩) (h.length + 1) cg) (h.length + 1) (h.map (Value.int .i64) ++ [.int .i64 (k : Int)]) → w1.ownsRow wr.heap.size 3 1 (.slice (some ⟨g', 0, none⟩) (h.length + 1) cg') (h.length + 1) (t.map (Value.int .i64) ++ [.int .i64 x]) →
                Calls Try.prog 95 #[.slice (some ⟨g, 0, none⟩) (h.length + 1) cg, .slice (some ⟨g', 0, none⟩) (h.length + 1) cg', .pointer (some ⟨w0.heap.size + 1, 0, none⟩), .pointer (some ⟨w0.heap.size + 2, 0, none⟩), .pointer (some ⟨w0.heap.size, 0, none⟩), .pointer (some ⟨w0.heap.size + 3, 0, none⟩)] w1 (PutP w0 ovk (acc ++ csgT n zss m h t k ++ crsT n zss m (h ++ [(k : Int)]) (t ++ [x])) w1)) := Lib.hid (fun g cg g' cg' w1 F o1 o2 => by
              have hlen : (h ++ [(k : Int)]).length = h.length + 1 := by simp
              have hO : Owns w1 (w0.heap.size + 4) (.slice (some ⟨g, 0, none⟩) (h.length + 1) cg) (h ++ [(k : Int)]) := by
                refine Owns.base (B := wr.heap.size) ?_ HPk.out.sz
                unfold Owns
                simpa using o1
              have hM : Owns w1 (w0.heap.size + 4) (.slice (some ⟨g', 0, none⟩) (h.length + 1) cg') (t ++ [x]) := by
                refine Owns.base (B := wr.heap.size) ?_ HPk.out.sz
                unfold Owns
                rw [List.length_append, List.length_singleton, HTL.out, List.map_append]
                exact o2
              have := HIH.out (some ⟨g, 0, none⟩) cg (some ⟨g', 0, none⟩) cg' (h ++ [(k : Int)]) (t ++ [x]) ovk (acc ++ csgT n zss m h t k) w1 (by have := HL.out; simp; omega) (by have := HTL.out; simp; omega) (by simp) (by rw [hlen]; exact hO) (by rw [hlen]; exact hM) (HPk.out.but (But.of_below F) (Z := fun _ => False) (fun _ h => h.elim)) (HGk.out.fut F) (by have := HACC.out; have := csgT_le (n := n) (zss := zss) (m := m) (h := h) (t := t) hkt; rw [List.length_append]; omega)
              rw [hlen] at this
              exact this)
            have HNF : Hid (∀ (W : World) (B : Nat) (v : Value), W.ownsRow B 3 1 v (h.length + 1) (h.map (Value.int .i64) ++ [.int .i64 (k : Int)]) → ∃ g cg, v = .slice (some ⟨g, 0, none⟩) (h.length + 1) cg) := Lib.hid (fun W B v hv => by
              obtain ⟨g, cg, e, _⟩ := hv.form (by omega)
              exact ⟨g, cg, e⟩)
            have HNT : Hid (∀ (W : World) (B : Nat) (v : Value), W.ownsRow B 3 1 v (h.length + 1) (t.map (Value.int .i64) ++ [.int .i64 x]) → ∃ g cg, v = .slice (some ⟨g, 0, none⟩) (h.length + 1) cg) := Lib.hid (fun W B v hv => by
              obtain ⟨g, cg, e, _⟩ := hv.form (by omega)
              exact ⟨g, cg, e⟩)
            have hbf : w0.heap.size + 3 < wr.heap.size := by have := HPk.out.sz; omega
            have HNB : Hid (¬ (w0.heap.size + 3 = w0.heap.size + 2 ∨ ovk.ownBlock = some (w0.heap.size + 3))) := Lib.hid (fun hh => by
              rcases hh with hh | hh
              · omega
              · have := HGk.out.own.block _ hh; omega)
            have hpp := HPk.out.f
            have hlx5 : (h.length : Int) ≤ 5 := by have := HL.out; omega
            have hl5 : h.length ≤ 5 := by have := HL.out; omega
            clear HIH HACC HL HI2
            generalize hCA : crsT n zss m (h ++ [(k : Int)]) (t ++ [x]) = fnew at *
            clear hCA
            cases la with
            | none =>
              have hma := HNN.out.1 rfl
              subst hma
              have h0 : h = [] ∧ lc = 0 := by
                obtain ⟨_, hh⟩ := HOk.out
                rcases hh with ⟨e, e2⟩ | ⟨g, cap, cur, e, _⟩
                · injection e with _ e3 e4
                  exact ⟨List.eq_nil_of_length_eq_zero e3, e4⟩
                · cases e
              obtain ⟨rfl, rfl⟩ := h0
              have t0 : t = [] := List.eq_nil_of_length_eq_zero HTL.out
              subst t0
              have hm0 : mc = 0 := by
                obtain ⟨_, hh⟩ := HMk.out
                rcases hh with ⟨e, e2⟩ | ⟨g, cap, cur, e, _⟩
                · injection e
                · cases e
              subst hm0
              go_wp2_with fail
              refine HC.out.mono ?_
              rintro _ w1 ⟨rfl, rfl⟩
              go_wp2_with fail
              refine HMM.out.mono ?_
              rintro _ w1 ⟨rfl, rfl⟩
              go_wp2_with fail
              go_region_held3 (fun w' => w'.cell? ⟨w0.heap.size + 3, 0, none⟩ = some (.func (.func 95) #[] (putC w0.heap.size))) (first | exact hpp3 | exact hpp2 | exact hpp1 | go_keep)
                (first
                  | (refine step_append_grows (by rfl) _ _ _ (by rfl) 3 i0 (.int .i64 0) 1 8 Try.underlying28 hi0 hz0 hz1 hz2 rfl (by omega) none 0 0 [] (by rfl) (fun _ => ⟨rfl, rfl⟩) (by rfl) (fun b h => by cases h) ⟨wr.heap.size, 0, none⟩ 1 1 [.int .i64 (k : Int)] (by rfl) (by rfl) (cell_one (bx1 wr _)) (by simp [Value.oneCell']) (by omega) (by unfold maxLen; omega) (by omega) ?_; intro v1 w1 hown1 hgrow1; obtain ⟨g1, cg1, rfl⟩ := HNF.out _ _ _ hown1; have hFW1 := fut_grown hgrow1; have hF1 : Fut wr w1 := (fu1 wr (.cells #[.int .i64 (k : Int)] 3)).trans hFW1; replace hown1 := row_base hown1 (RowKit.Below.size (fu1 wr (.cells #[.int .i64 (k : Int)] 3))); have hpp1 : w1.cell? ⟨w0.heap.size + 3, 0, none⟩ = some (.func (.func 95) #[] (putC w0.heap.size)) := (RowKit.Below.cell hF1 (p := ⟨w0.heap.size + 3, 0, none⟩) hbf).trans hpp)
                  | (refine step_append_grows (by rfl) _ _ _ (by rfl) 3 i0 (.int .i64 0) 1 8 Try.underlying28 hi0 hz0 hz1 hz2 rfl (by omega) none 0 0 [] (by rfl) (fun _ => ⟨rfl, rfl⟩) (by rfl) (fun b h => by cases h) ⟨wr.heap.size, 0, none⟩ 1 1 [.int .i64 (k : Int)] (by rfl) (by rfl) (cell_one (bx2 wr _ _)) (by simp [Value.oneCell']) (by omega) (by unfold maxLen; omega) (by omega) ?_; intro v1 w1 hown1 hgrow1; obtain ⟨g1, cg1, rfl⟩ := HNF.out _ _ _ hown1; have hFW1 := fut_grown hgrow1; have hF1 : Fut wr w1 := (fu2 wr (.cells #[.int .i64 (k : Int)] 3) (.cells #[.int .i64 x] 3)).trans hFW1; replace hown1 := row_base hown1 (RowKit.Below.size (fu2 wr (.cells #[.int .i64 (k : Int)] 3) (.cells #[.int .i64 x] 3))); have hpp1 : w1.cell? ⟨w0.heap.size + 3, 0, none⟩ = some (.func (.func 95) #[] (putC w0.heap.size)) := (RowKit.Below.cell hF1 (p := ⟨w0.heap.size + 3, 0, none⟩) hbf).trans hpp; have y2 : w1.cell? ⟨wr.heap.size + 1, 0, none⟩ = some (.int .i64 x) := (RowKit.Below.cell hFW1 (p := ⟨wr.heap.size + 1, 0, none⟩) (World.block_lt_of_cell? _ _ (bx3 wr (.int .i64 x) (.cells #[.int .i64 (k : Int)] 3)))).trans (bx3 wr (.int .i64 x) (.cells #[.int .i64 (k : Int)] 3)))
                  | (refine step_append_grows (by rfl) _ _ _ (by rfl) 3 i0 (.int .i64 0) 1 8 Try.underlying28 hi0 hz0 hz1 hz2 rfl (by omega) none 0 0 [] (by rfl) (fun _ => ⟨rfl, rfl⟩) (by rfl) (fun b h => by cases h) ⟨wr.heap.size + 1, 0, none⟩ 1 1 [.int .i64 (k : Int)] (by rfl) (by rfl) (cell_one (bx3 wr _ _)) (by simp [Value.oneCell']) (by omega) (by unfold maxLen; omega) (by omega) ?_; intro v1 w1 hown1 hgrow1; obtain ⟨g1, cg1, rfl⟩ := HNF.out _ _ _ hown1; have hFW1 := fut_grown hgrow1; have hF1 : Fut wr w1 := (fu2 wr (.cells #[.int .i64 x] 3) (.cells #[.int .i64 (k : Int)] 3)).trans hFW1; replace hown1 := row_base hown1 (RowKit.Below.size (fu2 wr (.cells #[.int .i64 x] 3) (.cells #[.int .i64 (k : Int)] 3))); have hpp1 : w1.cell? ⟨w0.heap.size + 3, 0, none⟩ = some (.func (.func 95) #[] (putC w0.heap.size)) := (RowKit.Below.cell hF1 (p := ⟨w0.heap.size + 3, 0, none⟩) hbf).trans hpp; have y2 : w1.cell? ⟨wr.heap.size, 0, none⟩ = some (.int .i64 x) := (RowKit.Below.cell hFW1 (p := ⟨wr.heap.size, 0, none⟩) (World.block_lt_of_cell? _ _ (bx2 wr (.int .i64 x) (.cells #[.int .i64 (k : Int)] 3)))).trans (bx2 wr (.int .i64 x) (.cells #[.int .i64 (k : Int)] 3)))
                  | (refine step_append_grows (by rfl) _ _ _ (by rfl) 3 i0 (.int .i64 0) 1 8 Try.underlying28 hi0 hz0 hz1 hz2 rfl (by omega) none 0 0 [] (by rfl) (fun _ => ⟨rfl, rfl⟩) (by rfl) (fun b h => by cases h) ⟨w1.heap.size, 0, none⟩ 1 1 [.int .i64 x] (by rfl) (by rfl) (cell_one (alloc_cell w1 _ 3)) (by simp [Value.oneCell']) (by omega) (by unfold maxLen; omega) (by omega) ?_; intro v2 w2 hown2 hgrow2; obtain ⟨g2, cg2, rfl⟩ := HNT.out _ _ _ hown2; have hF12 : Fut w1 w2 := (Fut.alloc w1 (.cells #[.int .i64 x] 3)).trans (fut_grown hgrow2); have hF2 : Fut wr w2 := hF1.trans hF12; replace hown2 := row_base hown2 (RowKit.Below.size (hF1.trans (Fut.alloc w1 (.cells #[.int .i64 x] 3)))); have hpp2 : w2.cell? ⟨w0.heap.size + 3, 0, none⟩ = some (.func (.func 95) #[] (putC w0.heap.size)) := (RowKit.Below.cell hF2 (p := ⟨w0.heap.size + 3, 0, none⟩) hbf).trans hpp)
                  | (refine step_append_grows (by rfl) _ _ _ (by rfl) 3 i0 (.int .i64 0) 1 8 Try.underlying28 hi0 hz0 hz1 hz2 rfl (by omega) none 0 0 [] (by rfl) (fun _ => ⟨rfl, rfl⟩) (by rfl) (fun b h => by cases h) ⟨wr.heap.size + 1, 0, none⟩ 1 1 [.int .i64 x] (by rfl) (by rfl) (cell_one (y2)) (by simp [Value.oneCell']) (by omega) (by unfold maxLen; omega) (by omega) ?_; intro v2 w2 hown2 hgrow2; obtain ⟨g2, cg2, rfl⟩ := HNT.out _ _ _ hown2; have hF12 : Fut w1 w2 := fut_grown hgrow2; have hF2 : Fut wr w2 := hF1.trans hF12; replace hown2 := row_base hown2 (RowKit.Below.size (hF1)); have hpp2 : w2.cell? ⟨w0.heap.size + 3, 0, none⟩ = some (.func (.func 95) #[] (putC w0.heap.size)) := (RowKit.Below.cell hF2 (p := ⟨w0.heap.size + 3, 0, none⟩) hbf).trans hpp)
                  | (refine step_append_grows (by rfl) _ _ _ (by rfl) 3 i0 (.int .i64 0) 1 8 Try.underlying28 hi0 hz0 hz1 hz2 rfl (by omega) none 0 0 [] (by rfl) (fun _ => ⟨rfl, rfl⟩) (by rfl) (fun b h => by cases h) ⟨wr.heap.size, 0, none⟩ 1 1 [.int .i64 x] (by rfl) (by rfl) (cell_one (y2)) (by simp [Value.oneCell']) (by omega) (by unfold maxLen; omega) (by omega) ?_; intro v2 w2 hown2 hgrow2; obtain ⟨g2, cg2, rfl⟩ := HNT.out _ _ _ hown2; have hF12 : Fut w1 w2 := fut_grown hgrow2; have hF2 : Fut wr w2 := hF1.trans hF12; replace hown2 := row_base hown2 (RowKit.Below.size (hF1)); have hpp2 : w2.cell? ⟨w0.heap.size + 3, 0, none⟩ = some (.func (.func 95) #[] (putC w0.heap.size)) := (RowKit.Below.cell hF2 (p := ⟨w0.heap.size + 3, 0, none⟩) hbf).trans hpp)
                  | (go_at_call 95; refine (HCALL.out g1 cg1 g2 cg2 w2 hF2 (row_fut hown1 hF12) hown2).mono ?_; rintro _ w3 ⟨rfl, ov3, hG3, hB3, hV3⟩; have hpp3 : w3.cell? ⟨w0.heap.size + 3, 0, none⟩ = some (.func (.func 95) #[] (putC w0.heap.size)) := (hB3.cell (p := ⟨w0.heap.size + 3, 0, none⟩) (Nat.lt_of_lt_of_le hbf (RowKit.Below.size hF2)) (HNB.out)).trans hpp2))
              all_goals
                have hF3 : But (fun k => k = w0.heap.size + 2 ∨ ovk.ownBlock = some k) wr w3 := (But.of_below hF2).trans hB3
                have HF3 := Lib.hid hF3
                have HG3 := Lib.hid hG3
                have HV3 : Hid (∀ q, ov3.ownBlock = some q → ovk.ownBlock = some q ∨ wr.heap.size ≤ q) := Lib.hid (fun q hq => by
                  rcases hV3 q hq with h5 | h5
                  · exact .inl h5
                  · exact .inr (Nat.le_trans (RowKit.Below.size hF2) h5))
                clear hown1 hown2 hpp1 hpp2 hpp3 hG3 hB3 hV3 hF3 hF1 hF2 hF12 hgrow1 hgrow2 hFW1
                go_wp2
                go_roundw
                case rel =>
                  have HR1 := Lib.hid (HPk.out.but HF3.out (fun q hq => by
                    rcases hq with hq | hq
                    · exact .inl hq
                    · exact .inr (HGk.out.own.block q hq).1))
                  have HR2 := Lib.hid (HOk.out.apart HGk.out.own HF3.out)
                  have HR2m := Lib.hid (HMk.out.apart HGk.out.own HF3.out)
                  have HR3 : Hid (But (fun k => k = w0.heap.size + 2 ∨ ov.ownBlock = some k) w w3) := Lib.hid (HBk.out.thenBut HF3.out (fun q hq hlt => by
                    rcases hq with hq | hq
                    · exact .inl hq
                    · rcases HVk.out q hq with h5 | h5
                      · exact .inr h5
                      · omega))
                  have HR4 : Hid (∀ q, ov3.ownBlock = some q → ov.ownBlock = some q ∨ w.heap.size ≤ q) := Lib.hid (fun q hq => by
                    rcases HV3.out q hq with h5 | h5
                    · exact HVk.out q h5
                    · exact .inr (Nat.le_trans HBk.out.size h5))
                  have HR5 : Hid (Got w0 ov3 (acc ++ csgT n zss m [] [] (k + 1)) w3) := Lib.hid (by rw [HSS.out, ← List.append_assoc]; exact HG3.out)
                  first
                  | exact ⟨k + 1, ov3, by omega, by go_num, HR1, HR5, HR2, HR2m, HR3, HR4⟩
                  | ((repeat apply Exists.intro); exact ⟨⟨k + 1, ov3, by omega, by go_num, HR1, HR5, HR2, HR2m, HR3, HR4⟩, rfl⟩)
                case measure => simp [intOf]; omega
            | some ad =>
              obtain ⟨bb1, ob1, spot⟩ := ad
              have hspot : spot = none ∧ h.length ≤ lc := by
                obtain ⟨_, hh⟩ := HOk.out
                rcases hh with ⟨e, e2⟩ | ⟨g, cap, cur, e, _, _, hnc, _⟩
                · cases e
                · injection e with e1 e3 e4
                  injection e1 with e1
                  injection e1 with e5 e6 e7
                  exact ⟨e7, by omega⟩
              obtain ⟨rfl, hlc⟩ := hspot
              cases ma with
              | none => exact absurd (HNN.out.2 rfl) (by simp)
              | some md =>
                obtain ⟨bb2, ob2, spot2⟩ := md
                have hspot : spot2 = none ∧ h.length ≤ mc := by
                  obtain ⟨_, hh⟩ := HMk.out
                  rcases hh with ⟨e, e2⟩ | ⟨g, cap, cur, e, _, _, hnc, _⟩
                  · cases e
                  · injection e with e1 e3 e4
                    injection e1 with e1
                    injection e1 with e5 e6 e7
                    have := HTL.out
                    exact ⟨e7, by omega⟩
                obtain ⟨rfl, hmc⟩ := hspot
                have hlcx : (h.length : Int) ≤ lc := by omega
                have hmcx : (h.length : Int) ≤ mc := by omega
                have HOLDL : Hid (∀ W, Fut wr W → ∀ j u, (h.map (Value.int .i64))[j]? = some u → W.cell? ((⟨bb1, ob1, none⟩ : Addr).add j) = some u) := Lib.hid (fun W F j u hu => by
                  obtain ⟨a', c', e, hI⟩ := HOk.out.ints
                  simp only [Value.slice.injEq] at e
                  obtain ⟨rfl, _, rfl⟩ := e
                  have h5 := ints_news hI j u hu
                  rw [Addr.add_lit]
                  exact (RowKit.Below.cell F (World.block_lt_of_cell? _ _ h5)).trans h5)
                have HOLDM : Hid (∀ W, Fut wr W → ∀ j u, (t.map (Value.int .i64))[j]? = some u → W.cell? ((⟨bb2, ob2, none⟩ : Addr).add j) = some u) := Lib.hid (fun W F j u hu => by
                  obtain ⟨a', c', e, hI⟩ := HMk.out.ints
                  simp only [Value.slice.injEq] at e
                  obtain ⟨rfl, _, rfl⟩ := e
                  have h5 := ints_news hI j u hu
                  rw [Addr.add_lit]
                  exact (RowKit.Below.cell F (World.block_lt_of_cell? _ _ h5)).trans h5)
                go_wp2_with fail
                refine HC.out.mono ?_
                rintro _ w1 ⟨rfl, rfl⟩
                go_wp2_with fail
                refine HMM.out.mono ?_
                rintro _ w1 ⟨rfl, rfl⟩
                go_wp2_with fail
                go_region_held3 (fun w' => w'.cell? ⟨w0.heap.size + 3, 0, none⟩ = some (.func (.func 95) #[] (putC w0.heap.size))) (first | exact hpp3 | exact hpp2 | exact hpp1 | go_keep)
                  (first
                    | (refine step_append_grows (by rfl) _ _ _ (by rfl) 3 i0 (.int .i64 0) 1 8 Try.underlying28 hi0 hz0 hz1 hz2 rfl (by omega) (some ⟨bb1, ob1, none⟩) h.length h.length (h.map (Value.int .i64)) (by rfl) (fun h => by cases h) (by simp) (fun b hb => by injection hb with hb; subst hb; exact HOLDL.out _ (fu1 wr (.cells #[.int .i64 (k : Int)] 3))) ⟨wr.heap.size, 0, none⟩ 1 1 [.int .i64 (k : Int)] (by rfl) (by rfl) (cell_one (bx1 wr _)) (by simp [Value.oneCell']) (by omega) (by unfold maxLen; omega) (by omega) ?_; intro v1 w1 hown1 hgrow1; obtain ⟨g1, cg1, rfl⟩ := HNF.out _ _ _ hown1; have hFW1 := fut_grown hgrow1; have hF1 : Fut wr w1 := (fu1 wr (.cells #[.int .i64 (k : Int)] 3)).trans hFW1; replace hown1 := row_base hown1 (RowKit.Below.size (fu1 wr (.cells #[.int .i64 (k : Int)] 3))); have hpp1 : w1.cell? ⟨w0.heap.size + 3, 0, none⟩ = some (.func (.func 95) #[] (putC w0.heap.size)) := (RowKit.Below.cell hF1 (p := ⟨w0.heap.size + 3, 0, none⟩) hbf).trans hpp)
                    | (refine step_append_grows (by rfl) _ _ _ (by rfl) 3 i0 (.int .i64 0) 1 8 Try.underlying28 hi0 hz0 hz1 hz2 rfl (by omega) (some ⟨bb1, ob1, none⟩) h.length h.length (h.map (Value.int .i64)) (by rfl) (fun h => by cases h) (by simp) (fun b hb => by injection hb with hb; subst hb; exact HOLDL.out _ (fu2 wr (.cells #[.int .i64 (k : Int)] 3) (.cells #[.int .i64 x] 3))) ⟨wr.heap.size, 0, none⟩ 1 1 [.int .i64 (k : Int)] (by rfl) (by rfl) (cell_one (bx2 wr _ _)) (by simp [Value.oneCell']) (by omega) (by unfold maxLen; omega) (by omega) ?_; intro v1 w1 hown1 hgrow1; obtain ⟨g1, cg1, rfl⟩ := HNF.out _ _ _ hown1; have hFW1 := fut_grown hgrow1; have hF1 : Fut wr w1 := (fu2 wr (.cells #[.int .i64 (k : Int)] 3) (.cells #[.int .i64 x] 3)).trans hFW1; replace hown1 := row_base hown1 (RowKit.Below.size (fu2 wr (.cells #[.int .i64 (k : Int)] 3) (.cells #[.int .i64 x] 3))); have hpp1 : w1.cell? ⟨w0.heap.size + 3, 0, none⟩ = some (.func (.func 95) #[] (putC w0.heap.size)) := (RowKit.Below.cell hF1 (p := ⟨w0.heap.size + 3, 0, none⟩) hbf).trans hpp; have y2 : w1.cell? ⟨wr.heap.size + 1, 0, none⟩ = some (.int .i64 x) := (RowKit.Below.cell hFW1 (p := ⟨wr.heap.size + 1, 0, none⟩) (World.block_lt_of_cell? _ _ (bx3 wr (.int .i64 x) (.cells #[.int .i64 (k : Int)] 3)))).trans (bx3 wr (.int .i64 x) (.cells #[.int .i64 (k : Int)] 3)))
                    | (refine step_append_grows (by rfl) _ _ _ (by rfl) 3 i0 (.int .i64 0) 1 8 Try.underlying28 hi0 hz0 hz1 hz2 rfl (by omega) (some ⟨bb1, ob1, none⟩) h.length h.length (h.map (Value.int .i64)) (by rfl) (fun h => by cases h) (by simp) (fun b hb => by injection hb with hb; subst hb; exact HOLDL.out _ (fu2 wr (.cells #[.int .i64 x] 3) (.cells #[.int .i64 (k : Int)] 3))) ⟨wr.heap.size + 1, 0, none⟩ 1 1 [.int .i64 (k : Int)] (by rfl) (by rfl) (cell_one (bx3 wr _ _)) (by simp [Value.oneCell']) (by omega) (by unfold maxLen; omega) (by omega) ?_; intro v1 w1 hown1 hgrow1; obtain ⟨g1, cg1, rfl⟩ := HNF.out _ _ _ hown1; have hFW1 := fut_grown hgrow1; have hF1 : Fut wr w1 := (fu2 wr (.cells #[.int .i64 x] 3) (.cells #[.int .i64 (k : Int)] 3)).trans hFW1; replace hown1 := row_base hown1 (RowKit.Below.size (fu2 wr (.cells #[.int .i64 x] 3) (.cells #[.int .i64 (k : Int)] 3))); have hpp1 : w1.cell? ⟨w0.heap.size + 3, 0, none⟩ = some (.func (.func 95) #[] (putC w0.heap.size)) := (RowKit.Below.cell hF1 (p := ⟨w0.heap.size + 3, 0, none⟩) hbf).trans hpp; have y2 : w1.cell? ⟨wr.heap.size, 0, none⟩ = some (.int .i64 x) := (RowKit.Below.cell hFW1 (p := ⟨wr.heap.size, 0, none⟩) (World.block_lt_of_cell? _ _ (bx2 wr (.int .i64 x) (.cells #[.int .i64 (k : Int)] 3)))).trans (bx2 wr (.int .i64 x) (.cells #[.int .i64 (k : Int)] 3)))
                    | (refine step_append_grows (by rfl) _ _ _ (by rfl) 3 i0 (.int .i64 0) 1 8 Try.underlying28 hi0 hz0 hz1 hz2 rfl (by omega) (some ⟨bb2, ob2, none⟩) h.length h.length (t.map (Value.int .i64)) (by rfl) (fun h => by cases h) (by have := HTL.out; simp; omega) (fun b hb => by injection hb with hb; subst hb; exact HOLDM.out _ (hF1.trans (Fut.alloc w1 (.cells #[.int .i64 x] 3)))) ⟨w1.heap.size, 0, none⟩ 1 1 [.int .i64 x] (by rfl) (by rfl) (cell_one (alloc_cell w1 _ 3)) (by simp [Value.oneCell']) (by omega) (by unfold maxLen; omega) (by omega) ?_; intro v2 w2 hown2 hgrow2; obtain ⟨g2, cg2, rfl⟩ := HNT.out _ _ _ hown2; have hF12 : Fut w1 w2 := (Fut.alloc w1 (.cells #[.int .i64 x] 3)).trans (fut_grown hgrow2); have hF2 : Fut wr w2 := hF1.trans hF12; replace hown2 := row_base hown2 (RowKit.Below.size (hF1.trans (Fut.alloc w1 (.cells #[.int .i64 x] 3)))); have hpp2 : w2.cell? ⟨w0.heap.size + 3, 0, none⟩ = some (.func (.func 95) #[] (putC w0.heap.size)) := (RowKit.Below.cell hF2 (p := ⟨w0.heap.size + 3, 0, none⟩) hbf).trans hpp)
                    | (refine step_append_grows (by rfl) _ _ _ (by rfl) 3 i0 (.int .i64 0) 1 8 Try.underlying28 hi0 hz0 hz1 hz2 rfl (by omega) (some ⟨bb2, ob2, none⟩) h.length h.length (t.map (Value.int .i64)) (by rfl) (fun h => by cases h) (by have := HTL.out; simp; omega) (fun b hb => by injection hb with hb; subst hb; exact HOLDM.out _ (hF1)) ⟨wr.heap.size + 1, 0, none⟩ 1 1 [.int .i64 x] (by rfl) (by rfl) (cell_one (y2)) (by simp [Value.oneCell']) (by omega) (by unfold maxLen; omega) (by omega) ?_; intro v2 w2 hown2 hgrow2; obtain ⟨g2, cg2, rfl⟩ := HNT.out _ _ _ hown2; have hF12 : Fut w1 w2 := fut_grown hgrow2; have hF2 : Fut wr w2 := hF1.trans hF12; replace hown2 := row_base hown2 (RowKit.Below.size (hF1)); have hpp2 : w2.cell? ⟨w0.heap.size + 3, 0, none⟩ = some (.func (.func 95) #[] (putC w0.heap.size)) := (RowKit.Below.cell hF2 (p := ⟨w0.heap.size + 3, 0, none⟩) hbf).trans hpp)
                    | (refine step_append_grows (by rfl) _ _ _ (by rfl) 3 i0 (.int .i64 0) 1 8 Try.underlying28 hi0 hz0 hz1 hz2 rfl (by omega) (some ⟨bb2, ob2, none⟩) h.length h.length (t.map (Value.int .i64)) (by rfl) (fun h => by cases h) (by have := HTL.out; simp; omega) (fun b hb => by injection hb with hb; subst hb; exact HOLDM.out _ (hF1)) ⟨wr.heap.size, 0, none⟩ 1 1 [.int .i64 x] (by rfl) (by rfl) (cell_one (y2)) (by simp [Value.oneCell']) (by omega) (by unfold maxLen; omega) (by omega) ?_; intro v2 w2 hown2 hgrow2; obtain ⟨g2, cg2, rfl⟩ := HNT.out _ _ _ hown2; have hF12 : Fut w1 w2 := fut_grown hgrow2; have hF2 : Fut wr w2 := hF1.trans hF12; replace hown2 := row_base hown2 (RowKit.Below.size (hF1)); have hpp2 : w2.cell? ⟨w0.heap.size + 3, 0, none⟩ = some (.func (.func 95) #[] (putC w0.heap.size)) := (RowKit.Below.cell hF2 (p := ⟨w0.heap.size + 3, 0, none⟩) hbf).trans hpp)
                    | (go_at_call 95; refine (HCALL.out g1 cg1 g2 cg2 w2 hF2 (row_fut hown1 hF12) hown2).mono ?_; rintro _ w3 ⟨rfl, ov3, hG3, hB3, hV3⟩; have hpp3 : w3.cell? ⟨w0.heap.size + 3, 0, none⟩ = some (.func (.func 95) #[] (putC w0.heap.size)) := (hB3.cell (p := ⟨w0.heap.size + 3, 0, none⟩) (Nat.lt_of_lt_of_le hbf (RowKit.Below.size hF2)) (HNB.out)).trans hpp2))
                all_goals
                  have hF3 : But (fun k => k = w0.heap.size + 2 ∨ ovk.ownBlock = some k) wr w3 := (But.of_below hF2).trans hB3
                  have HF3 := Lib.hid hF3
                  have HG3 := Lib.hid hG3
                  have HV3 : Hid (∀ q, ov3.ownBlock = some q → ovk.ownBlock = some q ∨ wr.heap.size ≤ q) := Lib.hid (fun q hq => by
                    rcases hV3 q hq with h5 | h5
                    · exact .inl h5
                    · exact .inr (Nat.le_trans (RowKit.Below.size hF2) h5))
                  clear hown1 hown2 hpp1 hpp2 hpp3 hG3 hB3 hV3 hF3 hF1 hF2 hF12 hgrow1 hgrow2 hFW1
                  go_wp2
                  go_roundw
                  case rel =>
                    have HR1 := Lib.hid (HPk.out.but HF3.out (fun q hq => by
                      rcases hq with hq | hq
                      · exact .inl hq
                      · exact .inr (HGk.out.own.block q hq).1))
                    have HR2 := Lib.hid (HOk.out.apart HGk.out.own HF3.out)
                    have HR2m := Lib.hid (HMk.out.apart HGk.out.own HF3.out)
                    have HR3 : Hid (But (fun k => k = w0.heap.size + 2 ∨ ov.ownBlock = some k) w w3) := Lib.hid (HBk.out.thenBut HF3.out (fun q hq hlt => by
                      rcases hq with hq | hq
                      · exact .inl hq
                      · rcases HVk.out q hq with h5 | h5
                        · exact .inr h5
                        · omega))
                    have HR4 : Hid (∀ q, ov3.ownBlock = some q → ov.ownBlock = some q ∨ w.heap.size ≤ q) := Lib.hid (fun q hq => by
                      rcases HV3.out q hq with h5 | h5
                      · exact HVk.out q h5
                      · exact .inr (Nat.le_trans HBk.out.size h5))
                    have HR5 : Hid (Got w0 ov3 (acc ++ csgT n zss m h t (k + 1)) w3) := Lib.hid (by rw [HSS.out, ← List.append_assoc]; exact HG3.out)
                    first
                    | exact ⟨k + 1, ov3, by omega, by go_num, HR1, HR5, HR2, HR2m, HR3, HR4⟩
                    | ((repeat apply Exists.intro); exact ⟨⟨k + 1, ov3, by omega, by go_num, HR1, HR5, HR2, HR2m, HR3, HR4⟩, rfl⟩)
                  case measure => simp [intOf]; omega
          · rw [ht] at HSS HMM
            simp only [if_true, List.append_nil] at HSS
            clear ht
            go_wp2_with fail
            refine HC.out.mono ?_
            rintro _ w1 ⟨rfl, rfl⟩
            go_wp2_with fail
            refine HMM.out.mono ?_
            rintro _ w1 ⟨rfl, rfl⟩
            go_wp2
            go_roundw
            case rel => exact ⟨k + 1, ovk, by omega, by go_num, HPk, by rw [HSS.out]; exact HGk, HOk, HMk, HBk, HVk⟩
            case measure => simp [intOf]; omega
        · rw [hc, Bool.true_or] at HSS
          rw [hc] at HC
          simp only [if_true, List.append_nil] at HSS
          clear hc
          go_wp2_with fail
          refine HC.out.mono ?_
          rintro _ w1 ⟨rfl, rfl⟩
          go_wp2
          go_roundw
          case rel => exact ⟨k + 1, ovk, by omega, by go_num, HPk, by rw [HSS.out]; exact HGk, HOk, HMk, HBk, HVk⟩
          case measure => simp [intOf]; omega
      · obtain rfl : k = n := by omega
        go_wp2_with fail
        go_end0
        exact ⟨rfl, ovk, by rw [← csgT_all]; exact HGk.out, HBk.out, HVk.out⟩
end Go.Proofs.Ytpgifeaejjjjnaa
