/- the closure that puts the rows together. -/
import Derived.Test.YtpgifeaejjjjnaaCV
namespace Go.Proofs.Ytpgifeaejjjjnaa
open Go.RowKit Go.Sort
/-- what put is over: its boxes. -/
abbrev putV (S : Nat) : Array Value := #[.pointer (some ⟨S, 0, none⟩), .pointer (some ⟨S + 2, 0, none⟩), .pointer (some ⟨S + 1, 0, none⟩), .pointer (some ⟨S + 3, 0, none⟩)]
structure Pst (w0 : World) (n : Nat) (a : Option Addr) (cap : Nat) (zss : List (List Int)) (w : World) : Prop where
  low : RowKit.Below w0.heap.size w0 w
  sz : w0.heap.size + 4 ≤ w.heap.size
  n : w.cell? ⟨w0.heap.size, 0, none⟩ = some (.int .i64 n)
  p : w.cell? ⟨w0.heap.size + 1, 0, none⟩ = some (.slice a zss.length cap)
  f : w.cell? ⟨w0.heap.size + 3, 0, none⟩ = some (.func (.func 93) #[] (putV w0.heap.size))
theorem Pst.but {w0 : World} {n : Nat} {a : Option Addr} {cap : Nat} {zss : List (List Int)} {w w' : World} (h : Pst w0 n a cap zss w) {Z : Nat → Prop} (hb : But Z w w') (hZ : ∀ k, Z k → k = w0.heap.size + 2 ∨ w0.heap.size + 4 ≤ k) : Pst w0 n a cap zss w' where
  low := h.low.trans (hb.below w0.heap.size (by have := h.sz; omega) fun k hk => by have := hZ k hk; omega)
  sz := Nat.le_trans h.sz hb.size
  n := (hb.cell (p := ⟨w0.heap.size, 0, none⟩) (by have := h.sz; show w0.heap.size < _; omega) (fun hk => by have h5 := hZ _ hk; simp only at h5; omega)).trans h.n
  p := (hb.cell (p := ⟨w0.heap.size + 1, 0, none⟩) (by have := h.sz; show w0.heap.size + 1 < _; omega) (fun hk => by have h5 := hZ _ hk; simp only at h5; omega)).trans h.p
  f := (hb.cell (p := ⟨w0.heap.size + 3, 0, none⟩) (by have := h.sz; show w0.heap.size + 3 < _; omega) (fun hk => by have h5 := hZ _ hk; simp only at h5; omega)).trans h.f
/-- the rows that have been found. -/
structure Got (w0 : World) (ov : Value) (acc : List (List Int)) (w : World) : Prop where
  c : w.cell? ⟨w0.heap.size + 2, 0, none⟩ = some ov
  fz : w.frozen? ⟨w0.heap.size + 2, 0, none⟩ = false
  own : OwnL w (w0.heap.size + 4) ov acc
theorem Got.fut {w0 : World} {ov : Value} {acc : List (List Int)} {w w' : World} (h : Got w0 ov acc w) (F : Fut w w') : Got w0 ov acc w' := by
  have hlt := World.block_lt_of_cell? _ _ h.c
  exact ⟨(RowKit.Below.cell F (p := ⟨w0.heap.size + 2, 0, none⟩) hlt).trans h.c, (RowKit.Below.frozen F (p := ⟨w0.heap.size + 2, 0, none⟩) hlt).trans h.fz, h.own.fut F⟩
theorem OwnL.block {w : World} {B : Nat} {v : Value} {zss : List (List Int)} (h : OwnL w B v zss) : ∀ k, v.ownBlock = some k → B ≤ k ∧ k < w.heap.size := by
  obtain ⟨vals, h1, _⟩ := h
  exact fun k hk => World.ownsRow.lt h1 k hk
theorem OwnL.app {w w' : World} {B : Nat} {v : Value} {zss : List (List Int)} {vals : List Value} {nv : Value} {zs : List Int} {g c : Nat} (h1 : w.ownsRow B 28 1 v zss.length vals) (h2 : Elems w B vals zss) (hn : Owns w B nv zs)
    (hown : w'.ownsRow B 28 1 (.slice (some ⟨g, 0, none⟩) (zss.length + 1) c) (zss.length + 1) (vals ++ [nv])) (hg : w.grownBy w' v.ownBlock) : OwnL w' B (.slice (some ⟨g, 0, none⟩) (zss.length + 1) c) (zss ++ [zs]) :=
  ⟨vals ++ [nv], by simpa using hown, Elems.app h2 hn h1 hg⟩
/-- numbers of one's own lie elsewhere than what was found. -/
theorem Owns.apart {w w' : World} {S B : Nat} {v ov : Value} {zs : List Int} {acc : List (List Int)} (h : Owns w (S + 4) v zs) (ho : OwnL w B ov acc) (hb : But (fun k => k = S + 2 ∨ ov.ownBlock = some k) w w') : Owns w' (S + 4) v zs := by
  obtain ⟨vals, h1, _⟩ := ho
  have hap := own_apart h h1
  have hh := h
  obtain ⟨g1, g2⟩ := h
  refine ⟨g1, ?_⟩
  rcases g2 with g2 | ⟨g, cap, cur, h3, h4, h5, h6⟩
  · exact .inl g2
  · refine .inr ⟨g, cap, cur, h3, h4, ?_, h6⟩
    rw [hb.block g (Array.getElem?_eq_some_iff.1 h5).1 (fun hz => by
      rcases hz with hz | hz
      · omega
      · rw [h3] at hap
        rcases hap with hap | hap
        · cases hap
        · exact hap hz.symm)]
    exact h5
theorem But.thenBut {Z Z' : Nat → Prop} {a b c : World} (h : But Z a b) (k : But Z' b c) (hz : ∀ q, Z' q → q < a.heap.size → Z q) : But Z a c :=
  ⟨k.os.trans h.os, k.tape.trans h.tape, k.output.trans h.output, Nat.le_trans h.size k.size, fun i hi hn => (k.block i (Nat.lt_of_lt_of_le hi h.size) (fun hh => hn (hz i hh hi))).trans (h.block i hi hn)⟩
abbrev PutP (w0 : World) (ov : Value) (all : List (List Int)) (w : World) (e : Ending) (w' : World) : Prop :=
  e = .returned (.tuple #[]) ∧ ∃ ov', Got w0 ov' all w' ∧ But (fun k => k = w0.heap.size + 2 ∨ ov.ownBlock = some k) w w' ∧ ∀ k, ov'.ownBlock = some k → ov.ownBlock = some k ∨ w.heap.size ≤ k
def clB (zss : List (List Int)) (d : Nat) (s : Int) (b : Bool) (k : Nat) : Bool := b || tkn (zss.take k) d s
theorem clB_succ (zss : List (List Int)) (d : Nat) (s : Int) (b : Bool) (k : Nat) (hk : k < zss.length) : clB zss d s b (k + 1) = (clB zss d s b k || decide (nth (lth zss k) d = s)) := by
  unfold clB
  have e : zss.take (k + 1) = zss.take k ++ [lth zss k] := by
    rw [List.take_add_one, lth_eq, List.getElem?_eq_getElem hk]; rfl
  unfold tkn
  rw [e, List.any_append]
  simp [Bool.or_assoc]
set_option maxRecDepth 100000 in
set_option maxHeartbeats 4000000 in
theorem put_any (w0 : World) (n : Nat) (hn : n ≤ 5) (a : Option Addr) (cap : Nat) (zss : List (List Int)) (hL : LstAt w0 a zss) (hz : zss.length ≤ 5) (hd : ∀ k, k < zss.length → n ≤ (lth zss k).length) :
    ∀ (m : Nat) (la : Option Addr) (lc : Nat) (h : List Int) (ov : Value) (acc : List (List Int)) (w : World), h.length + m = n → Owns w (w0.heap.size + 4) (.slice la h.length lc) h → Pst w0 n a cap zss w → Got w0 ov acc w → acc.length + n ^ m ≤ 10000 →
      Calls Try.prog 93 (#[.slice la h.length lc] ++ putV w0.heap.size) w (PutP w0 ov (acc ++ fitT n zss m h) w) := by
  intro m
  induction m with
  | zero =>
    intro la lc h ov acc w hl hO hP hG hacc
    obtain ⟨i1, hi1, hy0, hy1, hy2⟩ := info_parts info28
    obtain rfl : h.length = n := by omega
    have c1 := hP.n
    have c2 := hG.c
    have c3 := hG.fz
    have HO := Lib.hid hO
    have HP := Lib.hid hP
    have HG := Lib.hid hG
    obtain ⟨vals, hrow, hel⟩ := hG.own
    have HRW := Lib.hid hrow
    have HEL := Lib.hid hel
    have HACC := Lib.hid hacc
    have HSB := Lib.hid hP.sz
    show Calls Try.prog 93 #[.slice la h.length lc, .pointer (some ⟨w0.heap.size, 0, none⟩), .pointer (some ⟨w0.heap.size + 2, 0, none⟩), .pointer (some ⟨w0.heap.size + 1, 0, none⟩), .pointer (some ⟨w0.heap.size + 3, 0, none⟩)] w _
    clear hl hO hP hG hacc hrow hel
    go_enter Try.func93, Try.ntmps93
    go_wp2_with (at_builtin; refine wpList_append_lies _ rfl _ _ 22 rfl (w0.heap.size + 4) 28 i1 (.slice none 0 0) 1 24 Try.underlying22 hi1 hy0 hy1 hy2 rfl (by decide) _ acc.length vals rfl (row_fut HRW.out (Fut.alloc _ _)) ⟨w.heap.size, 0, none⟩ 1 1 [.slice la h.length lc] rfl rfl (cell_one (by simp [go_sem])) (by simp [Value.oneCell']) (by omega) (by have := HACC.out; unfold maxLen; omega) (by have := HACC.out; omega) (by have := HSB.out; simp; omega) _ rfl ?_)
    intro g8 c8 w8 hown8 hgrow8 hat8 _
    have hSB := HSB.out
    have hna : ¬ some (w0.heap.size + 2) = ov.ownBlock := fun e => by
      have := HG.out.own.block _ e.symm
      omega
    have hc8 : w8.cell? ⟨w0.heap.size + 2, 0, none⟩ = some ov := (World.cell?_of_block (hgrow8.block (w0.heap.size + 2) (by simp; omega) hna)).trans (alloc_old _ _ HG.out.c)
    have hf8 : w8.frozen? ⟨w0.heap.size + 2, 0, none⟩ = false := (World.frozen?_of_block ((hgrow8.block (w0.heap.size + 2) (by simp; omega) hna).trans (RowKit.Below.heap_alloc _ _ _ (by omega)))).trans HG.out.fz
    have HX8 : Hid (OwnL w8 (w0.heap.size + 4) (.slice (some ⟨g8, 0, none⟩) (acc.length + 1) c8) (acc ++ [h])) := Lib.hid (OwnL.app (row_fut HRW.out (Fut.alloc _ _)) (HEL.out.fut (Fut.alloc _ _)) (HO.out.fut (Fut.alloc _ _)) hown8 hgrow8)
    have HB8 : Hid (But (fun k => k = w0.heap.size + 2 ∨ ov.ownBlock = some k) w w8) := Lib.hid ((But.of_below (Fut.alloc w (.cells #[.slice la h.length lc] 28))).trans ⟨hgrow8.os, hgrow8.tape, hgrow8.output, hgrow8.size, fun k hk hzz => hgrow8.block k hk (fun e => hzz (.inr e.symm))⟩)
    have HAT : Hid (ov.ownBlock = some g8 ∨ g8 = w.heap.size + 1) := Lib.hid hat8
    clear hown8 hgrow8 hna hSB hat8 c2 c3 c1
    go_wp2_with fail
    refine bodyPost_ret (results_none rfl _ _ _) rfl ?_
    refine ⟨rfl, _, ⟨World.cell?_setCell_same' _ _ _ (by rw [hc8]; rfl), by rw [World.frozen?_setCell]; exact hf8, HX8.out.grown (grownBy_setCell' _ _ _) (by show w0.heap.size + 2 < _; omega)⟩, HB8.out.setCell (p := ⟨w0.heap.size + 2, 0, none⟩) (.inl (.inl rfl)) _, fun k hk => ?_⟩
    have hk' : g8 = k := by simpa [Value.ownBlock] using hk
    subst hk'
    rcases HAT.out with h5 | h5
    · exact .inl h5
    · exact .inr (by omega)
  | succ m ih =>
    intro la lc h ov acc w hl hO hP hG hacc
    obtain ⟨i0, hi0, hz0, hz1, hz2⟩ := info_parts info3
    have hne : ((h.length : Int) == (n : Int)) = false := by simp; omega
    have c1 := hP.n
    have HO := Lib.hid hO
    have HP := Lib.hid hP
    have HG := Lib.hid hG
    have HL := Lib.hid hl
    have HIH := Lib.hid ih
    have HACC := Lib.hid hacc
    have HLL := Lib.hid hL
    have HDD := Lib.hid hd
    show Calls Try.prog 93 #[.slice la h.length lc, .pointer (some ⟨w0.heap.size, 0, none⟩), .pointer (some ⟨w0.heap.size + 2, 0, none⟩), .pointer (some ⟨w0.heap.size + 1, 0, none⟩), .pointer (some ⟨w0.heap.size + 3, 0, none⟩)] w _
    clear hl hO hP hG hacc ih hL hd
    go_enter Try.func93, Try.ntmps93
    go_wp2_with fail
    go_loopw [19] (fun kv wr => ∃ (k : Nat) (ovk : Value), k ≤ n ∧ kv = .int .i64 k ∧ Hid (Pst w0 n a cap zss wr) ∧ Hid (Got w0 ovk (acc ++ fsegT n zss m h k) wr) ∧ Hid (Owns wr (w0.heap.size + 4) (.slice la h.length lc) h) ∧ Hid (But (fun k => k = w0.heap.size + 2 ∨ ov.ownBlock = some k) w wr) ∧ Hid (∀ k, ovk.ownBlock = some k → ov.ownBlock = some k ∨ w.heap.size ≤ k)) (fun kv _ => n - (intOf kv).toNat)
    case atStart => exact ⟨0, ov, Nat.zero_le _, rfl, HP, by rw [fsegT_zero, List.append_nil]; exact HG, HO, Lib.hid (But.refl _ _), Lib.hid fun k hk => .inl hk⟩
    case round =>
      obtain ⟨k, ovk, hk, rfl, HPk, HGk, HOk, HBk, HVk⟩ := hrel
      clear HP HG HO c1
      by_cases hkt : k < n
      · have hkx : (k : Int) < n := by omega
        have HSS := Lib.hid (fsegT_succ n zss m h k)
        obtain ⟨a', cap', e', q1, q2, hI⟩ := HOk.out.form
        simp only [Value.slice.injEq, true_and] at e'
        obtain ⟨rfl, rfl⟩ := e'
        have HC := Lib.hid (contains_any la lc h k wr hI (by have := HL.out; omega))
        have HCL := Lib.hid (fun j (hj : j < zss.length) => clB_succ zss h.length k (h.contains (k : Int)) j hj)
        have HC0 : Hid (clB zss h.length k (h.contains (k : Int)) 0 = h.contains (k : Int)) := Lib.hid (by unfold clB tkn; simp)
        have HC1 : Hid (clB zss h.length k (h.contains (k : Int)) zss.length = (h.contains (k : Int) || tkn zss h.length k)) := Lib.hid (by unfold clB; rw [List.take_length])
        generalize h.contains (k : Int) = hc at *
        have c2 := HPk.out.p
        have HLW := Lib.hid (HLL.out.fut HPk.out.low)
        have HQ1 := Lib.hid q1
        have hzx : (zss.length : Int) ≤ 5 := by omega
        clear hI q1 q2
        go_wp2_with fail
        refine HC.out.mono ?_
        rintro _ w1 ⟨rfl, rfl⟩
        go_wp2_with fail
        go_loopw [7, 27] (fun bv jv wq => ∃ j : Nat, j ≤ zss.length ∧ bv = .bool (clB zss h.length k hc j) ∧ jv = .int .i64 j ∧ wq = wr) (fun _ jv _ => zss.length - (intOf jv).toNat)
        case atStart => exact ⟨0, Nat.zero_le _, by rw [HC0.out], rfl, rfl⟩
        case round =>
          obtain ⟨j, hj, rfl, rfl, rfl⟩ := hrel
          by_cases hjl : j < zss.length
          · have hjx : (j : Int) < zss.length := by omega
            have HCJ := Lib.hid (HCL.out j hjl)
            obtain ⟨bb, off, l2, lc2, ea, hbb, d1, hI2⟩ := HLW.out j hjl
            subst ea
            have hdl := HDD.out j hjl
            have hlx : (h.length : Int) < (lth zss j).length := by have := HL.out; omega
            obtain ⟨b2, off2, e2, hb2, d2⟩ := hI2 h.length (by omega)
            subst e2
            clear hI2 hdl
            generalize nth (lth zss j) h.length = x at *
            generalize (lth zss j).length = xl at *
            cases hcb : clB zss h.length k hc j
            · rw [hcb, Bool.false_or] at HCJ
              clear hcb
              go_wp2
              go_round
              case rel => exact ⟨j + 1, by omega, by rw [HCJ.out]; first | rfl | (congr 1; simp [eq_comm]) | skip, by go_num, by first | rfl | trivial⟩
              case measure => simp [intOf]; omega
            · rw [hcb, Bool.true_or] at HCJ
              clear hcb
              go_wp2
              go_round
              case rel => exact ⟨j + 1, by omega, by rw [HCJ.out], by go_num, by first | rfl | trivial⟩
              case measure => simp [intOf]; omega
          · obtain rfl : j = zss.length := by omega
            rw [HC1.out]
            clear HC1 HC0 HCL c2
            cases hct : (hc || tkn zss h.length (k : Int))
            · have HSN : Hid (fsegT n zss m h (k + 1) = fsegT n zss m h k ++ fitT n zss m (h ++ [(k : Int)])) := Lib.hid (by rw [HSS.out, if_neg (by rw [hct]; decide)])
              replace HSS := HSN
              have HIA : Hid (∀ (g cg : Nat) (w1 : World) (B : Nat), Fut wr w1 → wr.heap.size ≤ B → w1.ownsRow B 3 1 (.slice (some ⟨g, 0, none⟩) (h.length + 1) cg) (h.length + 1) (h.map (Value.int .i64) ++ [.int .i64 (k : Int)]) →
                  Calls Try.prog 93 #[.slice (some ⟨g, 0, none⟩) (h.length + 1) cg, .pointer (some ⟨w0.heap.size, 0, none⟩), .pointer (some ⟨w0.heap.size + 2, 0, none⟩), .pointer (some ⟨w0.heap.size + 1, 0, none⟩), .pointer (some ⟨w0.heap.size + 3, 0, none⟩)] w1 (PutP w0 ovk (acc ++ fsegT n zss m h k ++ fitT n zss m (h ++ [(k : Int)])) w1)) := Lib.hid (fun g cg w1 B F hB hown => by
                have hO : Owns w1 (w0.heap.size + 4) (.slice (some ⟨g, 0, none⟩) (h ++ [(k : Int)]).length cg) (h ++ [(k : Int)]) := by
                  refine Owns.base (B := B) ?_ (Nat.le_trans HPk.out.sz hB)
                  unfold Owns
                  simpa using hown
                have hseg : (fsegT n zss m h k).length + n ^ m ≤ n ^ (m + 1) := by
                  have key : ∀ j, j ≤ n → (fsegT n zss m h j).length ≤ j * n ^ m := by
                    intro j
                    induction j with
                    | zero => intro _; simp [fsegT_zero]
                    | succ j ih =>
                      intro hj
                      rw [fsegT_succ, List.length_append, Nat.succ_mul]
                      have h1 : (if (h.contains (j : Int) || tkn zss h.length j) = true then ([] : List (List Int)) else fitT n zss m (h ++ [(j : Int)])).length ≤ n ^ m := by
                        split
                        · simp
                        · exact fitT_le n zss m _ (by have := HL.out; simp; omega)
                      have := ih (by omega)
                      omega
                  have h1 := key k (by omega)
                  have h2 : (k + 1) * n ^ m ≤ n * n ^ m := Nat.mul_le_mul_right _ hkt
                  rw [Nat.pow_succ, Nat.mul_comm (n ^ m) n]
                  rw [Nat.succ_mul] at h2
                  omega
                have := HIH.out (some ⟨g, 0, none⟩) cg (h ++ [(k : Int)]) ovk (acc ++ fsegT n zss m h k) w1 (by have := HL.out; simp; omega) hO (HPk.out.but (But.of_below F) (Z := fun _ => False) (fun _ h => h.elim)) (HGk.out.fut F) (by have := HACC.out; rw [List.length_append]; omega)
                rw [List.length_append] at this
                exact this)
              have HNF : Hid (∀ (W : World) (B : Nat) (v : Value), W.ownsRow B 3 1 v (h.length + 1) (h.map (Value.int .i64) ++ [.int .i64 (k : Int)]) → ∃ g cg, v = .slice (some ⟨g, 0, none⟩) (h.length + 1) cg) := Lib.hid (fun W B v hv => by
                obtain ⟨g, cg, e, _⟩ := hv.form (by omega)
                exact ⟨g, cg, e⟩)
              have hbf : w0.heap.size + 3 < wr.heap.size := by have := HPk.out.sz; omega
              have HNB : Hid (¬ (w0.heap.size + 3 = w0.heap.size + 2 ∨ ovk.ownBlock = some (w0.heap.size + 3))) := Lib.hid (fun hh => by
                rcases hh with hh | hh
                · omega
                · have := HGk.out.own.block _ hh; omega)
              have hpp := HPk.out.f
              have hkk : IntKind.i64.wrap ((k : Int)) = (k : Int) := IntWalk.i64_in _ ⟨by omega, by omega⟩
              have hlx5 : (h.length : Int) ≤ 5 := by have := HL.out; omega
              have hl5 : h.length ≤ 5 := by have := HL.out; omega
              clear hct HSN HIH HACC HL HLW HLL HDD
              generalize hCA : fitT n zss m (h ++ [(k : Int)]) = fnew at *
              clear hCA
              have HCALL := HIA
              clear HIA
              cases la with
              | none =>
                have h0 : h = [] ∧ lc = 0 := by
                  obtain ⟨_, hh⟩ := HOk.out
                  rcases hh with ⟨e, e2⟩ | ⟨g, cap, cur, e, _⟩
                  · injection e with _ e3 e4
                    exact ⟨List.eq_nil_of_length_eq_zero e3, e4⟩
                  · cases e
                obtain ⟨rfl, rfl⟩ := h0
                go_wp2_with fail
                go_region_held3 (fun w' => w'.cell? ⟨w0.heap.size + 3, 0, none⟩ = some (.func (.func 93) #[] (putV w0.heap.size))) (first | go_keep | exact hpp3 | exact hpp1)
                  (first
                    | (refine step_append_grows (by rfl) _ _ _ (by rfl) 3 i0 (.int .i64 0) 1 8 Try.underlying28 hi0 hz0 hz1 hz2 rfl (by omega) none 0 0 [] (by rfl) (fun _ => ⟨rfl, rfl⟩) (by rfl) (fun b h => by cases h) ⟨wr.heap.size, 0, none⟩ 1 1 [.int .i64 (k : Int)] (by rfl) (by rfl) (World.news_of_block (cs := #[.int .i64 (k : Int)]) (t := 3) (fr := (0, 0)) (heap_alloc_new wr _)) (by simp [Value.oneCell']) (by omega) (by unfold maxLen; omega) (by omega) ?_; intro v' w1 hown1 hgrow; obtain ⟨g, cg, rfl⟩ := HNF.out _ _ _ hown1; have hF1 : Fut wr w1 := RowKit.Below.grown (below_drewN (Fut.alloc wr (.cells #[.int .i64 (k : Int)] 3)) 1) hgrow (by simp) (fun i hi => by cases hi); have hpp1 : w1.cell? ⟨w0.heap.size + 3, 0, none⟩ = some (.func (.func 93) #[] (putV w0.heap.size)) := (RowKit.Below.cell hF1 (p := ⟨w0.heap.size + 3, 0, none⟩) hbf).trans hpp)
                    | (go_at_call 93; refine (HCALL.out g cg w1 _ hF1 (by simp) hown1).mono ?_; rintro _ w3 ⟨rfl, ov3, hG3, hB3, hV3⟩; have hpp3 : w3.cell? ⟨w0.heap.size + 3, 0, none⟩ = some (.func (.func 93) #[] (putV w0.heap.size)) := (hB3.cell (p := ⟨w0.heap.size + 3, 0, none⟩) (Nat.lt_of_lt_of_le hbf (RowKit.Below.size hF1)) (HNB.out)).trans hpp1))
                have hF3 : But (fun k => k = w0.heap.size + 2 ∨ ovk.ownBlock = some k) wr w3 := (But.of_below hF1).trans hB3
                have HF3 := Lib.hid hF3
                have HG3 := Lib.hid hG3
                have HV3 : Hid (∀ q, ov3.ownBlock = some q → ovk.ownBlock = some q ∨ wr.heap.size ≤ q) := Lib.hid (fun q hq => by
                  rcases hV3 q hq with h5 | h5
                  · exact .inl h5
                  · exact .inr (Nat.le_trans (RowKit.Below.size hF1) h5))
                clear hown1 hgrow hpp1 hpp3 hG3 hB3 hV3 hF3 hpp hkk hF1
                go_wp2
                go_roundw
                case rel =>
                  have HR1 := Lib.hid (HPk.out.but HF3.out (fun q hq => by
                    rcases hq with hq | hq
                    · exact .inl hq
                    · exact .inr (HGk.out.own.block q hq).1))
                  have HR2 := Lib.hid (HOk.out.apart HGk.out.own HF3.out)
                  have HR3 : Hid (But (fun k => k = w0.heap.size + 2 ∨ ov.ownBlock = some k) w w3) := Lib.hid (HBk.out.thenBut HF3.out (fun q hq hlt => by
                    rcases hq with hq | hq
                    · exact .inl hq
                    · rcases HVk.out q hq with h5 | h5
                      · exact .inr h5
                      · omega))
                  have HR4 : Hid (∀ q, ov3.ownBlock = some q → ov.ownBlock = some q ∨ w.heap.size ≤ q) := Lib.hid (fun q hq => by
                    rcases HV3.out q hq with h5 | h5
                    · exact HVk.out q h5
                    · exact .inr (Nat.le_trans HBk.out.size h5))
                  have HR5 : Hid (Got w0 ov3 (acc ++ fsegT n zss m [] (k + 1)) w3) := Lib.hid (by rw [HSS.out, ← List.append_assoc]; exact HG3.out)
                  first
                  | exact ⟨k + 1, ov3, by omega, by go_num, HR1, HR5, HR2, HR3, HR4⟩
                  | ((repeat apply Exists.intro); exact ⟨⟨k + 1, ov3, by omega, by go_num, HR1, HR5, HR2, HR3, HR4⟩, rfl⟩)
                case measure => simp [intOf]; omega
              | some ad =>
                obtain ⟨bb, ob, spot⟩ := ad
                have hspot : spot = none ∧ h.length ≤ lc := by
                  obtain ⟨_, hh⟩ := HOk.out
                  rcases hh with ⟨e, e2⟩ | ⟨g, cap, cur, e, _, _, hnc, _⟩
                  · cases e
                  · injection e with e1 e3 e4
                    injection e1 with e1
                    injection e1 with e5 e6 e7
                    exact ⟨e7, by omega⟩
                obtain ⟨rfl, hlc⟩ := hspot
                have hlcx : (h.length : Int) ≤ lc := by omega
                have HOLD2 : Hid (∀ j u, (h.map (Value.int .i64))[j]? = some u → ((wr.alloc (.cells #[.int .i64 (k : Int)] 3)).drew).cell? ((⟨bb, ob, none⟩ : Addr).add j) = some u) := Lib.hid (fun j u hu => by
                  obtain ⟨a', c', e, hI⟩ := HOk.out.ints
                  simp only [Value.slice.injEq] at e
                  obtain ⟨rfl, _, rfl⟩ := e
                  have h5 := ints_news hI j u hu
                  rw [Addr.add_lit]
                  exact (RowKit.Below.cell (below_drewN (Fut.alloc wr (.cells #[.int .i64 (k : Int)] 3)) 1) (World.block_lt_of_cell? _ _ h5)).trans h5)
                go_wp2_with fail
                go_region_held3 (fun w' => w'.cell? ⟨w0.heap.size + 3, 0, none⟩ = some (.func (.func 93) #[] (putV w0.heap.size))) (first | go_keep | exact hpp3 | exact hpp1)
                  (first
                    | (refine step_append_grows (by rfl) _ _ _ (by rfl) 3 i0 (.int .i64 0) 1 8 Try.underlying28 hi0 hz0 hz1 hz2 rfl (by omega) (some ⟨bb, ob, none⟩) h.length h.length (h.map (Value.int .i64)) (by rfl) (fun h => by cases h) (by simp) (fun b h => by injection h with h; subst h; exact HOLD2.out) ⟨wr.heap.size, 0, none⟩ 1 1 [.int .i64 (k : Int)] (by rfl) (by rfl) (World.news_of_block (cs := #[.int .i64 (k : Int)]) (t := 3) (fr := (0, 0)) (heap_alloc_new wr _)) (by simp [Value.oneCell']) (by omega) (by unfold maxLen; omega) (by omega) ?_; intro v' w1 hown1 hgrow; obtain ⟨g, cg, rfl⟩ := HNF.out _ _ _ hown1; have hF1 : Fut wr w1 := RowKit.Below.grown (below_drewN (Fut.alloc wr (.cells #[.int .i64 (k : Int)] 3)) 1) hgrow (by simp) (fun i hi => by cases hi); have hpp1 : w1.cell? ⟨w0.heap.size + 3, 0, none⟩ = some (.func (.func 93) #[] (putV w0.heap.size)) := (RowKit.Below.cell hF1 (p := ⟨w0.heap.size + 3, 0, none⟩) hbf).trans hpp)
                    | (go_at_call 93; refine (HCALL.out g cg w1 _ hF1 (by simp) hown1).mono ?_; rintro _ w3 ⟨rfl, ov3, hG3, hB3, hV3⟩; have hpp3 : w3.cell? ⟨w0.heap.size + 3, 0, none⟩ = some (.func (.func 93) #[] (putV w0.heap.size)) := (hB3.cell (p := ⟨w0.heap.size + 3, 0, none⟩) (Nat.lt_of_lt_of_le hbf (RowKit.Below.size hF1)) (HNB.out)).trans hpp1))
                have hF3 : But (fun k => k = w0.heap.size + 2 ∨ ovk.ownBlock = some k) wr w3 := (But.of_below hF1).trans hB3
                have HF3 := Lib.hid hF3
                have HG3 := Lib.hid hG3
                have HV3 : Hid (∀ q, ov3.ownBlock = some q → ovk.ownBlock = some q ∨ wr.heap.size ≤ q) := Lib.hid (fun q hq => by
                  rcases hV3 q hq with h5 | h5
                  · exact .inl h5
                  · exact .inr (Nat.le_trans (RowKit.Below.size hF1) h5))
                clear hown1 hgrow hpp1 hpp3 hG3 hB3 hV3 hF3 hpp hkk hF1
                go_wp2
                go_roundw
                case rel =>
                  have HR1 := Lib.hid (HPk.out.but HF3.out (fun q hq => by
                    rcases hq with hq | hq
                    · exact .inl hq
                    · exact .inr (HGk.out.own.block q hq).1))
                  have HR2 := Lib.hid (HOk.out.apart HGk.out.own HF3.out)
                  have HR3 : Hid (But (fun k => k = w0.heap.size + 2 ∨ ov.ownBlock = some k) w w3) := Lib.hid (HBk.out.thenBut HF3.out (fun q hq hlt => by
                    rcases hq with hq | hq
                    · exact .inl hq
                    · rcases HVk.out q hq with h5 | h5
                      · exact .inr h5
                      · omega))
                  have HR4 : Hid (∀ q, ov3.ownBlock = some q → ov.ownBlock = some q ∨ w.heap.size ≤ q) := Lib.hid (fun q hq => by
                    rcases HV3.out q hq with h5 | h5
                    · exact HVk.out q h5
                    · exact .inr (Nat.le_trans HBk.out.size h5))
                  have HR5 : Hid (Got w0 ov3 (acc ++ fsegT n zss m h (k + 1)) w3) := Lib.hid (by rw [HSS.out, ← List.append_assoc]; exact HG3.out)
                  first
                  | exact ⟨k + 1, ov3, by omega, by go_num, HR1, HR5, HR2, HR3, HR4⟩
                  | ((repeat apply Exists.intro); exact ⟨⟨k + 1, ov3, by omega, by go_num, HR1, HR5, HR2, HR3, HR4⟩, rfl⟩)
                case measure => simp [intOf]; omega
            · have HSK : Hid (fsegT n zss m h (k + 1) = fsegT n zss m h k) := Lib.hid (by rw [HSS.out, if_pos hct, List.append_nil])
              clear hct
              go_wp2
              go_roundw
              case rel => exact ⟨k + 1, ovk, by omega, by go_num, HPk, by rw [HSK.out]; exact HGk, HOk, HBk, HVk⟩
              case measure => simp [intOf]; omega
      · obtain rfl : k = n := by omega
        go_wp2_with fail
        go_end0
        exact ⟨rfl, ovk, by rw [← fsegT_all]; exact HGk.out, HBk.out, HVk.out⟩
end Go.Proofs.Ytpgifeaejjjjnaa
