/- Law 13 (WeekAll): the walk over all starts of a rota, by hand at the last region -/
import Derived.Test.YtpgifeaejjjjnaaCZ
namespace Go.Proofs.Ytpgifeaejjjjnaa
open Go.RowKit Go.Sort
/-- how many full plans go on with one. -/
def cntT (n : Nat) : Nat → List (List Int) → Nat
  | 0, P => (fitL n P).length
  | m + 1, P => ((fitL n P).map fun r => cntT n m (P ++ [r])).sum
set_option maxRecDepth 100000 in
theorem cnt_all : cntT 1 0 [] = 1 ∧ cntT 2 1 [] = 2 ∧ cntT 3 2 [] = 12 := by decide
set_option maxRecDepth 1000000 in
theorem cnt_four : cntT 4 3 [] = 576 := by decide +kernel
theorem cnt_tab (n : Nat) (h1 : 1 ≤ n) (h4 : n ≤ 4) : (cntT n (n - 1) [] : Int) = nth [0, 1, 2, 12, 576] n := by
  rcases (by omega : n = 1 ∨ n = 2 ∨ n = 3 ∨ n = 4) with rfl | rfl | rfl | rfl
  · rw [show 1 - 1 = 0 from rfl, cnt_all.1]; rfl
  · rw [show 2 - 1 = 1 from rfl, cnt_all.2.1]; rfl
  · rw [show 3 - 1 = 2 from rfl, cnt_all.2.2]; rfl
  · rw [show 4 - 1 = 3 from rfl, cnt_four]; rfl
/-- .. by the first so many rows. -/
def csg (n m : Nat) (P : List (List Int)) (k : Nat) : Nat := (((fitL n P).take k).map fun r => cntT n m (P ++ [r])).sum
theorem csg_zero (n m : Nat) (P : List (List Int)) : csg n m P 0 = 0 := rfl
theorem csg_succ (n m : Nat) (P : List (List Int)) (k : Nat) (hk : k < (fitL n P).length) : csg n m P (k + 1) = csg n m P k + cntT n m (P ++ [lth (fitL n P) k]) := by
  unfold csg
  have e : (fitL n P).take (k + 1) = (fitL n P).take k ++ [lth (fitL n P) k] := by
    rw [List.take_add_one, lth_eq, List.getElem?_eq_getElem hk]; rfl
  rw [e, List.map_append, List.sum_append]
  simp
theorem csg_all (n m : Nat) (P : List (List Int)) : csg n m P (fitL n P).length = cntT n (m + 1) P := by
  unfold csg; rw [List.take_length]; rfl
theorem csg_mono (n m : Nat) (P : List (List Int)) (k d : Nat) (h : k + d ≤ (fitL n P).length) : csg n m P k ≤ csg n m P (k + d) := by
  induction d with
  | zero => exact Nat.le_refl _
  | succ d ih =>
    rw [← Nat.add_assoc, csg_succ n m P (k + d) (by omega)]
    have := ih (by omega)
    omega
theorem csg_le (n m : Nat) (P : List (List Int)) (k : Nat) (h : k ≤ (fitL n P).length) : csg n m P k ≤ cntT n (m + 1) P := by
  rw [← csg_all]
  have := csg_mono n m P k ((fitL n P).length - k) (by omega)
  rwa [show k + ((fitL n P).length - k) = (fitL n P).length by omega] at this
theorem fit_mem {n : Nat} {zss : List (List Int)} {k : Nat} (hk : k < (fitL n zss).length) : lth (fitL n zss) k ∈ fitL n zss := by
  rw [lth_eq, List.getElem?_eq_getElem hk]
  exact List.getElem_mem _
theorem OwnL.but {Z : Nat → Prop} {w w' : World} {B : Nat} {v : Value} {zss : List (List Int)} (h : OwnL w B v zss) (hb : But Z w w') (hZ : ∀ k, Z k → k < B) : OwnL w' B v zss := by
  obtain ⟨vals, h1, h2⟩ := h
  refine ⟨vals, ⟨h1.1, ?_⟩, h2.1, fun j hj => ?_⟩
  · rcases h1.2 with h3 | ⟨g, cap, cur, h3, h4, h5, h6⟩
    · exact .inl h3
    · exact .inr ⟨g, cap, cur, h3, h4, by rw [hb.block g (Array.getElem?_eq_some_iff.1 h5).1 (fun hz => by have := hZ g hz; omega)]; exact h5, h6⟩
  · obtain ⟨u, e, hu⟩ := h2.2 j hj
    exact ⟨u, e, hu.but hb hZ⟩
/-- what put is over: n, the sum, whether all is good, put itself. -/
abbrev putW (S : Nat) : Array Value := #[.pointer (some ⟨S, 0, none⟩), .pointer (some ⟨S + 1, 0, none⟩), .pointer (some ⟨S + 2, 0, none⟩), .pointer (some ⟨S + 3, 0, none⟩)]
structure Ast (S n : Nat) (sm : Int) (w : World) : Prop where
  sz : S + 4 ≤ w.heap.size
  n : w.cell? ⟨S, 0, none⟩ = some (.int .i64 n)
  s : w.cell? ⟨S + 1, 0, none⟩ = some (.int .i64 sm)
  sf : w.frozen? ⟨S + 1, 0, none⟩ = false
  g : w.cell? ⟨S + 2, 0, none⟩ = some (.bool true)
  gf : w.frozen? ⟨S + 2, 0, none⟩ = false
  f : w.cell? ⟨S + 3, 0, none⟩ = some (.func (.func 58) #[] #[.pointer (some ⟨S, 0, none⟩), .pointer (some ⟨S + 1, 0, none⟩), .pointer (some ⟨S + 2, 0, none⟩), .pointer (some ⟨S + 3, 0, none⟩)])
theorem Ast.fut {S n : Nat} {sm : Int} {w w' : World} (h : Ast S n sm w) (F : Fut w w') : Ast S n sm w' where
  sz := Nat.le_trans h.sz (RowKit.Below.size F)
  n := (RowKit.Below.cell F (p := ⟨S, 0, none⟩) (World.block_lt_of_cell? _ _ h.n)).trans h.n
  s := (RowKit.Below.cell F (p := ⟨S + 1, 0, none⟩) (World.block_lt_of_cell? _ _ h.s)).trans h.s
  sf := (RowKit.Below.frozen F (p := ⟨S + 1, 0, none⟩) (World.block_lt_of_cell? _ _ h.s)).trans h.sf
  g := (RowKit.Below.cell F (p := ⟨S + 2, 0, none⟩) (World.block_lt_of_cell? _ _ h.g)).trans h.g
  gf := (RowKit.Below.frozen F (p := ⟨S + 2, 0, none⟩) (World.block_lt_of_cell? _ _ h.g)).trans h.gf
  f := (RowKit.Below.cell F (p := ⟨S + 3, 0, none⟩) (World.block_lt_of_cell? _ _ h.f)).trans h.f
theorem Ast.setSum {S n : Nat} {sm : Int} {w : World} (h : Ast S n sm w) (s2 : Int) : Ast S n s2 (w.setCell ⟨S + 1, 0, none⟩ (.int .i64 s2)) where
  sz := by simp only [World.setCell, Array.size_modify]; exact h.sz
  n := (World.cell?_of_block (RowKit.Below.heap_setCell w ⟨S + 1, 0, none⟩ _ S (by show S ≠ S + 1; omega))).trans h.n
  s := World.cell?_setCell_same' w ⟨S + 1, 0, none⟩ (.int .i64 s2) (by rw [h.s]; rfl)
  sf := by rw [World.frozen?_setCell]; exact h.sf
  g := (World.cell?_of_block (RowKit.Below.heap_setCell w ⟨S + 1, 0, none⟩ _ (S + 2) (by show S + 2 ≠ S + 1; omega))).trans h.g
  gf := by rw [World.frozen?_setCell]; exact h.gf
  f := (World.cell?_of_block (RowKit.Below.heap_setCell w ⟨S + 1, 0, none⟩ _ (S + 3) (by show S + 3 ≠ S + 1; omega))).trans h.f
theorem Ast.setGood {S n : Nat} {sm : Int} {w : World} (h : Ast S n sm w) : Ast S n sm (w.setCell ⟨S + 2, 0, none⟩ (.bool true)) where
  sz := by simp only [World.setCell, Array.size_modify]; exact h.sz
  n := (World.cell?_of_block (RowKit.Below.heap_setCell w ⟨S + 2, 0, none⟩ _ S (by show S ≠ S + 2; omega))).trans h.n
  s := (World.cell?_of_block (RowKit.Below.heap_setCell w ⟨S + 2, 0, none⟩ _ (S + 1) (by show S + 1 ≠ S + 2; omega))).trans h.s
  sf := by rw [World.frozen?_setCell]; exact h.sf
  g := World.cell?_setCell_same' w ⟨S + 2, 0, none⟩ (.bool true) (by rw [h.g]; rfl)
  gf := by rw [World.frozen?_setCell]; exact h.gf
  f := (World.cell?_of_block (RowKit.Below.heap_setCell w ⟨S + 2, 0, none⟩ _ (S + 3) (by show S + 3 ≠ S + 2; omega))).trans h.f
abbrev AllP (S n : Nat) (sm : Int) (w : World) (e : Ending) (w' : World) : Prop := e = .returned (.tuple #[]) ∧ Ast S n sm w' ∧ But (fun k => k = S + 1 ∨ k = S + 2) w w'
set_option maxRecDepth 100000 in
set_option maxHeartbeats 4000000 in
theorem all_any (S n : Nat) (h1 : 1 ≤ n) (hn : n ≤ 4) :
    ∀ (m : Nat) (la : Option Addr) (lc : Nat) (P : List (List Int)) (sm : Nat) (w : World), P.length + m + 1 = n → Plan n P → OwnL w (S + 4) (.slice la P.length lc) P → Ast S n sm w → sm + cntT n m P ≤ 1000000 →
      Calls Try.prog 58 #[.slice la P.length lc, .pointer (some ⟨S, 0, none⟩), .pointer (some ⟨S + 1, 0, none⟩), .pointer (some ⟨S + 2, 0, none⟩), .pointer (some ⟨S + 3, 0, none⟩)] w (AllP S n ((sm : Int) + (cntT n m P : Int)) w) := by
  intro m
  induction m with
  | zero =>
    intro la lc P sm w hl hP hO hA hs
    obtain ⟨la', lc', hlv, q1, q2, hL⟩ := hO.listsC
    simp only [Value.slice.injEq, true_and] at hlv
    obtain ⟨rfl, rfl⟩ := hlv
    have hop := opn_of h1 (by omega) hP
    rw [if_neg (by omega)] at hop
    have hcn : cntN n P = (fitL n P).length := by unfold cntN; rw [hop]; simp
    have HFT := Lib.hid (fitlaw_any n (by omega) la lc P w hL.lst (by omega) (fun k hk => by rw [ord_len (hP.row k hk)]; exact Nat.le_refl _))
    have HCT := Lib.hid (fun W (hW : OwnL W (S + 4) (.slice la P.length lc) P) => by
      obtain ⟨la', lc', hlv, q1, q2, hL⟩ := hW.listsC
      simp only [Value.slice.injEq, true_and] at hlv
      obtain ⟨rfl, rfl⟩ := hlv
      exact count26_any n la lc P W hL q1 q2)
    have HO := Lib.hid hO
    rw [hop, hcn] at HCT
    show Calls Try.prog 58 _ w (AllP S n ((sm : Int) + ((fitL n P).length : Int)) w)
    have hs' : sm + (fitL n P).length ≤ 1000000 := hs
    have HA := Lib.hid hA
    have c1 := hA.n
    have hlb : ((P.length : Int) == ((n : Int) - 1)) = true := by simp; omega
    have hlx : (P.length : Int) = (n : Int) - 1 := by omega
    have hw1 : IntKind.i64.wrap ((n : Int) - 1) = (n : Int) - 1 := IntWalk.i64_in _ ⟨by omega, by omega⟩
    have hw2 : IntKind.i64.wrap ((sm : Int) + ((fitL n P).length : Int)) = (sm : Int) + ((fitL n P).length : Int) := IntWalk.i64_in _ ⟨by omega, by omega⟩
    have HLX := Lib.hid hlx
    clear hl hP hO hA hs hs' hop hcn hL q1 q2 hlx
    generalize fitL n P = fl at *
    go_enter Try.func58, Try.ntmps58
    go_wp2_with fail
    refine HFT.out.mono ?_
    rintro _ w1 ⟨v, rfl, hFl, F⟩
    obtain ⟨l2, c2, rfl, _, _, _⟩ := hFl.listsC
    have HF1 := Lib.hid F
    have HA1 := Lib.hid (HA.out.fut F)
    obtain ⟨_, d1, d2, d3, d4, d5, _⟩ := HA1.out
    clear hFl F HFT c1
    go_wp2_with fail
    have hA2 : Ast S n ((sm : Int) + (fl.length : Int)) (w1.setCell ⟨S + 1, 0, none⟩ (.int .i64 ((sm : Int) + (fl.length : Int)))) := HA1.out.setSum _
    have hB2 : But (fun k => k = S + 1 ∨ k = S + 2) w (w1.setCell ⟨S + 1, 0, none⟩ (.int .i64 ((sm : Int) + (fl.length : Int)))) := (But.of_below HF1.out).setCell (p := ⟨S + 1, 0, none⟩) (.inl (.inl rfl)) _
    generalize w1.setCell ⟨S + 1, 0, none⟩ (.int .i64 ((sm : Int) + (fl.length : Int))) = w2 at *
    have HB2 := Lib.hid hB2
    have HA2 := Lib.hid hA2
    have HC2 := Lib.hid (HCT.out w2 (HO.out.but HB2.out (fun k hk => by rcases hk with hk | hk <;> omega)))
    clear hA2 hB2 d1 d2 d3 d4 d5 HCT HO HA1 HA
    refine HC2.out.mono ?_
    rintro _ w3 ⟨rfl, F⟩
    have HB3 := Lib.hid (HB2.out.trans (But.of_below F))
    have HA3 := Lib.hid (HA2.out.fut F)
    obtain ⟨_, e1, e2, e3, e4, e5, _⟩ := HA3.out
    clear F HC2 HB2 HA2
    go_wp2_with fail
    refine bodyPost_ret (results_none rfl _ _ _) rfl ?_
    exact ⟨rfl, HA3.out.setGood, HB3.out.setCell (p := ⟨S + 2, 0, none⟩) (.inl (.inr rfl)) _⟩
  | succ m ih =>
    intro la lc P sm w hl hP hO hA hs
    obtain ⟨i1, hi1, hy0, hy1, hy2⟩ := info_parts info28
    obtain ⟨la', lc', hlv, q1, q2, hL⟩ := hO.listsC
    simp only [Value.slice.injEq, true_and] at hlv
    obtain ⟨rfl, rfl⟩ := hlv
    have HFT := Lib.hid (fitlaw_any n (by omega) la lc P w hL.lst (by omega) (fun k hk => by rw [ord_len (hP.row k hk)]; exact Nat.le_refl _))
    have HFP := Lib.hid (fit_pos hP (by omega))
    have HFL : Hid ((fitL n P).length ≤ 5000) := Lib.hid (Nat.le_trans (sub_len _) (ord_le (by omega)))
    have HIH := Lib.hid ih
    have HA := Lib.hid hA
    have HP := Lib.hid hP
    have HO := Lib.hid hO
    have HS := Lib.hid hs
    have HLN := Lib.hid hl
    have c1 := hA.n
    have hlb : ((P.length : Int) == ((n : Int) - 1)) = false := by simp; omega
    have hw1 : IntKind.i64.wrap ((n : Int) - 1) = (n : Int) - 1 := IntWalk.i64_in _ ⟨by omega, by omega⟩
    have HSUC := Lib.hid (fun k (hk : k < (fitL n P).length) => csg_succ n m P k hk)
    have HSLE := Lib.hid (fun k (hk : k ≤ (fitL n P).length) => csg_le n m P k hk)
    have HMEM := Lib.hid (fun k (hk : k < (fitL n P).length) => fit_mem hk)
    have HALL := Lib.hid (csg_all n m P)
    have hP5 : P.length ≤ 5 := by omega
    clear hl hP hO hA hs hL ih q1 q2
    generalize hfl : fitL n P = fl at *
    have HFE := Lib.hid hfl
    clear hfl
    go_enter Try.func58, Try.ntmps58
    go_wp2_with fail
    refine HFT.out.mono ?_
    rintro _ w1 ⟨v, rfl, hFl, F⟩
    obtain ⟨gl, cl, _, _, rfl, _, _, _⟩ := hFl.at 0 HFP.out
    have HFK := Lib.hid (hFl.base (B' := S + 4) HA.out.sz)
    have HA1 := Lib.hid (HA.out.fut F)
    have HO1 := Lib.hid (HO.out.fut F)
    have HB1 : Hid (But (fun k => k = S + 1 ∨ k = S + 2) w w1) := Lib.hid (But.of_below F)
    have d1 := HA1.out.n
    have hflx : (fl.length : Int) ≤ 5000 := by have := HFL.out; omega
    clear hFl F HFT c1 HA HO
    go_wp2_with fail
    go_loopw [42] (fun kv wr => ∃ k : Nat, k ≤ fl.length ∧ kv = .int .i64 k ∧ Hid (Ast S n ((sm : Int) + (csg n m P k : Int)) wr) ∧ Hid (OwnL wr (S + 4) (.slice la P.length lc) P) ∧ Hid (OwnL wr (S + 4) (.slice (some ⟨gl, 0, none⟩) fl.length cl) fl) ∧ Hid (But (fun k => k = S + 1 ∨ k = S + 2) w wr)) (fun kv _ => fl.length - (intOf kv).toNat)
    case atStart => exact ⟨0, Nat.zero_le _, rfl, by rw [csg_zero]; simpa using HA1, HO1, HFK, HB1⟩
    case round =>
      obtain ⟨k, hk, rfl, HAk, HOk, HFk, HBk⟩ := hrel
      clear HA1 HO1 HFK HB1 d1
      by_cases hkt : k < fl.length
      · have hkx : (k : Int) < fl.length := by omega
        obtain ⟨g', c', rl, rc, e', hgs, hcell, hOr⟩ := HFk.out.at k hkt
        simp only [Value.slice.injEq, Option.some.injEq, Addr.mk.injEq, and_true, true_and] at e'
        obtain ⟨rfl, rfl⟩ := e'
        have HSS := Lib.hid (HSUC.out k hkt)
        have hmem := HMEM.out k hkt
        have HOR := Lib.hid hOr
        have hsle := HSLE.out (k + 1) hkt
        obtain ⟨vals, hrow, hel⟩ := HOk.out
        have HIA : Hid (∀ (g cg : Nat) (w1 : World) (B : Nat), Fut wr w1 → wr.heap.size ≤ B → w1.ownsRow B 28 1 (.slice (some ⟨g, 0, none⟩) (P.length + 1) cg) (P.length + 1) (vals ++ [.slice rl (lth fl k).length rc]) →
            Calls Try.prog 58 #[.slice (some ⟨g, 0, none⟩) (P.length + 1) cg, .pointer (some ⟨S, 0, none⟩), .pointer (some ⟨S + 1, 0, none⟩), .pointer (some ⟨S + 2, 0, none⟩), .pointer (some ⟨S + 3, 0, none⟩)] w1 (AllP S n ((sm : Int) + (csg n m P k : Int) + (cntT n m (P ++ [lth fl k]) : Int)) w1)) := Lib.hid (fun g cg w1 B F hB hown => by
          have hE : Elems wr (S + 4) (vals ++ [.slice rl (lth fl k).length rc]) (P ++ [lth fl k]) := Elems.app hel HOR.out (World.ownsRow_nil wr (S + 4) 28 1) ⟨rfl, rfl, rfl, Nat.le_refl _, fun _ _ _ => rfl⟩
          have hO : OwnL w1 (S + 4) (.slice (some ⟨g, 0, none⟩) (P ++ [lth fl k]).length cg) (P ++ [lth fl k]) := by
            have h5 : OwnL w1 B (.slice (some ⟨g, 0, none⟩) (P ++ [lth fl k]).length cg) (P ++ [lth fl k]) → OwnL w1 (S + 4) (.slice (some ⟨g, 0, none⟩) (P ++ [lth fl k]).length cg) (P ++ [lth fl k]) := fun h => h.base (Nat.le_trans HAk.out.sz hB)
            refine ⟨_, ?_, hE.fut F⟩
            have h6 : w1.ownsRow B 28 1 (.slice (some ⟨g, 0, none⟩) (P ++ [lth fl k]).length cg) (P ++ [lth fl k]).length (vals ++ [.slice rl (lth fl k).length rc]) := by simpa using hown
            refine ⟨h6.1, ?_⟩
            rcases h6.2 with h7 | ⟨g2, cap, cur, h7, h8, h9⟩
            · exact .inl h7
            · exact .inr ⟨g2, cap, cur, h7, by have := HAk.out.sz; omega, h9⟩
          have hpa := plan_add HP.out (r := lth fl k) (by rw [HFE.out]; exact hmem) (by have := HLN.out; omega)
          have := HIH.out (some ⟨g, 0, none⟩) cg (P ++ [lth fl k]) (sm + csg n m P k) w1 (by have := HLN.out; simp; omega) hpa hO (by rw [Int.natCast_add]; exact HAk.out.fut F) (by have := HS.out; have := HSS.out; omega)
          rw [List.length_append, Int.natCast_add] at this
          exact this)
        have HNF : Hid (∀ (W : World) (B : Nat) (v : Value), W.ownsRow B 28 1 v (P.length + 1) (vals ++ [.slice rl (lth fl k).length rc]) → ∃ g cg, v = .slice (some ⟨g, 0, none⟩) (P.length + 1) cg) := Lib.hid (fun W B v hv => by
          obtain ⟨g, cg, e, _⟩ := hv.form (by omega)
          exact ⟨g, cg, e⟩)
        have hbf : S + 3 < wr.heap.size := by have := HAk.out.sz; omega
        have hpp := HAk.out.f
        have HROW := Lib.hid hrow
        have hvl : vals.length = P.length := by have := hrow.1; omega
        clear hmem hOr hsle hel HIH HS HSUC HSLE HMEM HFE hrow HP HLN
        generalize cntT n m (P ++ [lth fl k]) = cx at *
        generalize lth fl k = row at *
        have HCALL := HIA
        clear HIA
        cases la with
        | none =>
          have h0 : P = [] ∧ lc = 0 ∧ vals = [] := by
            rcases HROW.out.2 with ⟨e, e2⟩ | ⟨g, cap, cur, e, _⟩
            · injection e with _ e3 e4
              exact ⟨List.eq_nil_of_length_eq_zero e3, e4, List.eq_nil_of_length_eq_zero (by rw [hvl]; exact e3)⟩
            · cases e
          obtain ⟨rfl, rfl, rfl⟩ := h0
          go_wp2_with fail
          go_region_held3 (fun w' => w'.cell? ⟨S + 3, 0, none⟩ = some (.func (.func 58) #[] #[.pointer (some ⟨S, 0, none⟩), .pointer (some ⟨S + 1, 0, none⟩), .pointer (some ⟨S + 2, 0, none⟩), .pointer (some ⟨S + 3, 0, none⟩)])) (first | go_keep | exact hpp3 | exact hpp1)
            (first
              | (refine step_append_grows (by rfl) _ _ _ (by rfl) 28 i1 (.slice none 0 0) 1 24 Try.underlying22 hi1 hy0 hy1 hy2 rfl (by omega) none 0 0 [] (by rfl) (fun _ => ⟨rfl, rfl⟩) (by rfl) (fun b h => by cases h) ⟨wr.heap.size, 0, none⟩ 1 1 [.slice rl row.length rc] (by rfl) (by rfl) (World.news_of_block (cs := #[.slice rl row.length rc]) (t := 28) (fr := (0, 0)) (heap_alloc_new wr _)) (by simp [Value.oneCell']) (by omega) (by unfold maxLen; omega) (by omega) ?_; intro v' w1 hown1 hgrow; obtain ⟨g, cg, rfl⟩ := HNF.out _ _ _ hown1; have hF1 : Fut wr w1 := RowKit.Below.grown (below_drewN (Fut.alloc wr (.cells #[.slice rl row.length rc] 28)) 1) hgrow (by simp) (fun i hi => by cases hi); have hpp1 : w1.cell? ⟨S + 3, 0, none⟩ = some (.func (.func 58) #[] #[.pointer (some ⟨S, 0, none⟩), .pointer (some ⟨S + 1, 0, none⟩), .pointer (some ⟨S + 2, 0, none⟩), .pointer (some ⟨S + 3, 0, none⟩)]) := (RowKit.Below.cell hF1 (p := ⟨S + 3, 0, none⟩) hbf).trans hpp)
              | (go_at_call 58; refine (HCALL.out g cg w1 _ hF1 (by simp) hown1).mono ?_; rintro _ w3 ⟨rfl, hA3, hB3⟩; have hpp3 : w3.cell? ⟨S + 3, 0, none⟩ = some (.func (.func 58) #[] #[.pointer (some ⟨S, 0, none⟩), .pointer (some ⟨S + 1, 0, none⟩), .pointer (some ⟨S + 2, 0, none⟩), .pointer (some ⟨S + 3, 0, none⟩)]) := hA3.f))
          have HB3 := Lib.hid ((But.of_below (Z := fun k => k = S + 1 ∨ k = S + 2) hF1).trans hB3)
          have HA3 := Lib.hid hA3
          clear hown1 hgrow hpp1 hpp3 hA3 hB3 hpp hF1
          go_wp2
          go_roundw
          case rel =>
            have HR1 : Hid (Ast S n ((sm : Int) + (csg n m [] (k + 1) : Int)) w3) := Lib.hid (by rw [HSS.out, Int.natCast_add, ← Int.add_assoc]; exact HA3.out)
            have HR2 := Lib.hid (HOk.out.but HB3.out (fun q hq => by rcases hq with hq | hq <;> omega))
            have HR3 := Lib.hid (HFk.out.but HB3.out (fun q hq => by rcases hq with hq | hq <;> omega))
            have HR4 := Lib.hid (HBk.out.trans HB3.out)
            first
            | exact ⟨k + 1, by omega, by go_num, HR1, HR2, HR3, HR4⟩
            | ((repeat apply Exists.intro); exact ⟨⟨k + 1, by omega, by go_num, HR1, HR2, HR3, HR4⟩, rfl⟩)
          case measure => simp [intOf]; omega
        | some ad =>
          obtain ⟨bb, ob, spot⟩ := ad
          have hspot : spot = none ∧ ob = 0 ∧ P.length ≤ lc ∧ lc ≤ maxLen := by
            rcases HROW.out.2 with ⟨e, e2⟩ | ⟨g, cap, cur, e, _, _, hnc, hcm, _⟩
            · cases e
            · injection e with e1 e3 e4
              injection e1 with e1
              injection e1 with e5 e6 e7
              exact ⟨e7, e6, by omega, by omega⟩
          obtain ⟨rfl, rfl, hlc, hlm⟩ := hspot
          have hlcx : (P.length : Int) ≤ lc := by omega
          have HOLD2 : Hid (∀ j u, vals[j]? = some u → ((wr.alloc (.cells #[.slice rl row.length rc] 28)).drew).cell? ((⟨bb, 0, none⟩ : Addr).add j) = some u) := Lib.hid (fun j u hu => by
            have h5 := World.ownsRow.cells HROW.out (g := bb) rfl j u hu
            rw [Addr.add_lit] at h5 ⊢
            exact (RowKit.Below.cell (below_drewN (Fut.alloc wr (.cells #[.slice rl row.length rc] 28)) 1) (World.block_lt_of_cell? _ _ h5)).trans h5)
          go_wp2_with fail
          go_region_held3 (fun w' => w'.cell? ⟨S + 3, 0, none⟩ = some (.func (.func 58) #[] #[.pointer (some ⟨S, 0, none⟩), .pointer (some ⟨S + 1, 0, none⟩), .pointer (some ⟨S + 2, 0, none⟩), .pointer (some ⟨S + 3, 0, none⟩)])) (first | go_keep | exact hpp3 | exact hpp1)
            (first
              | (refine step_append_grows (by rfl) _ _ _ (by rfl) 28 i1 (.slice none 0 0) 1 24 Try.underlying22 hi1 hy0 hy1 hy2 rfl (by omega) (some ⟨bb, 0, none⟩) P.length P.length vals (by rfl) (fun h => by cases h) (by rw [hvl, Nat.mul_one]) (fun b h => by injection h with h; subst h; exact HOLD2.out) ⟨wr.heap.size, 0, none⟩ 1 1 [.slice rl row.length rc] (by rfl) (by rfl) (World.news_of_block (cs := #[.slice rl row.length rc]) (t := 28) (fr := (0, 0)) (heap_alloc_new wr _)) (by simp [Value.oneCell']) (by omega) (by unfold maxLen; omega) (by omega) ?_; intro v' w1 hown1 hgrow; obtain ⟨g, cg, rfl⟩ := HNF.out _ _ _ hown1; have hF1 : Fut wr w1 := RowKit.Below.grown (below_drewN (Fut.alloc wr (.cells #[.slice rl row.length rc] 28)) 1) hgrow (by simp) (fun i hi => by cases hi); have hpp1 : w1.cell? ⟨S + 3, 0, none⟩ = some (.func (.func 58) #[] #[.pointer (some ⟨S, 0, none⟩), .pointer (some ⟨S + 1, 0, none⟩), .pointer (some ⟨S + 2, 0, none⟩), .pointer (some ⟨S + 3, 0, none⟩)]) := (RowKit.Below.cell hF1 (p := ⟨S + 3, 0, none⟩) hbf).trans hpp)
              | (go_at_call 58; refine (HCALL.out g cg w1 _ hF1 (by simp) hown1).mono ?_; rintro _ w3 ⟨rfl, hA3, hB3⟩; have hpp3 : w3.cell? ⟨S + 3, 0, none⟩ = some (.func (.func 58) #[] #[.pointer (some ⟨S, 0, none⟩), .pointer (some ⟨S + 1, 0, none⟩), .pointer (some ⟨S + 2, 0, none⟩), .pointer (some ⟨S + 3, 0, none⟩)]) := hA3.f))
          have HB3 := Lib.hid ((But.of_below (Z := fun k => k = S + 1 ∨ k = S + 2) hF1).trans hB3)
          have HA3 := Lib.hid hA3
          clear hown1 hgrow hpp1 hpp3 hA3 hB3 hpp hF1
          go_wp2
          go_roundw
          case rel =>
            have HR1 : Hid (Ast S n ((sm : Int) + (csg n m P (k + 1) : Int)) w3) := Lib.hid (by rw [HSS.out, Int.natCast_add, ← Int.add_assoc]; exact HA3.out)
            have HR2 := Lib.hid (HOk.out.but HB3.out (fun q hq => by rcases hq with hq | hq <;> omega))
            have HR3 := Lib.hid (HFk.out.but HB3.out (fun q hq => by rcases hq with hq | hq <;> omega))
            have HR4 := Lib.hid (HBk.out.trans HB3.out)
            first
            | exact ⟨k + 1, by omega, by go_num, HR1, HR2, HR3, HR4⟩
            | ((repeat apply Exists.intro); exact ⟨⟨k + 1, by omega, by go_num, HR1, HR2, HR3, HR4⟩, rfl⟩)
          case measure => simp [intOf]; omega
      · obtain rfl : k = fl.length := by omega
        go_wp2_with fail
        refine bodyPost_end (results_none rfl _ _ _) rfl ?_
        exact ⟨rfl, by rw [← HALL.out]; exact HAk.out, HBk.out⟩
set_option maxRecDepth 100000 in
set_option maxHeartbeats 8000000 in
theorem law13_n (n : Nat) (tot : Int) (x : Nat) (hx : x < 256) (hn : 1 + x % 4 = n) (h4 : n ≤ 4) (htot : (cntT n (n - 1) [] : Int) = tot) (hcs : (n = 1 ∧ tot = 1) ∨ (n = 2 ∧ tot = 2) ∨ (n = 3 ∧ tot = 12) ∨ (n = 4 ∧ tot = 576)) (w : World) :
    Calls Try.prog 13 #[.int .u8 x] w fun e w' => e = .returned (.bool true) ∧ Fut w w' := by
  have h1 : 1 ≤ n := by omega
  have HP : Hid (∀ W : World, Ast w.heap.size n 0 W → Calls Try.prog 58 #[.slice none 0 0, .pointer (some ⟨w.heap.size, 0, none⟩), .pointer (some ⟨w.heap.size + 1, 0, none⟩), .pointer (some ⟨w.heap.size + 2, 0, none⟩), .pointer (some ⟨w.heap.size + 3, 0, none⟩)] W (AllP w.heap.size n tot W)) := Lib.hid (fun W hA => by
    have h := all_any w.heap.size n h1 h4 (n - 1) none 0 [] 0 W (by simp; omega) (plan_nil n) (OwnL.nil _ _) hA (by omega)
    rw [htot] at h
    simpa using h)
  have hw1 : IntKind.i64.wrap (1 + (x : Int) % 4) = (n : Int) := by rw [IntWalk.i64_in _ ⟨by omega, by omega⟩]; omega
  have hw2 : IntKind.i64.wrap (1 + (x : Int).tmod 4) = (n : Int) := by rw [Int.tmod_eq_emod_of_nonneg (by omega)]; exact hw1
  clear htot
  go_enter Try.func13, Try.ntmps13
  go_wp2_with fail
  have hF : Fut w ((((w.alloc (.cells #[.int .i64 (n : Int)] 3)).alloc (.cells #[.int .i64 0] 3)).alloc (.cells #[.bool true] 4)).alloc (.cells #[.func (.func 58) #[] #[.pointer (some ⟨w.heap.size, 0, none⟩), .pointer (some ⟨w.heap.size + 1, 0, none⟩), .pointer (some ⟨w.heap.size + 2, 0, none⟩), .pointer (some ⟨w.heap.size + 3, 0, none⟩)]] 55)) := (((Fut.alloc _ _).trans (Fut.alloc _ _)).trans (Fut.alloc _ _)).trans (Fut.alloc _ _)
  have hsz : ((((w.alloc (.cells #[.int .i64 (n : Int)] 3)).alloc (.cells #[.int .i64 0] 3)).alloc (.cells #[.bool true] 4)).alloc (.cells #[.func (.func 58) #[] #[.pointer (some ⟨w.heap.size, 0, none⟩), .pointer (some ⟨w.heap.size + 1, 0, none⟩), .pointer (some ⟨w.heap.size + 2, 0, none⟩), .pointer (some ⟨w.heap.size + 3, 0, none⟩)]] 55)).heap.size = w.heap.size + 4 := by simp
  have hc0 : ((((w.alloc (.cells #[.int .i64 (n : Int)] 3)).alloc (.cells #[.int .i64 0] 3)).alloc (.cells #[.bool true] 4)).alloc (.cells #[.func (.func 58) #[] #[.pointer (some ⟨w.heap.size, 0, none⟩), .pointer (some ⟨w.heap.size + 1, 0, none⟩), .pointer (some ⟨w.heap.size + 2, 0, none⟩), .pointer (some ⟨w.heap.size + 3, 0, none⟩)]] 55)).cell? ⟨w.heap.size, 0, none⟩ = some (.int .i64 n) := alloc_old _ _ (alloc_old _ _ (alloc_old _ _ (alloc_cell w _ _)))
  have hh1 : ((w.alloc (.cells #[.int .i64 (n : Int)] 3)).alloc (.cells #[.int .i64 0] 3)).heap[w.heap.size + 1]? = some (.cells #[.int .i64 0] 3) := by
    have h := World.alloc_heap_new (w.alloc (.cells #[.int .i64 (n : Int)] 3)) (.cells #[.int .i64 0] 3)
    rwa [World.size_alloc] at h
  have hh2 : (((w.alloc (.cells #[.int .i64 (n : Int)] 3)).alloc (.cells #[.int .i64 0] 3)).alloc (.cells #[.bool true] 4)).heap[w.heap.size + 2]? = some (.cells #[.bool true] 4) := by
    have h := World.alloc_heap_new ((w.alloc (.cells #[.int .i64 (n : Int)] 3)).alloc (.cells #[.int .i64 0] 3)) (.cells #[.bool true] 4)
    rwa [World.size_alloc, World.size_alloc] at h
  have hh1' : ((((w.alloc (.cells #[.int .i64 (n : Int)] 3)).alloc (.cells #[.int .i64 0] 3)).alloc (.cells #[.bool true] 4)).alloc (.cells #[.func (.func 58) #[] #[.pointer (some ⟨w.heap.size, 0, none⟩), .pointer (some ⟨w.heap.size + 1, 0, none⟩), .pointer (some ⟨w.heap.size + 2, 0, none⟩), .pointer (some ⟨w.heap.size + 3, 0, none⟩)]] 55)).heap[w.heap.size + 1]? = some (.cells #[.int .i64 0] 3) := (RowKit.Below.heap_alloc _ _ _ (by simp)).trans ((RowKit.Below.heap_alloc _ _ _ (by simp)).trans hh1)
  have hh2' : ((((w.alloc (.cells #[.int .i64 (n : Int)] 3)).alloc (.cells #[.int .i64 0] 3)).alloc (.cells #[.bool true] 4)).alloc (.cells #[.func (.func 58) #[] #[.pointer (some ⟨w.heap.size, 0, none⟩), .pointer (some ⟨w.heap.size + 1, 0, none⟩), .pointer (some ⟨w.heap.size + 2, 0, none⟩), .pointer (some ⟨w.heap.size + 3, 0, none⟩)]] 55)).heap[w.heap.size + 2]? = some (.cells #[.bool true] 4) := (RowKit.Below.heap_alloc _ _ _ (by simp)).trans hh2
  have hc3 : ((((w.alloc (.cells #[.int .i64 (n : Int)] 3)).alloc (.cells #[.int .i64 0] 3)).alloc (.cells #[.bool true] 4)).alloc (.cells #[.func (.func 58) #[] #[.pointer (some ⟨w.heap.size, 0, none⟩), .pointer (some ⟨w.heap.size + 1, 0, none⟩), .pointer (some ⟨w.heap.size + 2, 0, none⟩), .pointer (some ⟨w.heap.size + 3, 0, none⟩)]] 55)).cell? ⟨w.heap.size + 3, 0, none⟩ = some (.func (.func 58) #[] #[.pointer (some ⟨w.heap.size, 0, none⟩), .pointer (some ⟨w.heap.size + 1, 0, none⟩), .pointer (some ⟨w.heap.size + 2, 0, none⟩), .pointer (some ⟨w.heap.size + 3, 0, none⟩)]) := by
    have h := alloc_cell (((w.alloc (.cells #[.int .i64 (n : Int)] 3)).alloc (.cells #[.int .i64 0] 3)).alloc (.cells #[.bool true] 4)) (.func (.func 58) #[] #[.pointer (some ⟨w.heap.size, 0, none⟩), .pointer (some ⟨w.heap.size + 1, 0, none⟩), .pointer (some ⟨w.heap.size + 2, 0, none⟩), .pointer (some ⟨w.heap.size + 3, 0, none⟩)]) 55
    rwa [World.size_alloc, World.size_alloc, World.size_alloc] at h
  rw [show w.heap.size + 1 + 1 + 1 = w.heap.size + 3 from rfl, show w.heap.size + 1 + 1 = w.heap.size + 2 from rfl]
  generalize ((((w.alloc (.cells #[.int .i64 (n : Int)] 3)).alloc (.cells #[.int .i64 0] 3)).alloc (.cells #[.bool true] 4)).alloc (.cells #[.func (.func 58) #[] #[.pointer (some ⟨w.heap.size, 0, none⟩), .pointer (some ⟨w.heap.size + 1, 0, none⟩), .pointer (some ⟨w.heap.size + 2, 0, none⟩), .pointer (some ⟨w.heap.size + 3, 0, none⟩)]] 55)) = W at *
  have hA : Ast w.heap.size n 0 W := ⟨by omega, hc0, by unfold World.cell?; rw [hh1']; rfl, by unfold World.frozen?; rw [hh1']; rfl, by unfold World.cell?; rw [hh2']; rfl, by unfold World.frozen?; rw [hh2']; rfl, hc3⟩
  refine (HP.out W hA).mono ?_
  rintro _ w2 ⟨rfl, hA2, hb⟩
  have hF2 : Fut w w2 := hF.trans' (hb.below (w.heap.size + 1) (by omega) fun k hk => by rcases hk with hk | hk <;> omega) (by omega)
  have HF2 := Lib.hid hF2
  have HA2 := Lib.hid hA2
  obtain ⟨_, a1, a2, _, a3, _, _⟩ := hA2
  have hb0 : w.heap.size < w2.heap.size := by have := HA2.out.sz; omega
  have hb1 : w.heap.size + 1 < w2.heap.size := by have := HA2.out.sz; omega
  have hb2 : w.heap.size + 2 < w2.heap.size := by have := HA2.out.sz; omega
  clear hF hsz hc0 hh1 hh2 hh1' hh2' hc3 hA hb hF2 HP HA2 hw1 hw2
  generalize w.heap.size = S at *
  rcases hcs with ⟨rfl, rfl⟩ | ⟨rfl, rfl⟩ | ⟨rfl, rfl⟩ | ⟨rfl, rfl⟩
  · have c1 : w2.cell? ⟨S, 0, none⟩ = some (.int .i64 1) := a1
    have HZ : Hid (∀ W' : World, Fut w2 W' → W'.cell? ⟨S, 0, none⟩ = some (.int .i64 1) ∧ W'.cell? ⟨S + 1, 0, none⟩ = some (.int .i64 1) ∧ W'.cell? ⟨S + 2, 0, none⟩ = some (.bool true)) := Lib.hid (fun W' F => ⟨(RowKit.Below.cell F (p := ⟨S, 0, none⟩) hb0).trans c1, (RowKit.Below.cell F (p := ⟨S + 1, 0, none⟩) hb1).trans a2, (RowKit.Below.cell F (p := ⟨S + 2, 0, none⟩) hb2).trans a3⟩)
    clear a1
    go_wp2_with fail
    refine wp_region_held_drew (S := (fun w' => w'.cell? ⟨S, 0, none⟩ = some (.int .i64 1) ∧ w'.cell? ⟨S + 1, 0, none⟩ = some (.int .i64 1) ∧ w'.cell? ⟨S + 2, 0, none⟩ = some (.bool true))) (by kernel_rfl) ?_ (fun hHeld => ?_)
    · ((try dsimp only); go_keep)
    refine wpAnyH_take (i := 0) (oi := { dst := some 14, op := Op.load 4 (Operand.tmp 5), type := 4, pos := "outright.go:358", after := #[], guard := none }) (v := ?_) rfl (by kernel_rfl) (by kernel_rfl) (by kernel_rfl) (fun _ _ _ h => h) (Or.inl ⟨by rfl, ?_⟩) (by assumption) ?_
    rotate_left
    · (intro w hSw; (try dsimp only at hSw); go_simp <;> with_reducible rfl)
    try simp only [Act.put, List.setIfInBounds_toArray, List.set_cons_zero, List.set_cons_succ]
    refine wpAnyH_take (i := 1) (oi := { dst := some 15, op := Op.move (Operand.tmp 14), type := 4, pos := "outright.go:358", after := #[{ on := 0, ground := Ground.data }], guard := none }) (v := ?_) rfl (by kernel_rfl) (by kernel_rfl) (by kernel_rfl) (fun _ _ _ h => h) (Or.inl ⟨by rfl, ?_⟩) (by assumption) ?_
    rotate_left
    · (intro w hSw; (try dsimp only at hSw); go_simp <;> with_reducible rfl)
    try simp only [Act.put, List.setIfInBounds_toArray, List.set_cons_zero, List.set_cons_succ]
    refine wpAnyH_take (i := 2) (oi := { dst := some 16, op := Op.load 3 (Operand.tmp 4), type := 3, pos := "outright.go:358", after := #[{ on := 1, ground := Ground.guard }], guard := some (1, true) }) (v := ?_) rfl (by kernel_rfl) (by kernel_rfl) (by kernel_rfl) (fun _ _ _ h => h) (Or.inl ⟨by rfl, ?_⟩) (by assumption) ?_
    rotate_left
    · (intro w hSw; (try dsimp only at hSw); go_simp <;> with_reducible rfl)
    try simp only [Act.put, List.setIfInBounds_toArray, List.set_cons_zero, List.set_cons_succ]
    refine wpAnyH_take (i := 5) (oi := { dst := some 19, op := Op.load 3 (Operand.tmp 3), type := 3, pos := "outright.go:358", after := #[{ on := 1, ground := Ground.guard }], guard := some (1, true) }) (v := ?_) rfl (by kernel_rfl) (by kernel_rfl) (by kernel_rfl) (fun _ _ _ h => h) (Or.inl ⟨by rfl, ?_⟩) (by assumption) ?_
    rotate_left
    · (intro w hSw; (try dsimp only at hSw); go_simp <;> with_reducible rfl)
    try simp only [Act.put, List.setIfInBounds_toArray, List.set_cons_zero, List.set_cons_succ]
    refine wpAnyH_ready (rs := [3]) (by kernel_rfl) (by simp) ?_
    refine AllReadyH.cons (o := { dst := some 17, op := Op.buildSlice 28 5 #[(0, Operand.const (Value.int IntKind.i64 0)), (1, Operand.const (Value.int IntKind.i64 1)), (2, Operand.const (Value.int IntKind.i64 2)), (3, Operand.const (Value.int IntKind.i64 12)), (4, Operand.const (Value.int IntKind.i64 576))], type := 28, pos := "outright.go:358", after := #[{ on := 1, ground := Ground.guard }], guard := some (1, true) }) rfl (fun K hK => ?_) AllReadyH.nil
    go_simp
    refine hK.out _ _ ?_ (fun hHeld => ?_)
    · ((try dsimp only); go_keep)
    clear hK K
    try simp only [Act.put, List.setIfInBounds_toArray, List.set_cons_zero, List.set_cons_succ]
    refine wpAnyH_ready (rs := [4]) (by kernel_rfl) (by simp) ?_
    refine AllReadyH.cons (o := { dst := some 18, op := Op.call { callee := Callee.value (Operand.func 56), args := #[Operand.tmp 17], argTypes := #[28] }, type := 28, pos := "outright.go:358", after := #[{ on := 3, ground := Ground.data }, { on := 1, ground := Ground.chain }, { on := 1, ground := Ground.guard }], guard := some (1, true) }) rfl (fun K hK => ?_) AllReadyH.nil
    go_simp
    go_at_call 56
    refine (list_id _ _).mono ?_
    rintro _ _ ⟨rfl, rfl⟩
    try go_wp2_with fail
    refine hK.out _ _ ?_ (fun hHeld => ?_)
    · ((try dsimp only); go_keep)
    clear hK K
    try simp only [Act.put, List.setIfInBounds_toArray, List.set_cons_zero, List.set_cons_succ]
    refine wpAnyH_take (i := 6) (oi := { dst := some 20, op := Op.indexAddr 28 (Operand.tmp 18) (Operand.tmp 19), type := 0, pos := "outright.go:358", after := #[{ on := 4, ground := Ground.data }, { on := 5, ground := Ground.data }, { on := 1, ground := Ground.guard }], guard := some (1, true) }) (v := ?_) rfl (by kernel_rfl) (by kernel_rfl) (by kernel_rfl) (fun _ _ _ h => h) (Or.inl ⟨by rfl, ?_⟩) (by assumption) ?_
    rotate_left
    · (intro w hSw; (try dsimp only at hSw); go_simp <;> with_reducible rfl)
    try simp only [Act.put, List.setIfInBounds_toArray, List.set_cons_zero, List.set_cons_succ]
    refine wpAnyH_ready (rs := [7]) (by kernel_rfl) (by simp) ?_
    refine AllReadyH.cons (o := { dst := some 21, op := Op.load 3 (Operand.tmp 20), type := 3, pos := "outright.go:358", after := #[{ on := 6, ground := Ground.data }, { on := 1, ground := Ground.guard }], guard := some (1, true) }) rfl (fun K hK => ?_) AllReadyH.nil
    go_simp
    refine hK.out _ _ ?_ (fun hHeld => ?_)
    · ((try dsimp only); go_keep)
    clear hK K
    try simp only [Act.put, List.setIfInBounds_toArray, List.set_cons_zero, List.set_cons_succ]
    refine wpAnyH_take (i := 8) (oi := { dst := some 22, op := Op.binOp BinOp.eql 3 (Operand.tmp 16) (Operand.tmp 21) 3, type := 4, pos := "outright.go:358", after := #[{ on := 2, ground := Ground.data }, { on := 7, ground := Ground.data }, { on := 1, ground := Ground.guard }], guard := some (1, true) }) (v := ?_) rfl (by kernel_rfl) (by kernel_rfl) (by kernel_rfl) (fun _ _ _ h => h) (Or.inl ⟨by rfl, ?_⟩) (by assumption) ?_
    rotate_left
    · (intro w hSw; (try dsimp only at hSw); go_simp <;> with_reducible rfl)
    try simp only [Act.put, List.setIfInBounds_toArray, List.set_cons_zero, List.set_cons_succ]
    refine wpAnyH_take (i := 9) (oi := { dst := some 23, op := Op.pick (Operand.tmp 15) (Operand.tmp 22) (Operand.const (Value.bool false)), type := 4, pos := "outright.go:358", after := #[{ on := 1, ground := Ground.data }, { on := 8, ground := Ground.data }], guard := none }) (v := ?_) rfl (by kernel_rfl) (by kernel_rfl) (by kernel_rfl) (fun _ _ _ h => h) (Or.inl ⟨by rfl, ?_⟩) (by assumption) ?_
    rotate_left
    · (intro w hSw; (try dsimp only at hSw); go_simp <;> with_reducible rfl)
    try simp only [Act.put, List.setIfInBounds_toArray, List.set_cons_zero, List.set_cons_succ]
    refine wpAnyH_take (i := 10) (oi := { dst := some 24, op := Op.move (Operand.tmp 23), type := 4, pos := "outright.go:358", after := #[{ on := 9, ground := Ground.data }, { on := 4, ground := Ground.chain }], guard := none }) (v := ?_) rfl (by kernel_rfl) (by kernel_rfl) (by kernel_rfl) (fun _ _ _ h => h) (Or.inl ⟨by rfl, ?_⟩) (by assumption) ?_
    rotate_left
    · (intro w hSw; (try dsimp only at hSw); go_simp <;> with_reducible rfl)
    try simp only [Act.put, List.setIfInBounds_toArray, List.set_cons_zero, List.set_cons_succ]
    refine wpAnyH_ready (rs := [11]) (by kernel_rfl) (by simp) ?_
    refine AllReadyH.cons (o := { dst := some 25, op := Op.call { callee := Callee.value (Operand.func 17), args := #[], argTypes := #[] }, type := 4, pos := "outright.go:358", after := #[{ on := 10, ground := Ground.chain }, { on := 10, ground := Ground.guard }], guard := some (10, true) }) rfl (fun K hK => ?_) AllReadyH.nil
    go_simp
    go_at_call 17
    refine (works_any _).mono ?_
    rintro _ w5 ⟨rfl, F5⟩
    have FW : Fut w2 w5 := Fut.trans (below_drewN (Fut.alloc w2 _) 1) F5
    obtain ⟨z0, z1, z2⟩ := HZ.out w5 FW
    try go_wp2_with fail
    refine hK.out _ _ ?_ (fun hHeld => ?_)
    · exact ⟨z0, z1, z2⟩
    clear hK K
    try simp only [Act.put, List.setIfInBounds_toArray, List.set_cons_zero, List.set_cons_succ]
    refine wpAnyH_take (i := 12) (oi := { dst := some 26, op := Op.pick (Operand.tmp 24) (Operand.tmp 25) (Operand.const (Value.bool false)), type := 4, pos := "outright.go:358", after := #[{ on := 10, ground := Ground.data }, { on := 11, ground := Ground.data }], guard := none }) (v := ?_) rfl (by kernel_rfl) (by kernel_rfl) (by kernel_rfl) (fun _ _ _ h => h) (Or.inl ⟨by rfl, ?_⟩) (by assumption) ?_
    rotate_left
    · (intro w hSw; (try dsimp only at hSw); go_simp <;> with_reducible rfl)
    try simp only [Act.put, List.setIfInBounds_toArray, List.set_cons_zero, List.set_cons_succ]
    refine wpAnyH_take (i := 13) (oi := { dst := some 2, op := Op.assign (Operand.tmp 26), type := 4, pos := "outright.go:358", after := #[{ on := 12, ground := Ground.data }, { on := 11, ground := Ground.chain }, { on := 0, ground := Ground.phase }, { on := 1, ground := Ground.phase }, { on := 2, ground := Ground.phase }, { on := 3, ground := Ground.phase }, { on := 4, ground := Ground.phase }, { on := 5, ground := Ground.phase }, { on := 6, ground := Ground.phase }, { on := 7, ground := Ground.phase }, { on := 8, ground := Ground.phase }, { on := 9, ground := Ground.phase }, { on := 10, ground := Ground.phase }, { on := 11, ground := Ground.phase }, { on := 12, ground := Ground.phase }], guard := none }) (v := ?_) rfl (by kernel_rfl) (by kernel_rfl) (by kernel_rfl) (fun _ _ _ h => h) (Or.inl ⟨by rfl, ?_⟩) (by assumption) ?_
    rotate_left
    · (intro w hSw; (try dsimp only at hSw); go_simp <;> with_reducible rfl)
    try simp only [Act.put, List.setIfInBounds_toArray, List.set_cons_zero, List.set_cons_succ]
    refine wpAnyH_done (by kernel_rfl) ?_ _
    have HF5 := Lib.hid (HF2.out.trans FW)
    clear FW F5 z0 z1 z2
    go_wp2
    go_ret
    exact ⟨rfl, HF5.out⟩
  · have c1 : w2.cell? ⟨S, 0, none⟩ = some (.int .i64 2) := a1
    have HZ : Hid (∀ W' : World, Fut w2 W' → W'.cell? ⟨S, 0, none⟩ = some (.int .i64 2) ∧ W'.cell? ⟨S + 1, 0, none⟩ = some (.int .i64 2) ∧ W'.cell? ⟨S + 2, 0, none⟩ = some (.bool true)) := Lib.hid (fun W' F => ⟨(RowKit.Below.cell F (p := ⟨S, 0, none⟩) hb0).trans c1, (RowKit.Below.cell F (p := ⟨S + 1, 0, none⟩) hb1).trans a2, (RowKit.Below.cell F (p := ⟨S + 2, 0, none⟩) hb2).trans a3⟩)
    clear a1
    go_wp2_with fail
    refine wp_region_held_drew (S := (fun w' => w'.cell? ⟨S, 0, none⟩ = some (.int .i64 2) ∧ w'.cell? ⟨S + 1, 0, none⟩ = some (.int .i64 2) ∧ w'.cell? ⟨S + 2, 0, none⟩ = some (.bool true))) (by kernel_rfl) ?_ (fun hHeld => ?_)
    · ((try dsimp only); go_keep)
    refine wpAnyH_take (i := 0) (oi := { dst := some 14, op := Op.load 4 (Operand.tmp 5), type := 4, pos := "outright.go:358", after := #[], guard := none }) (v := ?_) rfl (by kernel_rfl) (by kernel_rfl) (by kernel_rfl) (fun _ _ _ h => h) (Or.inl ⟨by rfl, ?_⟩) (by assumption) ?_
    rotate_left
    · (intro w hSw; (try dsimp only at hSw); go_simp <;> with_reducible rfl)
    try simp only [Act.put, List.setIfInBounds_toArray, List.set_cons_zero, List.set_cons_succ]
    refine wpAnyH_take (i := 1) (oi := { dst := some 15, op := Op.move (Operand.tmp 14), type := 4, pos := "outright.go:358", after := #[{ on := 0, ground := Ground.data }], guard := none }) (v := ?_) rfl (by kernel_rfl) (by kernel_rfl) (by kernel_rfl) (fun _ _ _ h => h) (Or.inl ⟨by rfl, ?_⟩) (by assumption) ?_
    rotate_left
    · (intro w hSw; (try dsimp only at hSw); go_simp <;> with_reducible rfl)
    try simp only [Act.put, List.setIfInBounds_toArray, List.set_cons_zero, List.set_cons_succ]
    refine wpAnyH_take (i := 2) (oi := { dst := some 16, op := Op.load 3 (Operand.tmp 4), type := 3, pos := "outright.go:358", after := #[{ on := 1, ground := Ground.guard }], guard := some (1, true) }) (v := ?_) rfl (by kernel_rfl) (by kernel_rfl) (by kernel_rfl) (fun _ _ _ h => h) (Or.inl ⟨by rfl, ?_⟩) (by assumption) ?_
    rotate_left
    · (intro w hSw; (try dsimp only at hSw); go_simp <;> with_reducible rfl)
    try simp only [Act.put, List.setIfInBounds_toArray, List.set_cons_zero, List.set_cons_succ]
    refine wpAnyH_take (i := 5) (oi := { dst := some 19, op := Op.load 3 (Operand.tmp 3), type := 3, pos := "outright.go:358", after := #[{ on := 1, ground := Ground.guard }], guard := some (1, true) }) (v := ?_) rfl (by kernel_rfl) (by kernel_rfl) (by kernel_rfl) (fun _ _ _ h => h) (Or.inl ⟨by rfl, ?_⟩) (by assumption) ?_
    rotate_left
    · (intro w hSw; (try dsimp only at hSw); go_simp <;> with_reducible rfl)
    try simp only [Act.put, List.setIfInBounds_toArray, List.set_cons_zero, List.set_cons_succ]
    refine wpAnyH_ready (rs := [3]) (by kernel_rfl) (by simp) ?_
    refine AllReadyH.cons (o := { dst := some 17, op := Op.buildSlice 28 5 #[(0, Operand.const (Value.int IntKind.i64 0)), (1, Operand.const (Value.int IntKind.i64 1)), (2, Operand.const (Value.int IntKind.i64 2)), (3, Operand.const (Value.int IntKind.i64 12)), (4, Operand.const (Value.int IntKind.i64 576))], type := 28, pos := "outright.go:358", after := #[{ on := 1, ground := Ground.guard }], guard := some (1, true) }) rfl (fun K hK => ?_) AllReadyH.nil
    go_simp
    refine hK.out _ _ ?_ (fun hHeld => ?_)
    · ((try dsimp only); go_keep)
    clear hK K
    try simp only [Act.put, List.setIfInBounds_toArray, List.set_cons_zero, List.set_cons_succ]
    refine wpAnyH_ready (rs := [4]) (by kernel_rfl) (by simp) ?_
    refine AllReadyH.cons (o := { dst := some 18, op := Op.call { callee := Callee.value (Operand.func 56), args := #[Operand.tmp 17], argTypes := #[28] }, type := 28, pos := "outright.go:358", after := #[{ on := 3, ground := Ground.data }, { on := 1, ground := Ground.chain }, { on := 1, ground := Ground.guard }], guard := some (1, true) }) rfl (fun K hK => ?_) AllReadyH.nil
    go_simp
    go_at_call 56
    refine (list_id _ _).mono ?_
    rintro _ _ ⟨rfl, rfl⟩
    try go_wp2_with fail
    refine hK.out _ _ ?_ (fun hHeld => ?_)
    · ((try dsimp only); go_keep)
    clear hK K
    try simp only [Act.put, List.setIfInBounds_toArray, List.set_cons_zero, List.set_cons_succ]
    refine wpAnyH_take (i := 6) (oi := { dst := some 20, op := Op.indexAddr 28 (Operand.tmp 18) (Operand.tmp 19), type := 0, pos := "outright.go:358", after := #[{ on := 4, ground := Ground.data }, { on := 5, ground := Ground.data }, { on := 1, ground := Ground.guard }], guard := some (1, true) }) (v := ?_) rfl (by kernel_rfl) (by kernel_rfl) (by kernel_rfl) (fun _ _ _ h => h) (Or.inl ⟨by rfl, ?_⟩) (by assumption) ?_
    rotate_left
    · (intro w hSw; (try dsimp only at hSw); go_simp <;> with_reducible rfl)
    try simp only [Act.put, List.setIfInBounds_toArray, List.set_cons_zero, List.set_cons_succ]
    refine wpAnyH_ready (rs := [7]) (by kernel_rfl) (by simp) ?_
    refine AllReadyH.cons (o := { dst := some 21, op := Op.load 3 (Operand.tmp 20), type := 3, pos := "outright.go:358", after := #[{ on := 6, ground := Ground.data }, { on := 1, ground := Ground.guard }], guard := some (1, true) }) rfl (fun K hK => ?_) AllReadyH.nil
    go_simp
    refine hK.out _ _ ?_ (fun hHeld => ?_)
    · ((try dsimp only); go_keep)
    clear hK K
    try simp only [Act.put, List.setIfInBounds_toArray, List.set_cons_zero, List.set_cons_succ]
    refine wpAnyH_take (i := 8) (oi := { dst := some 22, op := Op.binOp BinOp.eql 3 (Operand.tmp 16) (Operand.tmp 21) 3, type := 4, pos := "outright.go:358", after := #[{ on := 2, ground := Ground.data }, { on := 7, ground := Ground.data }, { on := 1, ground := Ground.guard }], guard := some (1, true) }) (v := ?_) rfl (by kernel_rfl) (by kernel_rfl) (by kernel_rfl) (fun _ _ _ h => h) (Or.inl ⟨by rfl, ?_⟩) (by assumption) ?_
    rotate_left
    · (intro w hSw; (try dsimp only at hSw); go_simp <;> with_reducible rfl)
    try simp only [Act.put, List.setIfInBounds_toArray, List.set_cons_zero, List.set_cons_succ]
    refine wpAnyH_take (i := 9) (oi := { dst := some 23, op := Op.pick (Operand.tmp 15) (Operand.tmp 22) (Operand.const (Value.bool false)), type := 4, pos := "outright.go:358", after := #[{ on := 1, ground := Ground.data }, { on := 8, ground := Ground.data }], guard := none }) (v := ?_) rfl (by kernel_rfl) (by kernel_rfl) (by kernel_rfl) (fun _ _ _ h => h) (Or.inl ⟨by rfl, ?_⟩) (by assumption) ?_
    rotate_left
    · (intro w hSw; (try dsimp only at hSw); go_simp <;> with_reducible rfl)
    try simp only [Act.put, List.setIfInBounds_toArray, List.set_cons_zero, List.set_cons_succ]
    refine wpAnyH_take (i := 10) (oi := { dst := some 24, op := Op.move (Operand.tmp 23), type := 4, pos := "outright.go:358", after := #[{ on := 9, ground := Ground.data }, { on := 4, ground := Ground.chain }], guard := none }) (v := ?_) rfl (by kernel_rfl) (by kernel_rfl) (by kernel_rfl) (fun _ _ _ h => h) (Or.inl ⟨by rfl, ?_⟩) (by assumption) ?_
    rotate_left
    · (intro w hSw; (try dsimp only at hSw); go_simp <;> with_reducible rfl)
    try simp only [Act.put, List.setIfInBounds_toArray, List.set_cons_zero, List.set_cons_succ]
    refine wpAnyH_ready (rs := [11]) (by kernel_rfl) (by simp) ?_
    refine AllReadyH.cons (o := { dst := some 25, op := Op.call { callee := Callee.value (Operand.func 17), args := #[], argTypes := #[] }, type := 4, pos := "outright.go:358", after := #[{ on := 10, ground := Ground.chain }, { on := 10, ground := Ground.guard }], guard := some (10, true) }) rfl (fun K hK => ?_) AllReadyH.nil
    go_simp
    go_at_call 17
    refine (works_any _).mono ?_
    rintro _ w5 ⟨rfl, F5⟩
    have FW : Fut w2 w5 := Fut.trans (below_drewN (Fut.alloc w2 _) 1) F5
    obtain ⟨z0, z1, z2⟩ := HZ.out w5 FW
    try go_wp2_with fail
    refine hK.out _ _ ?_ (fun hHeld => ?_)
    · exact ⟨z0, z1, z2⟩
    clear hK K
    try simp only [Act.put, List.setIfInBounds_toArray, List.set_cons_zero, List.set_cons_succ]
    refine wpAnyH_take (i := 12) (oi := { dst := some 26, op := Op.pick (Operand.tmp 24) (Operand.tmp 25) (Operand.const (Value.bool false)), type := 4, pos := "outright.go:358", after := #[{ on := 10, ground := Ground.data }, { on := 11, ground := Ground.data }], guard := none }) (v := ?_) rfl (by kernel_rfl) (by kernel_rfl) (by kernel_rfl) (fun _ _ _ h => h) (Or.inl ⟨by rfl, ?_⟩) (by assumption) ?_
    rotate_left
    · (intro w hSw; (try dsimp only at hSw); go_simp <;> with_reducible rfl)
    try simp only [Act.put, List.setIfInBounds_toArray, List.set_cons_zero, List.set_cons_succ]
    refine wpAnyH_take (i := 13) (oi := { dst := some 2, op := Op.assign (Operand.tmp 26), type := 4, pos := "outright.go:358", after := #[{ on := 12, ground := Ground.data }, { on := 11, ground := Ground.chain }, { on := 0, ground := Ground.phase }, { on := 1, ground := Ground.phase }, { on := 2, ground := Ground.phase }, { on := 3, ground := Ground.phase }, { on := 4, ground := Ground.phase }, { on := 5, ground := Ground.phase }, { on := 6, ground := Ground.phase }, { on := 7, ground := Ground.phase }, { on := 8, ground := Ground.phase }, { on := 9, ground := Ground.phase }, { on := 10, ground := Ground.phase }, { on := 11, ground := Ground.phase }, { on := 12, ground := Ground.phase }], guard := none }) (v := ?_) rfl (by kernel_rfl) (by kernel_rfl) (by kernel_rfl) (fun _ _ _ h => h) (Or.inl ⟨by rfl, ?_⟩) (by assumption) ?_
    rotate_left
    · (intro w hSw; (try dsimp only at hSw); go_simp <;> with_reducible rfl)
    try simp only [Act.put, List.setIfInBounds_toArray, List.set_cons_zero, List.set_cons_succ]
    refine wpAnyH_done (by kernel_rfl) ?_ _
    have HF5 := Lib.hid (HF2.out.trans FW)
    clear FW F5 z0 z1 z2
    go_wp2
    go_ret
    exact ⟨rfl, HF5.out⟩
  · have c1 : w2.cell? ⟨S, 0, none⟩ = some (.int .i64 3) := a1
    have HZ : Hid (∀ W' : World, Fut w2 W' → W'.cell? ⟨S, 0, none⟩ = some (.int .i64 3) ∧ W'.cell? ⟨S + 1, 0, none⟩ = some (.int .i64 12) ∧ W'.cell? ⟨S + 2, 0, none⟩ = some (.bool true)) := Lib.hid (fun W' F => ⟨(RowKit.Below.cell F (p := ⟨S, 0, none⟩) hb0).trans c1, (RowKit.Below.cell F (p := ⟨S + 1, 0, none⟩) hb1).trans a2, (RowKit.Below.cell F (p := ⟨S + 2, 0, none⟩) hb2).trans a3⟩)
    clear a1
    go_wp2_with fail
    refine wp_region_held_drew (S := (fun w' => w'.cell? ⟨S, 0, none⟩ = some (.int .i64 3) ∧ w'.cell? ⟨S + 1, 0, none⟩ = some (.int .i64 12) ∧ w'.cell? ⟨S + 2, 0, none⟩ = some (.bool true))) (by kernel_rfl) ?_ (fun hHeld => ?_)
    · ((try dsimp only); go_keep)
    refine wpAnyH_take (i := 0) (oi := { dst := some 14, op := Op.load 4 (Operand.tmp 5), type := 4, pos := "outright.go:358", after := #[], guard := none }) (v := ?_) rfl (by kernel_rfl) (by kernel_rfl) (by kernel_rfl) (fun _ _ _ h => h) (Or.inl ⟨by rfl, ?_⟩) (by assumption) ?_
    rotate_left
    · (intro w hSw; (try dsimp only at hSw); go_simp <;> with_reducible rfl)
    try simp only [Act.put, List.setIfInBounds_toArray, List.set_cons_zero, List.set_cons_succ]
    refine wpAnyH_take (i := 1) (oi := { dst := some 15, op := Op.move (Operand.tmp 14), type := 4, pos := "outright.go:358", after := #[{ on := 0, ground := Ground.data }], guard := none }) (v := ?_) rfl (by kernel_rfl) (by kernel_rfl) (by kernel_rfl) (fun _ _ _ h => h) (Or.inl ⟨by rfl, ?_⟩) (by assumption) ?_
    rotate_left
    · (intro w hSw; (try dsimp only at hSw); go_simp <;> with_reducible rfl)
    try simp only [Act.put, List.setIfInBounds_toArray, List.set_cons_zero, List.set_cons_succ]
    refine wpAnyH_take (i := 2) (oi := { dst := some 16, op := Op.load 3 (Operand.tmp 4), type := 3, pos := "outright.go:358", after := #[{ on := 1, ground := Ground.guard }], guard := some (1, true) }) (v := ?_) rfl (by kernel_rfl) (by kernel_rfl) (by kernel_rfl) (fun _ _ _ h => h) (Or.inl ⟨by rfl, ?_⟩) (by assumption) ?_
    rotate_left
    · (intro w hSw; (try dsimp only at hSw); go_simp <;> with_reducible rfl)
    try simp only [Act.put, List.setIfInBounds_toArray, List.set_cons_zero, List.set_cons_succ]
    refine wpAnyH_take (i := 5) (oi := { dst := some 19, op := Op.load 3 (Operand.tmp 3), type := 3, pos := "outright.go:358", after := #[{ on := 1, ground := Ground.guard }], guard := some (1, true) }) (v := ?_) rfl (by kernel_rfl) (by kernel_rfl) (by kernel_rfl) (fun _ _ _ h => h) (Or.inl ⟨by rfl, ?_⟩) (by assumption) ?_
    rotate_left
    · (intro w hSw; (try dsimp only at hSw); go_simp <;> with_reducible rfl)
    try simp only [Act.put, List.setIfInBounds_toArray, List.set_cons_zero, List.set_cons_succ]
    refine wpAnyH_ready (rs := [3]) (by kernel_rfl) (by simp) ?_
    refine AllReadyH.cons (o := { dst := some 17, op := Op.buildSlice 28 5 #[(0, Operand.const (Value.int IntKind.i64 0)), (1, Operand.const (Value.int IntKind.i64 1)), (2, Operand.const (Value.int IntKind.i64 2)), (3, Operand.const (Value.int IntKind.i64 12)), (4, Operand.const (Value.int IntKind.i64 576))], type := 28, pos := "outright.go:358", after := #[{ on := 1, ground := Ground.guard }], guard := some (1, true) }) rfl (fun K hK => ?_) AllReadyH.nil
    go_simp
    refine hK.out _ _ ?_ (fun hHeld => ?_)
    · ((try dsimp only); go_keep)
    clear hK K
    try simp only [Act.put, List.setIfInBounds_toArray, List.set_cons_zero, List.set_cons_succ]
    refine wpAnyH_ready (rs := [4]) (by kernel_rfl) (by simp) ?_
    refine AllReadyH.cons (o := { dst := some 18, op := Op.call { callee := Callee.value (Operand.func 56), args := #[Operand.tmp 17], argTypes := #[28] }, type := 28, pos := "outright.go:358", after := #[{ on := 3, ground := Ground.data }, { on := 1, ground := Ground.chain }, { on := 1, ground := Ground.guard }], guard := some (1, true) }) rfl (fun K hK => ?_) AllReadyH.nil
    go_simp
    go_at_call 56
    refine (list_id _ _).mono ?_
    rintro _ _ ⟨rfl, rfl⟩
    try go_wp2_with fail
    refine hK.out _ _ ?_ (fun hHeld => ?_)
    · ((try dsimp only); go_keep)
    clear hK K
    try simp only [Act.put, List.setIfInBounds_toArray, List.set_cons_zero, List.set_cons_succ]
    refine wpAnyH_take (i := 6) (oi := { dst := some 20, op := Op.indexAddr 28 (Operand.tmp 18) (Operand.tmp 19), type := 0, pos := "outright.go:358", after := #[{ on := 4, ground := Ground.data }, { on := 5, ground := Ground.data }, { on := 1, ground := Ground.guard }], guard := some (1, true) }) (v := ?_) rfl (by kernel_rfl) (by kernel_rfl) (by kernel_rfl) (fun _ _ _ h => h) (Or.inl ⟨by rfl, ?_⟩) (by assumption) ?_
    rotate_left
    · (intro w hSw; (try dsimp only at hSw); go_simp <;> with_reducible rfl)
    try simp only [Act.put, List.setIfInBounds_toArray, List.set_cons_zero, List.set_cons_succ]
    refine wpAnyH_ready (rs := [7]) (by kernel_rfl) (by simp) ?_
    refine AllReadyH.cons (o := { dst := some 21, op := Op.load 3 (Operand.tmp 20), type := 3, pos := "outright.go:358", after := #[{ on := 6, ground := Ground.data }, { on := 1, ground := Ground.guard }], guard := some (1, true) }) rfl (fun K hK => ?_) AllReadyH.nil
    go_simp
    refine hK.out _ _ ?_ (fun hHeld => ?_)
    · ((try dsimp only); go_keep)
    clear hK K
    try simp only [Act.put, List.setIfInBounds_toArray, List.set_cons_zero, List.set_cons_succ]
    refine wpAnyH_take (i := 8) (oi := { dst := some 22, op := Op.binOp BinOp.eql 3 (Operand.tmp 16) (Operand.tmp 21) 3, type := 4, pos := "outright.go:358", after := #[{ on := 2, ground := Ground.data }, { on := 7, ground := Ground.data }, { on := 1, ground := Ground.guard }], guard := some (1, true) }) (v := ?_) rfl (by kernel_rfl) (by kernel_rfl) (by kernel_rfl) (fun _ _ _ h => h) (Or.inl ⟨by rfl, ?_⟩) (by assumption) ?_
    rotate_left
    · (intro w hSw; (try dsimp only at hSw); go_simp <;> with_reducible rfl)
    try simp only [Act.put, List.setIfInBounds_toArray, List.set_cons_zero, List.set_cons_succ]
    refine wpAnyH_take (i := 9) (oi := { dst := some 23, op := Op.pick (Operand.tmp 15) (Operand.tmp 22) (Operand.const (Value.bool false)), type := 4, pos := "outright.go:358", after := #[{ on := 1, ground := Ground.data }, { on := 8, ground := Ground.data }], guard := none }) (v := ?_) rfl (by kernel_rfl) (by kernel_rfl) (by kernel_rfl) (fun _ _ _ h => h) (Or.inl ⟨by rfl, ?_⟩) (by assumption) ?_
    rotate_left
    · (intro w hSw; (try dsimp only at hSw); go_simp <;> with_reducible rfl)
    try simp only [Act.put, List.setIfInBounds_toArray, List.set_cons_zero, List.set_cons_succ]
    refine wpAnyH_take (i := 10) (oi := { dst := some 24, op := Op.move (Operand.tmp 23), type := 4, pos := "outright.go:358", after := #[{ on := 9, ground := Ground.data }, { on := 4, ground := Ground.chain }], guard := none }) (v := ?_) rfl (by kernel_rfl) (by kernel_rfl) (by kernel_rfl) (fun _ _ _ h => h) (Or.inl ⟨by rfl, ?_⟩) (by assumption) ?_
    rotate_left
    · (intro w hSw; (try dsimp only at hSw); go_simp <;> with_reducible rfl)
    try simp only [Act.put, List.setIfInBounds_toArray, List.set_cons_zero, List.set_cons_succ]
    refine wpAnyH_ready (rs := [11]) (by kernel_rfl) (by simp) ?_
    refine AllReadyH.cons (o := { dst := some 25, op := Op.call { callee := Callee.value (Operand.func 17), args := #[], argTypes := #[] }, type := 4, pos := "outright.go:358", after := #[{ on := 10, ground := Ground.chain }, { on := 10, ground := Ground.guard }], guard := some (10, true) }) rfl (fun K hK => ?_) AllReadyH.nil
    go_simp
    go_at_call 17
    refine (works_any _).mono ?_
    rintro _ w5 ⟨rfl, F5⟩
    have FW : Fut w2 w5 := Fut.trans (below_drewN (Fut.alloc w2 _) 1) F5
    obtain ⟨z0, z1, z2⟩ := HZ.out w5 FW
    try go_wp2_with fail
    refine hK.out _ _ ?_ (fun hHeld => ?_)
    · exact ⟨z0, z1, z2⟩
    clear hK K
    try simp only [Act.put, List.setIfInBounds_toArray, List.set_cons_zero, List.set_cons_succ]
    refine wpAnyH_take (i := 12) (oi := { dst := some 26, op := Op.pick (Operand.tmp 24) (Operand.tmp 25) (Operand.const (Value.bool false)), type := 4, pos := "outright.go:358", after := #[{ on := 10, ground := Ground.data }, { on := 11, ground := Ground.data }], guard := none }) (v := ?_) rfl (by kernel_rfl) (by kernel_rfl) (by kernel_rfl) (fun _ _ _ h => h) (Or.inl ⟨by rfl, ?_⟩) (by assumption) ?_
    rotate_left
    · (intro w hSw; (try dsimp only at hSw); go_simp <;> with_reducible rfl)
    try simp only [Act.put, List.setIfInBounds_toArray, List.set_cons_zero, List.set_cons_succ]
    refine wpAnyH_take (i := 13) (oi := { dst := some 2, op := Op.assign (Operand.tmp 26), type := 4, pos := "outright.go:358", after := #[{ on := 12, ground := Ground.data }, { on := 11, ground := Ground.chain }, { on := 0, ground := Ground.phase }, { on := 1, ground := Ground.phase }, { on := 2, ground := Ground.phase }, { on := 3, ground := Ground.phase }, { on := 4, ground := Ground.phase }, { on := 5, ground := Ground.phase }, { on := 6, ground := Ground.phase }, { on := 7, ground := Ground.phase }, { on := 8, ground := Ground.phase }, { on := 9, ground := Ground.phase }, { on := 10, ground := Ground.phase }, { on := 11, ground := Ground.phase }, { on := 12, ground := Ground.phase }], guard := none }) (v := ?_) rfl (by kernel_rfl) (by kernel_rfl) (by kernel_rfl) (fun _ _ _ h => h) (Or.inl ⟨by rfl, ?_⟩) (by assumption) ?_
    rotate_left
    · (intro w hSw; (try dsimp only at hSw); go_simp <;> with_reducible rfl)
    try simp only [Act.put, List.setIfInBounds_toArray, List.set_cons_zero, List.set_cons_succ]
    refine wpAnyH_done (by kernel_rfl) ?_ _
    have HF5 := Lib.hid (HF2.out.trans FW)
    clear FW F5 z0 z1 z2
    go_wp2
    go_ret
    exact ⟨rfl, HF5.out⟩
  · have c1 : w2.cell? ⟨S, 0, none⟩ = some (.int .i64 4) := a1
    have HZ : Hid (∀ W' : World, Fut w2 W' → W'.cell? ⟨S, 0, none⟩ = some (.int .i64 4) ∧ W'.cell? ⟨S + 1, 0, none⟩ = some (.int .i64 576) ∧ W'.cell? ⟨S + 2, 0, none⟩ = some (.bool true)) := Lib.hid (fun W' F => ⟨(RowKit.Below.cell F (p := ⟨S, 0, none⟩) hb0).trans c1, (RowKit.Below.cell F (p := ⟨S + 1, 0, none⟩) hb1).trans a2, (RowKit.Below.cell F (p := ⟨S + 2, 0, none⟩) hb2).trans a3⟩)
    clear a1
    go_wp2_with fail
    refine wp_region_held_drew (S := (fun w' => w'.cell? ⟨S, 0, none⟩ = some (.int .i64 4) ∧ w'.cell? ⟨S + 1, 0, none⟩ = some (.int .i64 576) ∧ w'.cell? ⟨S + 2, 0, none⟩ = some (.bool true))) (by kernel_rfl) ?_ (fun hHeld => ?_)
    · ((try dsimp only); go_keep)
    refine wpAnyH_take (i := 0) (oi := { dst := some 14, op := Op.load 4 (Operand.tmp 5), type := 4, pos := "outright.go:358", after := #[], guard := none }) (v := ?_) rfl (by kernel_rfl) (by kernel_rfl) (by kernel_rfl) (fun _ _ _ h => h) (Or.inl ⟨by rfl, ?_⟩) (by assumption) ?_
    rotate_left
    · (intro w hSw; (try dsimp only at hSw); go_simp <;> with_reducible rfl)
    try simp only [Act.put, List.setIfInBounds_toArray, List.set_cons_zero, List.set_cons_succ]
    refine wpAnyH_take (i := 1) (oi := { dst := some 15, op := Op.move (Operand.tmp 14), type := 4, pos := "outright.go:358", after := #[{ on := 0, ground := Ground.data }], guard := none }) (v := ?_) rfl (by kernel_rfl) (by kernel_rfl) (by kernel_rfl) (fun _ _ _ h => h) (Or.inl ⟨by rfl, ?_⟩) (by assumption) ?_
    rotate_left
    · (intro w hSw; (try dsimp only at hSw); go_simp <;> with_reducible rfl)
    try simp only [Act.put, List.setIfInBounds_toArray, List.set_cons_zero, List.set_cons_succ]
    refine wpAnyH_take (i := 2) (oi := { dst := some 16, op := Op.load 3 (Operand.tmp 4), type := 3, pos := "outright.go:358", after := #[{ on := 1, ground := Ground.guard }], guard := some (1, true) }) (v := ?_) rfl (by kernel_rfl) (by kernel_rfl) (by kernel_rfl) (fun _ _ _ h => h) (Or.inl ⟨by rfl, ?_⟩) (by assumption) ?_
    rotate_left
    · (intro w hSw; (try dsimp only at hSw); go_simp <;> with_reducible rfl)
    try simp only [Act.put, List.setIfInBounds_toArray, List.set_cons_zero, List.set_cons_succ]
    refine wpAnyH_take (i := 5) (oi := { dst := some 19, op := Op.load 3 (Operand.tmp 3), type := 3, pos := "outright.go:358", after := #[{ on := 1, ground := Ground.guard }], guard := some (1, true) }) (v := ?_) rfl (by kernel_rfl) (by kernel_rfl) (by kernel_rfl) (fun _ _ _ h => h) (Or.inl ⟨by rfl, ?_⟩) (by assumption) ?_
    rotate_left
    · (intro w hSw; (try dsimp only at hSw); go_simp <;> with_reducible rfl)
    try simp only [Act.put, List.setIfInBounds_toArray, List.set_cons_zero, List.set_cons_succ]
    refine wpAnyH_ready (rs := [3]) (by kernel_rfl) (by simp) ?_
    refine AllReadyH.cons (o := { dst := some 17, op := Op.buildSlice 28 5 #[(0, Operand.const (Value.int IntKind.i64 0)), (1, Operand.const (Value.int IntKind.i64 1)), (2, Operand.const (Value.int IntKind.i64 2)), (3, Operand.const (Value.int IntKind.i64 12)), (4, Operand.const (Value.int IntKind.i64 576))], type := 28, pos := "outright.go:358", after := #[{ on := 1, ground := Ground.guard }], guard := some (1, true) }) rfl (fun K hK => ?_) AllReadyH.nil
    go_simp
    refine hK.out _ _ ?_ (fun hHeld => ?_)
    · ((try dsimp only); go_keep)
    clear hK K
    try simp only [Act.put, List.setIfInBounds_toArray, List.set_cons_zero, List.set_cons_succ]
    refine wpAnyH_ready (rs := [4]) (by kernel_rfl) (by simp) ?_
    refine AllReadyH.cons (o := { dst := some 18, op := Op.call { callee := Callee.value (Operand.func 56), args := #[Operand.tmp 17], argTypes := #[28] }, type := 28, pos := "outright.go:358", after := #[{ on := 3, ground := Ground.data }, { on := 1, ground := Ground.chain }, { on := 1, ground := Ground.guard }], guard := some (1, true) }) rfl (fun K hK => ?_) AllReadyH.nil
    go_simp
    go_at_call 56
    refine (list_id _ _).mono ?_
    rintro _ _ ⟨rfl, rfl⟩
    try go_wp2_with fail
    refine hK.out _ _ ?_ (fun hHeld => ?_)
    · ((try dsimp only); go_keep)
    clear hK K
    try simp only [Act.put, List.setIfInBounds_toArray, List.set_cons_zero, List.set_cons_succ]
    refine wpAnyH_take (i := 6) (oi := { dst := some 20, op := Op.indexAddr 28 (Operand.tmp 18) (Operand.tmp 19), type := 0, pos := "outright.go:358", after := #[{ on := 4, ground := Ground.data }, { on := 5, ground := Ground.data }, { on := 1, ground := Ground.guard }], guard := some (1, true) }) (v := ?_) rfl (by kernel_rfl) (by kernel_rfl) (by kernel_rfl) (fun _ _ _ h => h) (Or.inl ⟨by rfl, ?_⟩) (by assumption) ?_
    rotate_left
    · (intro w hSw; (try dsimp only at hSw); go_simp <;> with_reducible rfl)
    try simp only [Act.put, List.setIfInBounds_toArray, List.set_cons_zero, List.set_cons_succ]
    refine wpAnyH_ready (rs := [7]) (by kernel_rfl) (by simp) ?_
    refine AllReadyH.cons (o := { dst := some 21, op := Op.load 3 (Operand.tmp 20), type := 3, pos := "outright.go:358", after := #[{ on := 6, ground := Ground.data }, { on := 1, ground := Ground.guard }], guard := some (1, true) }) rfl (fun K hK => ?_) AllReadyH.nil
    go_simp
    refine hK.out _ _ ?_ (fun hHeld => ?_)
    · ((try dsimp only); go_keep)
    clear hK K
    try simp only [Act.put, List.setIfInBounds_toArray, List.set_cons_zero, List.set_cons_succ]
    refine wpAnyH_take (i := 8) (oi := { dst := some 22, op := Op.binOp BinOp.eql 3 (Operand.tmp 16) (Operand.tmp 21) 3, type := 4, pos := "outright.go:358", after := #[{ on := 2, ground := Ground.data }, { on := 7, ground := Ground.data }, { on := 1, ground := Ground.guard }], guard := some (1, true) }) (v := ?_) rfl (by kernel_rfl) (by kernel_rfl) (by kernel_rfl) (fun _ _ _ h => h) (Or.inl ⟨by rfl, ?_⟩) (by assumption) ?_
    rotate_left
    · (intro w hSw; (try dsimp only at hSw); go_simp <;> with_reducible rfl)
    try simp only [Act.put, List.setIfInBounds_toArray, List.set_cons_zero, List.set_cons_succ]
    refine wpAnyH_take (i := 9) (oi := { dst := some 23, op := Op.pick (Operand.tmp 15) (Operand.tmp 22) (Operand.const (Value.bool false)), type := 4, pos := "outright.go:358", after := #[{ on := 1, ground := Ground.data }, { on := 8, ground := Ground.data }], guard := none }) (v := ?_) rfl (by kernel_rfl) (by kernel_rfl) (by kernel_rfl) (fun _ _ _ h => h) (Or.inl ⟨by rfl, ?_⟩) (by assumption) ?_
    rotate_left
    · (intro w hSw; (try dsimp only at hSw); go_simp <;> with_reducible rfl)
    try simp only [Act.put, List.setIfInBounds_toArray, List.set_cons_zero, List.set_cons_succ]
    refine wpAnyH_take (i := 10) (oi := { dst := some 24, op := Op.move (Operand.tmp 23), type := 4, pos := "outright.go:358", after := #[{ on := 9, ground := Ground.data }, { on := 4, ground := Ground.chain }], guard := none }) (v := ?_) rfl (by kernel_rfl) (by kernel_rfl) (by kernel_rfl) (fun _ _ _ h => h) (Or.inl ⟨by rfl, ?_⟩) (by assumption) ?_
    rotate_left
    · (intro w hSw; (try dsimp only at hSw); go_simp <;> with_reducible rfl)
    try simp only [Act.put, List.setIfInBounds_toArray, List.set_cons_zero, List.set_cons_succ]
    refine wpAnyH_ready (rs := [11]) (by kernel_rfl) (by simp) ?_
    refine AllReadyH.cons (o := { dst := some 25, op := Op.call { callee := Callee.value (Operand.func 17), args := #[], argTypes := #[] }, type := 4, pos := "outright.go:358", after := #[{ on := 10, ground := Ground.chain }, { on := 10, ground := Ground.guard }], guard := some (10, true) }) rfl (fun K hK => ?_) AllReadyH.nil
    go_simp
    go_at_call 17
    refine (works_any _).mono ?_
    rintro _ w5 ⟨rfl, F5⟩
    have FW : Fut w2 w5 := Fut.trans (below_drewN (Fut.alloc w2 _) 1) F5
    obtain ⟨z0, z1, z2⟩ := HZ.out w5 FW
    try go_wp2_with fail
    refine hK.out _ _ ?_ (fun hHeld => ?_)
    · exact ⟨z0, z1, z2⟩
    clear hK K
    try simp only [Act.put, List.setIfInBounds_toArray, List.set_cons_zero, List.set_cons_succ]
    refine wpAnyH_take (i := 12) (oi := { dst := some 26, op := Op.pick (Operand.tmp 24) (Operand.tmp 25) (Operand.const (Value.bool false)), type := 4, pos := "outright.go:358", after := #[{ on := 10, ground := Ground.data }, { on := 11, ground := Ground.data }], guard := none }) (v := ?_) rfl (by kernel_rfl) (by kernel_rfl) (by kernel_rfl) (fun _ _ _ h => h) (Or.inl ⟨by rfl, ?_⟩) (by assumption) ?_
    rotate_left
    · (intro w hSw; (try dsimp only at hSw); go_simp <;> with_reducible rfl)
    try simp only [Act.put, List.setIfInBounds_toArray, List.set_cons_zero, List.set_cons_succ]
    refine wpAnyH_take (i := 13) (oi := { dst := some 2, op := Op.assign (Operand.tmp 26), type := 4, pos := "outright.go:358", after := #[{ on := 12, ground := Ground.data }, { on := 11, ground := Ground.chain }, { on := 0, ground := Ground.phase }, { on := 1, ground := Ground.phase }, { on := 2, ground := Ground.phase }, { on := 3, ground := Ground.phase }, { on := 4, ground := Ground.phase }, { on := 5, ground := Ground.phase }, { on := 6, ground := Ground.phase }, { on := 7, ground := Ground.phase }, { on := 8, ground := Ground.phase }, { on := 9, ground := Ground.phase }, { on := 10, ground := Ground.phase }, { on := 11, ground := Ground.phase }, { on := 12, ground := Ground.phase }], guard := none }) (v := ?_) rfl (by kernel_rfl) (by kernel_rfl) (by kernel_rfl) (fun _ _ _ h => h) (Or.inl ⟨by rfl, ?_⟩) (by assumption) ?_
    rotate_left
    · (intro w hSw; (try dsimp only at hSw); go_simp <;> with_reducible rfl)
    try simp only [Act.put, List.setIfInBounds_toArray, List.set_cons_zero, List.set_cons_succ]
    refine wpAnyH_done (by kernel_rfl) ?_ _
    have HF5 := Lib.hid (HF2.out.trans FW)
    clear FW F5 z0 z1 z2
    go_wp2
    go_ret
    exact ⟨rfl, HF5.out⟩
theorem law13_any (x : Int) (h0 : 0 ≤ x) (hx : x < 256) (w : World) : Calls Try.prog 13 #[.int .u8 x] w fun e w' => e = .returned (.bool true) ∧ Fut w w' := by
  obtain ⟨k, rfl⟩ := Int.eq_ofNat_of_zero_le h0
  have h4 : 1 + k % 4 ≤ 4 := by omega
  refine law13_n (1 + k % 4) (nth [0, 1, 2, 12, 576] (1 + k % 4)) k (by omega) rfl h4 (cnt_tab _ (by omega) h4) ?_ w
  rcases (by omega : k % 4 = 0 ∨ k % 4 = 1 ∨ k % 4 = 2 ∨ k % 4 = 3) with h | h | h | h <;> rw [h]
  · exact .inl ⟨rfl, rfl⟩
  · exact .inr (.inl ⟨rfl, rfl⟩)
  · exact .inr (.inr (.inl ⟨rfl, rfl⟩))
  · exact .inr (.inr (.inr ⟨rfl, rfl⟩))
theorem u8_in {x : Int} (h : (Lit.int .u8 x).wf = true) : 0 ≤ x ∧ x < 256 := by
  have : 0 ≤ x ∧ x ≤ 255 := by simpa [Lit.wf, IntKind.min, IntKind.max, IntKind.signed, IntKind.bits] using h
  exact ⟨this.1, by omega⟩
end Go.Proofs.Ytpgifeaejjjjnaa
