/- Layer 2: Cuts. -/
import Derived.Test.YtimddkofcejijaaRW
import Derived.Laws.EntriesVeiled
namespace Go.Proofs.Ytimddkofcejijaa
open Go.RowKit Go.Sort
theorem par_xor (x y : Nat) : par (x ^^^ y) = xor (par x) (par y) := by
  have : ∀ (l : List Nat) (a b : Bool), l.foldl (fun b i => xor b ((x ^^^ y).testBit i)) (xor a b) = xor (l.foldl (fun b i => xor b (x.testBit i)) a) (l.foldl (fun b i => xor b (y.testBit i)) b) := by
    intro l
    induction l with
    | nil => intro a b; rfl
    | cons i l ih =>
      intro a b
      rw [List.foldl_cons, List.foldl_cons, List.foldl_cons, ← ih]
      congr 1
      rw [Nat.testBit_xor]
      cases a <;> cases b <;> cases x.testBit i <;> cases y.testBit i <;> rfl
  have h := this (List.range 16) false false
  exact h
theorem par_zero : par 0 = false := by decide
theorem cutL_ne (side : Nat) : ∀ (l : List (Int × Int)) (i c : Nat), c ≠ 0 → cutL side i l c ≠ 0
  | [], _, _, h => h
  | p :: l, i, c, h => by
    unfold cutL
    refine cutL_ne side l (i + 1) _ ?_
    split
    · intro e
      have : (c ||| 2 ^ i).testBit i = true := by rw [Nat.testBit_or, Nat.testBit_two_pow]; simp
      rw [e, Nat.zero_testBit] at this; cases this
    · exact h
theorem cutL_zero (side : Nat) : ∀ (l : List (Int × Int)) (i : Nat), cutL side i l 0 = 0 → ∀ p ∈ l, par (endsM p &&& side) = false
  | [], _, _, p, hp => by cases hp
  | q :: l, i, h, p, hp => by
    unfold cutL at h
    cases hq : par (endsM q &&& side)
    · rw [hq] at h
      simp only [Bool.false_eq_true, if_false] at h
      rcases List.mem_cons.1 hp with rfl | hp
      · exact hq
      · exact cutL_zero side l (i + 1) h p hp
    · rw [hq] at h
      simp only [if_true] at h
      refine absurd h (cutL_ne side l (i + 1) _ ?_)
      intro e
      have : (0 ||| 2 ^ i).testBit i = true := by rw [Nat.testBit_or, Nat.testBit_two_pow]; simp
      rw [e, Nat.zero_testBit] at this; cases this
theorem par_oddL (side s : Nat) : ∀ (l : List (Int × Int)) (i o : Nat), (∀ p ∈ l, par (endsM p &&& side) = false) → par (side &&& oddL s i l o) = par (side &&& o)
  | [], _, _, _ => rfl
  | p :: l, i, o, h => by
    unfold oddL
    rw [par_oddL side s l (i + 1) _ (fun q hq => h q (List.mem_cons_of_mem _ hq))]
    split
    · rw [Nat.and_xor_distrib_left, par_xor]
      have := h p (List.mem_cons_self ..)
      rw [Nat.and_comm] at this
      rw [this, Bool.xor_false]
    · rfl
/-- a side with an odd number of odd corners has a cut. -/
theorem cut_ne {ss : List (Int × Int)} {side s : Nat} (h : par (side &&& oddM ss s) = true) : cutM ss side ≠ 0 := fun e => by
  have h1 := par_oddL side s ss 0 0 (cutL_zero side ss 0 e)
  unfold oddM at h
  rw [h1, Nat.and_zero, par_zero] at h
  cases h
theorem raw_len (c : Nat) (ss : List (Int × Int)) (hc : c ≤ 6) : (rawM c ss).length ≤ 32 := by
  unfold rawM
  rw [List.length_map, ← List.countP_eq_length_filter]
  have h1 : (List.range (2 ^ c - 1)).countP (oddS c ss (oddM ss (2 ^ ss.length - 1))) ≤ (List.range (2 ^ c - 1)).countP fun s => s.testBit 0 :=
    List.countP_mono_left fun x _ h => by unfold oddS at h; simp at h; simpa using h.1
  have h2 : (List.range (2 ^ c - 1)).countP (fun s => s.testBit 0) ≤ (List.range 63).countP fun s => s.testBit 0 := by
    have hle : 2 ^ c - 1 ≤ 63 := by have := cut64 hc; omega
    exact (List.range_sublist.2 hle).countP_le
  have h3 : ((List.range 63).countP fun s => s.testBit 0) = 31 := by decide +kernel
  omega
theorem cuts_good {c : Nat} {ss : List (Int × Int)} (hl : ss.length ≤ 9) : ∀ x ∈ cutsM c ss, x ≠ 0 ∧ x < 65536 := fun x hx => by
  have hx' := (sortS_perm (rawM c ss)).mem_iff.1 hx
  unfold rawM at hx'
  obtain ⟨s, hs, rfl⟩ := List.mem_map.1 hx'
  rw [List.mem_filter] at hs
  refine ⟨cut_ne (s := 2 ^ ss.length - 1) ?_, cutM_lt (by omega) s⟩
  have := hs.2
  unfold oddS at this
  simp at this
  exact this.2
theorem cuts_len {c : Nat} {ss : List (Int × Int)} (hc : c ≤ 6) : (cutsM c ss).length ≤ 32 := by
  rw [show (cutsM c ss).length = (rawM c ss).length from (sortS_perm _).length_eq]
  exact raw_len c ss hc
open Go.Maps
theorem Memo.below {C : List Nat} {bk bc bf bm B : Nat} {l : Option Addr} {lc : Nat} {w w' : World} (h : Memo C bk bc bf bm l lc w) (hk : bk < B ∧ bc < B ∧ bf < B) (hlb : ∀ b off, l = some ⟨b, off, none⟩ → b < B) (F : RowKit.Below B w w') : Memo C bk bc bf bm l lc w' := by
  obtain ⟨h1, h2, h3⟩ := hk
  refine ⟨(RowKit.Below.cell F (p := ⟨bk, 0, none⟩) h1).trans h.k, (RowKit.Below.cell F (p := ⟨bc, 0, none⟩) h2).trans h.c, (RowKit.Below.cell F (p := ⟨bf, 0, none⟩) h3).trans h.f, fun j hj => ?_, h.d⟩
  obtain ⟨b, off, e, g1, g2, g3⟩ := h.z j hj
  exact ⟨b, off, e, g1, Nat.lt_of_lt_of_le g2 (RowKit.Below.size F), (RowKit.Below.cell F (p := ⟨b, off + j, none⟩) (hlb b off e)).trans g3⟩
theorem MemoD.below {C : List Nat} {bm n B : Nat} {w w' : World} (h : MemoD C w bm n) (hb : bm < B) (F : RowKit.Below B w w') : MemoD C w' bm n := by
  obtain ⟨D, ⟨es, clock, h1, h2⟩, h3⟩ := h
  exact ⟨D, ⟨es, clock, (F.block bm hb).trans h1, h2⟩, h3⟩
set_option maxRecDepth 100000 in
set_option maxHeartbeats 1000000 in
theorem mostOf_any (C : List Nat) (l : Option Addr) (lc : Nat) (w : World) (hZ : SetsAt w l C) :
    Calls Try.prog 79 #[.slice l C.length lc] w fun e w' => ∃ bk bc bf bm, e = .returned (.func (.func 104) #[] (capV bk bc bf)) ∧ Memo C bk bc bf bm l lc w' ∧ MemoD C w' bm 0 ∧ Fut w w' ∧ w.heap.size ≤ bm := by
  have hmm := @run_makeMap Try.prog
  go_enter Try.func79, Try.ntmps79
  go_wp2
  go_ret
  refine ⟨w.heap.size + 2, w.heap.size, w.heap.size + 3, w.heap.size + 1, rfl, ⟨?_, ?_, ?_, ?_, by omega⟩, ?_, ?_, by omega⟩
  · simp [go_sem]
  · simp [go_sem]
  · simp [go_sem]
  · intro j hj
    obtain ⟨b, off, e, h1, h2⟩ := hZ j hj
    refine ⟨b, off, e, by omega, by simp; omega, ?_⟩
    rw [← h2]
    exact RowKit.Below.cell (((((RowKit.Below.refl w.heap.size w).alloc (Nat.le_refl _) _).alloc (by simp) _).alloc (by simp; omega) _).alloc (by simp; omega) _) (p := ⟨b, off + j, none⟩) h1
  · have h0 := World.ownsMap_made (w.alloc (.cells #[.slice l C.length lc] 99)) Try.prog 79 (plainElem (H := Unit) Try.prog 3)
    rw [World.size_alloc] at h0
    exact ⟨_, (h0.alloc _).alloc _, fun s _ h => by simp [Maps.has] at h⟩
  · exact (((Fut.alloc _ _).trans (Fut.alloc _ _)).trans (Fut.alloc _ _)).trans (Fut.alloc _ _)
/-- the cuts of the list, one after the other, that are in the first proof with as many as possible. -/
def provG (C : List Nat) : List Nat → Nat → List (List Int)
  | [], _ => []
  | c :: l, f => if c &&& f = c ∧ 1 + mostM C (dif f c) = mostM C f then listM c :: provG C l (dif f c) else provG C l f
def cutsR (c : Int) (ss : List (Int × Int)) : List (List Int) := if chkM c ss = 0 then provG (cutsM c.toNat ss) (cutsM c.toNat ss) (2 ^ ss.length - 1) else []
/-- the lists of a proof. -/
def Elems (w : World) (B : Nat) (vals : List Value) (zss : List (List Int)) : Prop := vals.length = zss.length ∧ ∀ j, j < zss.length → ∃ v, vals[j]? = some v ∧ Owns w B v (lth zss j)
def OwnL (w : World) (B : Nat) (v : Value) (zss : List (List Int)) : Prop := ∃ vals, w.ownsRow B 25 1 v zss.length vals ∧ Elems w B vals zss
theorem OwnL.nil (w : World) (B : Nat) : OwnL w B (.slice none 0 0) [] := ⟨[], World.ownsRow_nil _ _ _ _, rfl, fun j hj => absurd hj (by simp)⟩
theorem Owns.grown {w w' : World} {B bm : Nat} {v : Value} {zs : List Int} (h : Owns w B v zs) (g : w.grownBy w' (some bm)) (hb : bm < B) : Owns w' B v zs := by
  refine World.ownsRow.kept h g ?_
  rcases hv : v.ownBlock with _ | k
  · exact .inl rfl
  · refine .inr fun e => ?_
    have := (h.lt k hv).1
    simp at e
    omega
theorem OwnL.grown {w w' : World} {B bm : Nat} {v : Value} {zss : List (List Int)} (h : OwnL w B v zss) (g : w.grownBy w' (some bm)) (hb : bm < B) : OwnL w' B v zss := by
  obtain ⟨vals, h1, h2, h3⟩ := h
  refine ⟨vals, World.ownsRow.kept h1 g ?_, h2, fun j hj => ?_⟩
  · rcases hv : v.ownBlock with _ | k
    · exact .inl rfl
    · refine .inr fun e => ?_
      have := (h1.lt k hv).1
      simp at e
      omega
  · obtain ⟨u, e, hu⟩ := h3 j hj
    exact ⟨u, e, hu.grown g hb⟩
theorem OwnL.fut {w w' : World} {B : Nat} {v : Value} {zss : List (List Int)} (h : OwnL w B v zss) (F : Fut w w') : OwnL w' B v zss := by
  obtain ⟨vals, h1, h2, h3⟩ := h
  refine ⟨vals, World.ownsRow.kept h1 (row := none) ⟨F.os, F.tape, F.output, F.size, fun k hk _ => F.block k hk⟩ ?_, h2, fun j hj => ?_⟩
  · rcases hv : v.ownBlock with _ | k
    · exact .inl rfl
    · exact .inr (by simp)
  · obtain ⟨u, e, hu⟩ := h3 j hj
    exact ⟨u, e, hu.fut F⟩
theorem own_apart {w : World} {B B' : Nat} {v u : Value} {zs : List Int} {n : Nat} {xs : List Value} (h : Owns w B v zs) (h' : w.ownsRow B' 25 1 u n xs) : v.ownBlock = none ∨ v.ownBlock ≠ u.ownBlock := by
  rcases h.2 with ⟨rfl, _⟩ | ⟨g, cap, cur, rfl, _, hg, _⟩
  · exact .inl rfl
  · rcases h'.2 with ⟨rfl, _⟩ | ⟨g', cap', cur', rfl, _, hg', _⟩
    · exact .inr (by simp [Value.ownBlock])
    · refine .inr fun e => ?_
      simp [Value.ownBlock] at e
      rw [e, hg'] at hg
      simp at hg
theorem Elems.app {w w' : World} {B : Nat} {vals : List Value} {zss : List (List Int)} {u nv : Value} {zs : List Int} {n : Nat} {xs : List Value} (h : Elems w B vals zss) (hn : Owns w B nv zs) (hu : w.ownsRow B 25 1 u n xs) (g : w.grownBy w' u.ownBlock) : Elems w' B (vals ++ [nv]) (zss ++ [zs]) := by
  obtain ⟨h1, h2⟩ := h
  refine ⟨by simp [h1], fun j hj => ?_⟩
  by_cases hlt : j < zss.length
  · obtain ⟨v, e, hv⟩ := h2 j hlt
    refine ⟨v, ?_, ?_⟩
    · rw [List.getElem?_append_left (by omega)]; exact e
    · have : lth (zss ++ [zs]) j = lth zss j := by rw [lth_eq, lth_eq, List.getElem?_append_left hlt]
      rw [this]
      exact World.ownsRow.kept hv g (own_apart hv hu)
  · have hj' : j = zss.length := by simp at hj; omega
    subst hj'
    refine ⟨nv, ?_, ?_⟩
    · rw [← h1, List.getElem?_append_right (Nat.le_refl _)]; simp
    · have : lth (zss ++ [zs]) zss.length = zs := by rw [lth_eq, List.getElem?_append_right (Nat.le_refl _)]; simp
      rw [this]
      exact World.ownsRow.kept hn g (own_apart hn hu)
theorem OwnL.lists {w : World} {B : Nat} {v : Value} {zss : List (List Int)} (h : OwnL w B v zss) : ∃ l lc, v = .slice l zss.length lc ∧ LstAt w l zss := by
  obtain ⟨vals, h1, h2, h3⟩ := h
  rcases h1.2 with ⟨rfl, h0⟩ | ⟨g, cap, cur, rfl, hb, hg, hr⟩
  · exact ⟨none, 0, by rw [h0], fun j hj => by omega⟩
  · refine ⟨_, cap, rfl, fun j hj => ?_⟩
    obtain ⟨u, e, hu⟩ := h3 j hj
    obtain ⟨l, lc, rfl, hI⟩ := hu.ints
    refine ⟨g, 0, l, lc, rfl, (Array.getElem?_eq_some_iff.1 hg).1, ?_, hI⟩
    rw [Nat.zero_add, World.ownsRow.cellAt h1 j (by omega)]
    exact e
theorem info25 : (Try.prog.info? 25).map (fun i => (i.zero, i.size, i.bytes)) = some (some (.slice none 0 0), 1, 24) := by kernel_rfl
theorem cnt9 {f n : Nat} (hn : n ≤ 9) (h : f < 2 ^ n) : cnt f ≤ 9 := by
  have e : listN f = (List.range 9).filter fun i => f.testBit i := by
    have h9 : f < 2 ^ 9 := Nat.lt_of_lt_of_le h (Nat.pow_le_pow_right (by decide) hn)
    unfold listN
    have : List.range 16 = List.range 9 ++ [9, 10, 11, 12, 13, 14, 15] := by decide
    rw [this, List.filter_append]
    have h2 : ([9, 10, 11, 12, 13, 14, 15] : List Nat).filter (fun i => f.testBit i) = [] := by
      rw [List.filter_eq_nil_iff]
      intro i hi
      have : 9 ≤ i := by simp at hi; omega
      rw [Nat.testBit_lt_two_pow (Nat.lt_of_lt_of_le h9 (Nat.pow_le_pow_right (by decide) this))]
      simp
    rw [h2, List.append_nil]
  unfold cnt
  rw [e]
  exact Nat.le_trans (List.length_filter_le _ _) (by rw [List.length_range]; exact Nat.le_refl _)
/-- lists of numbers, and an error. -/
abbrev TupLL (r : Int) (zss : List (List Int)) (w : World) (e : Ending) (w' : World) : Prop := ∃ l lc, e = .returned (.tuple #[.slice l zss.length lc, .int .i64 r]) ∧ LstAt w' l zss ∧ Fut w w'
theorem nil_lists (w : World) (a : Option Addr) : LstAt w a [] := fun j hj => absurd hj (by simp)
theorem Fut.grownB {a b c : World} {bm : Nat} (h : Fut a b) (g : b.grownBy c (some bm)) (hb : a.heap.size ≤ bm) : Fut a c :=
  RowKit.Below.grown h g (RowKit.Below.size h) (fun k hk => by cases hk; exact hb)
theorem BoxM.grown {w w' : World} {b bm : Nat} {c : Int} {a : Option Addr} {n cap : Nat} (h : BoxM w b c a n cap) (g : w.grownBy w' (some bm)) (hb : b ≠ bm) : BoxM w' b c a n cap :=
  ⟨Nat.lt_of_lt_of_le h.1 g.size, g.cell h.2.1 (by simpa using hb), g.cell h.2.2 (by simpa using hb)⟩
theorem budget {k n n2 n3 : Nat} (hk : k < 32) (h0 : n ≤ k * 4128755508119552) (h2 : n2 ≤ n + 34 ^ 10) (h3 : n3 ≤ n2 + 34 ^ 10) : n + 34 ^ 10 ≤ 4611686018427387904 ∧ n2 + 34 ^ 10 ≤ 4611686018427387904 ∧ n3 ≤ (k + 1) * 4128755508119552 := by
  have e : (34 : Nat) ^ 10 = 2064377754059776 := by decide
  rw [e] at *
  omega
theorem budget0 {k n : Nat} (hk : k < 32) (h0 : n ≤ k * 4128755508119552) : n + 34 ^ 10 ≤ 4611686018427387904 := (budget hk h0 (Nat.le_add_right _ _) (Nat.le_add_right _ _)).1
set_option maxRecDepth 100000 in
set_option maxHeartbeats 8000000 in
theorem cuts_ok (c : Nat) (a : Option Addr) (cap : Nat) (ss : List (Int × Int)) (w : World) (hS : StrAt w a ss) (hc : chkM c ss = 0) :
    Calls Try.prog 32 #[mapV c a ss.length cap] w (TupLL 0 (provG (cutsM c ss) (cutsM c ss) (2 ^ ss.length - 1)) w) := by
  obtain ⟨i0, hi0, hz0, hz1, hz2⟩ := info_parts info25
  have HC := Lib.hid (fun W (F : Fut w W) => check_any' c a cap ss W (hS.fut F))
  rw [hc] at HC
  obtain ⟨hc1, hc6, h9, hp, _, _⟩ := chk_good hc
  have HAL := Lib.hid (fun W => all_any c a ss.length cap W (by omega))
  have HOC := Lib.hid (fun W (F : Fut w W) => oddCuts_any c a cap ss W (hS.fut F) h9 hp (by omega))
  have HG := Lib.hid (cuts_good (c := c) h9)
  have hCL := cuts_len (c := c) (ss := ss) (by omega)
  have hml := mask_le h9
  have hmp : 2 ^ ss.length - 1 < 2 ^ ss.length := by have := Nat.one_le_two_pow (n := ss.length); omega
  have HCN := Lib.hid (fun f (h : f ≤ 2 ^ ss.length - 1) => cnt9 (f := f) h9 (by omega))
  generalize hRR : provG (cutsM c ss) (cutsM c ss) (2 ^ ss.length - 1) = R at *
  have HRR := Lib.hid hRR
  clear hS hc hp hmp hRR
  generalize cutsM c ss = C at *
  generalize 2 ^ ss.length - 1 = m at *
  have hCx : (C.length : Int) ≤ 32 := by omega
  have hm16 : m < 65536 := by omega
  go_enter Try.func32, Try.ntmps32
  go_wp2_with fail
  have hB := BoxM.new w c a ss.length cap 24
  have hF : Fut w (w.alloc (.cells #[.int .i64 c, .slice a ss.length cap] 24)) := Fut.alloc _ _
  generalize w.alloc (.cells #[.int .i64 c, .slice a ss.length cap] 24) = W1 at *
  generalize hBB : w.heap.size = B at *
  have HBB := Lib.hid hBB
  clear hBB
  refine (HC.out _ hF).mono ?_
  rintro _ w1 ⟨rfl, F⟩
  have HF1 := Lib.hid (hF.trans F)
  have HB1 := Lib.hid (hB.fut F)
  obtain ⟨hb, b0, b1⟩ := HB1.out
  clear hF F hB
  go_wp2_with fail
  refine (HOC.out _ HF1.out).mono ?_
  rintro _ w2 ⟨l, lc, rfl, hZ, F⟩
  have HF2 := Lib.hid (HF1.out.trans F)
  have HB2 := Lib.hid (HB1.out.fut F)
  have HMO := Lib.hid (mostOf_any C l lc w2 hZ)
  clear hb b0 b1 F hZ
  go_wp2_with fail
  refine HMO.out.mono ?_
  rintro _ w3 ⟨bk, bc, bf, bm, rfl, hM, hD, F, hbm⟩
  have HF3 := Lib.hid (HF2.out.trans F)
  have HB3 := Lib.hid (HB2.out.fut F)
  have hBbm : B < bm := Nat.lt_of_lt_of_le HB2.out.1 hbm
  have hwbm : w.heap.size ≤ bm := by have := HBB.out; omega
  have hbk : bk < w3.heap.size := World.block_lt_of_cell? w3 _ hM.k
  have hbc : bc < w3.heap.size := World.block_lt_of_cell? w3 _ hM.c
  have hbf : bf < w3.heap.size := World.block_lt_of_cell? w3 _ hM.f
  have hbmw : bm < w3.heap.size := by obtain ⟨D, hw, _⟩ := hD; exact hw.lt
  have hlb : ∀ b off, l = some ⟨b, off, none⟩ → 0 < C.length → b < w3.heap.size := fun b off e h0 => by
    obtain ⟨b', off', e', _, h3, _⟩ := hM.z 0 h0
    rw [e] at e'
    simp at e'
    omega
  have HM3 := Lib.hid hM
  have HD3 := Lib.hid hD
  obtain ⟨hb, b0, b1⟩ := HB3.out
  clear F hM hD
  go_wp2_with fail
  refine (HAL.out _).mono ?_
  rintro _ w4 ⟨rfl, F⟩
  obtain ⟨B0, hB0⟩ : ∃ B0, B0 = w3.heap.size := ⟨_, rfl⟩
  rw [← hB0] at hbk hbc hbf hbmw hlb
  have hF34 : RowKit.Below B0 w3 w4 := by rw [hB0]; exact F
  have HLB := Lib.hid hlb
  have HF4 := Lib.hid (HF3.out.trans F)
  have HB4 := Lib.hid (HB3.out.fut F)
  have hB0w : B0 ≤ w4.heap.size := by rw [hB0]; exact RowKit.Below.size F
  have hBB0 : B < B0 := by omega
  have hMem : 0 < C.length → Memo C bk bc bf bm l lc w4 := fun h0 => HM3.out.below ⟨hbk, hbc, hbf⟩ (fun b off e => HLB.out b off e h0) hF34
  have HME := Lib.hid hMem
  have HD4 := Lib.hid (HD3.out.below hbmw hF34)
  clear F hb b0 b1 hlb hF34 hMem hB0
  go_wp2_with fail
  go_loopw [7, 8, 24] (fun fv pv iv wr => ∃ (k f n : Nat) (acc : List (List Int)), k ≤ C.length ∧ iv = .int .i64 k ∧ fv = sv f ∧ f ≤ m ∧ Hid (acc ++ provG C (C.drop k) f = R) ∧ Hid (acc.length ≤ k) ∧ Hid (OwnL wr B0 pv acc) ∧ Hid (BoxM wr B c a ss.length cap) ∧ Hid (Fut w wr) ∧ Hid (0 < C.length → Memo C bk bc bf bm l lc wr) ∧ Hid (MemoD C wr bm n) ∧ Hid (n ≤ k * 4128755508119552) ∧ Hid (B0 ≤ wr.heap.size)) (fun _ _ iv _ => C.length - (intOf iv).toNat)
  case atStart => exact ⟨0, m, 0, [], Nat.zero_le _, rfl, rfl, Nat.le_refl _, HRR, Lib.hid (Nat.le_refl _), Lib.hid (OwnL.nil _ _), HB4, HF4, HME, HD4, Lib.hid (Nat.zero_le _), Lib.hid hB0w⟩
  case round =>
    obtain ⟨k, f, n, acc, hk, rfl, rfl, hf, HO, HAL2, HOW, HB, HF, HMM, HD, HN, HSZ⟩ := hrel
    by_cases hlt : k < C.length
    · have hkx : (k : Int) < C.length := by omega
      have h0C : 0 < C.length := by omega
      have hM := HMM.out h0C
      obtain ⟨b, off, ea, hbne, hbl, d1⟩ := hM.z k hlt
      subst ea
      have HM := Lib.hid hM
      rw [set_drop C k hlt] at HO
      obtain ⟨hc0, hcl⟩ := HG.out _ (set_mem C k hlt)
      generalize C[k]?.getD 0 = q at *
      have HW := Lib.hid (fun W => within_any q f W hcl (by omega))
      have hdl := dif_le f q
      have e : bits BinOp.andNot IntKind.u64 (f : Int) (q : Int) = ((dif f q : Nat) : Int) := by
        rw [← dif_eq64 f q (by omega) hcl]; exact u64_andNot_nat _ _ (by omega) (by omega)
      have hpg : provG C (q :: C.drop (k + 1)) f = if q &&& f = q ∧ 1 + mostM C (dif f q) = mostM C f then listM q :: provG C (C.drop (k + 1)) (dif f q) else provG C (C.drop (k + 1)) f := rfl
      rw [hpg] at HO
      clear hpg hM
      by_cases hq : q &&& f = q
      · rw [decide_eq_true hq] at HW
        have HQ1 := Lib.hid (fun W (h : Memo C bk bc bf bm (some ⟨b, off, none⟩) lc W) (h' : MemoD C W bm n) => most_any C HG.out hCL bk bc bf bm (some ⟨b, off, none⟩) lc 9 (dif f q) n W (HCN.out _ (by omega)) (by omega) h h' (budget0 (by omega) HN.out))
        have HQ2 := Lib.hid (fun n2 (hn2 : n2 ≤ n + 34 ^ 10) W (h : Memo C bk bc bf bm (some ⟨b, off, none⟩) lc W) (h' : MemoD C W bm n2) => most_any C HG.out hCL bk bc bf bm (some ⟨b, off, none⟩) lc 9 f n2 W (HCN.out _ hf) (by omega) h h' (budget (by omega) HN.out hn2 (Nat.le_add_right _ _)).2.1)
        have hm1 := mostM_le C (dif f q)
        have hm2 := mostM_le C f
        have HLI := Lib.hid (fun W => list_any' q W hcl)
        generalize dif f q = g at *
        generalize hX : mostM C g = x at *
        generalize hY : mostM C f = y at *
        have HX := Lib.hid hX
        have HY := Lib.hid hY
        clear hX hY
        by_cases hxy : 1 + x = y
        · rw [if_pos ⟨hq, hxy⟩] at HO
          have HO2 : Hid ((acc ++ [listM q]) ++ provG C (C.drop (k + 1)) g = R) := Lib.hid (by rw [List.append_assoc]; exact HO.out)
          generalize listM q = L at *
          have hxe : (1 + (x : Int) == (y : Int)) = true := by rw [beq_iff_eq]; omega
          clear hq hxy HO
          go_wp2_with (first
            | (go_at_call 80; refine (HW.out _).mono ?_; rintro _ _ ⟨rfl, rfl⟩)
            | (go_at_call 104; (with_reducible refine (HQ1.out _ HM.out HD.out).mono ?_); rintro _ w5 ⟨hev, hg5, n5, hn5, hd5⟩; rw [HX.out] at hev; subst hev; have HG5 := Lib.hid hg5; have HD5 := Lib.hid hd5; have HN5 := Lib.hid hn5; clear hg5 hd5 hn5)
            | (go_at_call 104; (with_reducible refine (HQ2.out _ HN5.out _ (HM.out.grown HG5.out) HD5.out).mono ?_); rintro _ w6 ⟨hev, hg6, n6, hn6, hd6⟩; rw [HY.out] at hev; subst hev; have HG6 := Lib.hid (HG5.out.trans hg6); have HD6 := Lib.hid hd6; have HN6 := Lib.hid (budget (by omega) HN.out HN5.out hn6).2.2; clear hg6 hd6 hn6))
          refine (HLI.out _).mono ?_
          rintro _ w7 ⟨lv, rfl, hlo, F⟩
          have HG6w : Hid (B0 ≤ w6.heap.size) := Lib.hid (Nat.le_trans HSZ.out HG6.out.size)
          have HL7 := Lib.hid (hlo.base HG6w.out)
          have HO7 := Lib.hid ((HOW.out.grown HG6.out hbmw).fut F)
          have HB7 := Lib.hid ((HB.out.grown HG6.out (by omega)).fut F)
          have HF7 := Lib.hid ((HF.out.grownB HG6.out hwbm).trans F)
          have HM7 := Lib.hid ((HM.out.grown HG6.out).below ⟨hbk, hbc, hbf⟩ (fun b off e => HLB.out b off e h0C) (RowKit.Below.mono F HG6w.out))
          have HD7 := Lib.hid (HD6.out.below hbmw (RowKit.Below.mono F HG6w.out))
          have hsz7 : B0 ≤ w7.heap.size := Nat.le_trans HG6w.out (RowKit.Below.size F)
          have hal : acc.length ≤ 200000 := by have := HAL2.out; omega
          obtain ⟨la, lca, hlv, _⟩ := HL7.out.ints
          subst hlv
          obtain ⟨vals, hv1, hv2⟩ := HO7.out
          have HV1 := Lib.hid hv1
          have HV2 := Lib.hid hv2
          clear hlo F hv1 hv2
          go_wp2_with (at_builtin; refine wpList_app _ rfl _ _ 45 rfl B0 25 i0 (.slice none 0 0) 1 24 Try.underlying45 hi0 hz0 hz1 hz2 rfl (by decide) _ _ _ rfl (HV1.out.alloc _) ⟨w7.heap.size, 0, none⟩ 1 1 [.slice la L.length lca] rfl (by decide) rfl ?c1 ?c2 ?c3 ?c4 ?c5 ?_)
          case c1 => exact World.news_of_block (cs := #[.slice la L.length lca]) (t := 25) (fr := (0, 0)) (heap_alloc_new _ _)
          case c2 => intro u hu; simp at hu; subst hu; rfl
          case c3 => exact maxL hal
          case c4 => omega
          case c5 => simp; omega
          · intro v' w8 hown' hgrow _
            have HO8 : Hid (OwnL w8 B0 v' (acc ++ [L])) := Lib.hid ⟨vals ++ [.slice la L.length lca], by simpa using hown', Elems.app (w := w7.alloc (.cells #[.slice la L.length lca] 25)) ⟨HV2.out.1, fun j hj => by obtain ⟨v, e1, e2⟩ := HV2.out.2 j hj; exact ⟨v, e1, e2.fut (Fut.alloc _ _)⟩⟩ (HL7.out.fut (Fut.alloc _ _)) (HV1.out.alloc _) hgrow⟩
            have hBel : RowKit.Below B0 w7 w8 := (RowKit.Below.alloc (RowKit.Below.refl _ _) hsz7 _).grown hgrow (by simp; omega) (fun i hi => (HV1.out.lt i hi).1)
            have HB8 := Lib.hid (HB7.out.belowB hBB0 hBel)
            have HF8 : Hid (Fut w w8) := Lib.hid (HF7.out.trans' hBel (by omega))
            have HM8 := Lib.hid (HM7.out.below ⟨hbk, hbc, hbf⟩ (fun b off e => HLB.out b off e h0C) hBel)
            have HD8 := Lib.hid (HD7.out.below hbmw hBel)
            have HS8 := Lib.hid (Nat.le_trans hsz7 (RowKit.Below.size hBel))
            have hgm : g ≤ m := by omega
            have hal8 : Hid ((acc ++ [L]).length ≤ k + 1) := Lib.hid (by have := HAL2.out; simp; omega)
            clear hown' hgrow hBel
            go_wp2
            go_roundw
            case rel => exact ⟨k + 1, g, n6, acc ++ [L], by omega, by go_num, rfl, hgm, HO2, hal8, HO8, HB8, HF8, Lib.hid (fun _ => HM8.out), HD8, HN6, HS8⟩
            case measure => simp [intOf]; omega
        · rw [if_neg (fun h => hxy h.2)] at HO
          have hxe : (1 + (x : Int) == (y : Int)) = false := by rw [beq_eq_false_iff_ne]; omega
          clear hq hxy HLI
          go_wp2_with (first
            | (go_at_call 80; refine (HW.out _).mono ?_; rintro _ _ ⟨rfl, rfl⟩)
            | (go_at_call 104; (with_reducible refine (HQ1.out _ HM.out HD.out).mono ?_); rintro _ w5 ⟨hev, hg5, n5, hn5, hd5⟩; rw [HX.out] at hev; subst hev; have HG5 := Lib.hid hg5; have HD5 := Lib.hid hd5; have HN5 := Lib.hid hn5; clear hg5 hd5 hn5)
            | (go_at_call 104; (with_reducible refine (HQ2.out _ HN5.out _ (HM.out.grown HG5.out) HD5.out).mono ?_); rintro _ w6 ⟨hev, hg6, n6, hn6, hd6⟩; rw [HY.out] at hev; subst hev; have HG6 := Lib.hid (HG5.out.trans hg6); have HD6 := Lib.hid hd6; have HN6 := Lib.hid (budget (by omega) HN.out HN5.out hn6).2.2; clear hg6 hd6 hn6))
          go_roundw
          case rel => exact ⟨k + 1, f, n6, acc, by omega, by go_num, rfl, hf, HO, Lib.hid (Nat.le_succ_of_le HAL2.out), Lib.hid (HOW.out.grown HG6.out hbmw), Lib.hid (HB.out.grown HG6.out (by omega)), Lib.hid (HF.out.grownB HG6.out hwbm), Lib.hid (fun _ => HM.out.grown HG6.out), HD6, HN6, Lib.hid (Nat.le_trans HSZ.out HG6.out.size)⟩
          case measure => simp [intOf]; omega
      · rw [if_neg (fun h => hq h.1)] at HO
        rw [decide_eq_false hq] at HW
        clear hq
        go_wp2_with (go_at_call 80; refine (HW.out _).mono ?_; rintro _ _ ⟨rfl, rfl⟩)
        go_roundw
        case rel => exact ⟨k + 1, f, n, acc, by omega, by go_num, rfl, hf, HO, Lib.hid (Nat.le_succ_of_le HAL2.out), HOW, HB, HF, HMM, HD, Lib.hid (Nat.le_trans HN.out (Nat.mul_le_mul_right _ (Nat.le_succ k))), HSZ⟩
        case measure => simp [intOf]; omega
    · obtain rfl : k = C.length := by omega
      rw [List.drop_of_length_le (Nat.le_refl _)] at HO
      have hR : acc = R := by have := HO.out; simpa [provG] using this
      subst hR
      have HLL := Lib.hid HOW.out.lists
      obtain ⟨pl, pc, hpv, hpl⟩ := HLL.out
      subst hpv
      have HPL := Lib.hid hpl
      clear hpl HLL
      go_wp2
      go_ret2
      exact ⟨pl, pc, rfl, HPL.out, HF.out⟩
set_option maxRecDepth 100000 in
set_option maxHeartbeats 1000000 in
theorem cutsf_any (c : Int) (a : Option Addr) (cap : Nat) (ss : List (Int × Int)) (w : World) (hS : StrAt w a ss) :
    Calls Try.prog 32 #[mapV c a ss.length cap] w (TupLL (chkM c ss) (cutsR c ss) w) := by
  by_cases hc : chkM c ss = 0
  · obtain ⟨hc1, _⟩ := chk_good hc
    obtain ⟨cn, rfl⟩ := Int.eq_ofNat_of_zero_le (show 0 ≤ c by omega)
    have hR : cutsR cn ss = provG (cutsM cn ss) (cutsM cn ss) (2 ^ ss.length - 1) := by unfold cutsR; rw [if_pos hc]; simp
    rw [hR, hc]
    exact cuts_ok cn a cap ss w hS hc
  · have HC := Lib.hid (fun W (F : Fut w W) => check_any' c a cap ss W (hS.fut F))
    have hR : cutsR c ss = [] := by unfold cutsR; rw [if_neg hc]
    rw [hR]
    obtain ⟨_, h2⟩ := chk_std hc
    clear hS hR
    generalize chkM c ss = r at *
    go_enter Try.func32, Try.ntmps32
    go_wp2_with fail
    refine (HC.out _ (Fut.alloc _ _)).mono ?_
    rintro _ w1 ⟨rfl, F⟩
    go_wp2
    go_ret2
    exact ⟨_, _, rfl, nil_lists _ _, (Fut.alloc _ _).trans F⟩
end Go.Proofs.Ytimddkofcejijaa
