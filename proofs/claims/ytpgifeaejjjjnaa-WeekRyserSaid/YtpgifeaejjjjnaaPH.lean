/- law 8: law8_int -/
import Derived.Test.YtpgifeaejjjjnaaPF
import Derived.Test.YtpgifeaejjjjnaaPG
import Derived.Test.YtpgifeaejjjjnaaOT
import Derived.Test.YtpgifeaejjjjnaaCU
import Derived.Test.YtpgifeaejjjjnaaCY
import Derived.Test.YtpgifeaejjjjnaaFC
import Derived.Test.YtpgifeaejjjjnaaPC
import Derived.Test.YtpgifeaejjjjnaaFG
import Derived.Test.YtpgifeaejjjjnaaDA
import Derived.Test.YtpgifeaejjjjnaaDB
import Derived.Test.YtpgifeaejjjjnaaFK
import Derived.Test.YtpgifeaejjjjnaaPB
import Derived.Deep.DeepCutAuto
namespace Go.Proofs.Ytpgifeaejjjjnaa
open Go.RowKit Go.Sort
theorem row_but {Z : Nat → Prop} {w w' : World} {B size n : Nat} {e : TypeId} {v : Value} {xs : List Value} (h : w.ownsRow B e size v n xs) (hb : But Z w w') (hZ : ∀ k, Z k → k < B) : w'.ownsRow B e size v n xs := by
  refine ⟨h.1, ?_⟩
  rcases h.2 with h3 | ⟨g, cap, cur, h3, h4, h5, h6⟩
  · exact .inl h3
  · exact .inr ⟨g, cap, cur, h3, h4, by rw [hb.block g (Array.getElem?_eq_some_iff.1 h5).1 (fun hz => by have := hZ g hz; omega)]; exact h5, h6⟩
theorem OwnP.but {Z : Nat → Prop} {w w' : World} {B : Nat} {v : Value} {vals : List Value} {zss : List (List Int)} (h : OwnP w B v vals zss) (hb : But Z w w') (hZ : ∀ k, Z k → k < B) : OwnP w' B v vals zss :=
  ⟨row_but h.own hb hZ, h.len, fun j hj => by obtain ⟨u, e, hu⟩ := h.el j hj; exact ⟨u, e, row_but hu hb hZ⟩, h.ap⟩
theorem OwnP.lt {w : World} {B : Nat} {v : Value} {vals : List Value} {zss : List (List Int)} (h : OwnP w B v vals zss) : ∀ u ∈ vals, ∀ k, u.ownBlock = some k → k < w.heap.size := fun u hu k hk => by
  obtain ⟨j, hj, rfl⟩ := List.getElem_of_mem hu
  obtain ⟨u, e, h2⟩ := h.el j (by have := h.len; omega)
  rw [List.getElem?_eq_getElem hj] at e
  obtain rfl : vals[j] = u := by simpa using e
  exact (World.ownsRow.lt h2 k hk).2
theorem own_some {w : World} {B n ac : Nat} {e : TypeId} {av : Option Addr} {xs : List Value} (h : w.ownsRow B e 1 (.slice av (n + 1) ac) (n + 1) xs) : ∃ g, av = some ⟨g, 0, none⟩ := by
  obtain ⟨g, cg, e, _⟩ := h.form (by omega)
  injection e with e1
  exact ⟨g, e1⟩
/-- the corner's box, and what lies before it. -/
structure Cst (S : Nat) (w3 : World) (v : Value) (w : World) : Prop where
  low : RowKit.Below (S + 2) w3 w
  sz : S + 3 ≤ w.heap.size
  c : w.cell? ⟨S + 2, 0, none⟩ = some v
  fz : w.frozen? ⟨S + 2, 0, none⟩ = false
theorem Cst.fut {S : Nat} {w3 : World} {v : Value} {w w' : World} (h : Cst S w3 v w) (F : Fut w w') : Cst S w3 v w' where
  low := h.low.trans (RowKit.Below.mono F (by have := h.sz; omega))
  sz := Nat.le_trans h.sz (RowKit.Below.size F)
  c := (RowKit.Below.cell F (p := ⟨S + 2, 0, none⟩) (by have := h.sz; show S + 2 < _; omega)).trans h.c
  fz := (RowKit.Below.frozen F (p := ⟨S + 2, 0, none⟩) (by have := h.sz; show S + 2 < _; omega)).trans h.fz
theorem Cst.put {S : Nat} {w3 : World} {v u : Value} {w : World} (h : Cst S w3 v w) : Cst S w3 u (w.setCell ⟨S + 2, 0, none⟩ u) where
  low := h.low.setCell (p := ⟨S + 2, 0, none⟩) (Nat.le_refl _) u
  sz := by simp only [World.setCell, Array.size_modify]; exact h.sz
  c := World.cell?_setCell_same' w ⟨S + 2, 0, none⟩ u (by rw [h.c]; rfl)
  fz := by rw [World.frozen?_setCell]; exact h.fz
/-- .. behind an append to a row of one's own that begins at S + 3. -/
theorem Cst.grown {S : Nat} {w3 : World} {v : Value} {w w' : World} {b : Option Nat} (h : Cst S w3 v w) (g : w.grownBy w' b) (hb : ∀ k, b = some k → S + 3 ≤ k) : Cst S w3 v w' where
  low := RowKit.Below.grown h.low g (by have := h.sz; omega) (fun k hk => by have := hb k hk; omega)
  sz := Nat.le_trans h.sz g.size
  c := (World.cell?_of_block (g.block (S + 2) (by have := h.sz; omega) (fun e => by have := hb _ e.symm; omega))).trans h.c
  fz := (World.frozen?_of_block (g.block (S + 2) (by have := h.sz; omega) (fun e => by have := hb _ e.symm; omega))).trans h.fz
theorem sp_facts (x0 x1 R D N : Nat) (h0 : x0 < 256) (h1 : x1 < 256) (hR : 0 < R) (hD : 0 < D) (hN : 0 < N) : ∃ j q p s : Nat, (IntKind.i64.wrap (x0 : Int) = (x0 : Int) ∧ (x0 : Int) % (R : Int) = (j : Int) ∧ (x0 : Int).tmod (R : Int) = (j : Int)) ∧ j < R ∧
    (IntKind.u8.wrap ((x0 : Int).tdiv 8) = (q : Int) ∧ (x0 : Int).tdiv 8 = (q : Int) ∧ (x0 : Int) / 8 = (q : Int) ∧ IntKind.u8.wrap (q : Int) = (q : Int) ∧ IntKind.i64.wrap (q : Int) = (q : Int) ∧ (q : Int) % (D : Int) = (p : Int) ∧ (q : Int).tmod (D : Int) = (p : Int)) ∧ p < D ∧
    (IntKind.i64.wrap (x1 : Int) = (x1 : Int) ∧ (x1 : Int) % (N : Int) = (s : Int) ∧ (x1 : Int).tmod (N : Int) = (s : Int)) ∧ s < N := by
  have e : ∀ a b : Nat, (a : Int) % (b : Int) = ((a % b : Nat) : Int) := fun a b => by exact_mod_cast rfl
  have e2 : ∀ a b : Nat, (a : Int).tmod (b : Int) = ((a % b : Nat) : Int) := fun a b => by rw [Int.tmod_eq_emod_of_nonneg (Int.natCast_nonneg a)]; exact e a b
  have d1 : (x0 : Int) / 8 = ((x0 / 8 : Nat) : Int) := by omega
  have d2 : (x0 : Int).tdiv 8 = ((x0 / 8 : Nat) : Int) := by rw [Int.tdiv_eq_ediv_of_nonneg (Int.natCast_nonneg x0)]; exact d1
  have hq : x0 / 8 < 32 := by omega
  have w8 : ∀ a : Nat, a < 256 → IntKind.u8.wrap (a : Int) = (a : Int) := fun a ha => by
    show (a : Int) % 256 = a
    omega
  have w6 : ∀ a : Nat, a < 256 → IntKind.i64.wrap (a : Int) = (a : Int) := fun a ha => IntWalk.i64_in _ ⟨by omega, by omega⟩
  refine ⟨x0 % R, x0 / 8, (x0 / 8) % D, x1 % N, ⟨w6 _ h0, e _ _, e2 _ _⟩, Nat.mod_lt _ hR, ⟨by rw [d2]; exact w8 _ (by omega), d2, d1, w8 _ (by omega), w6 _ (by omega), e _ _, e2 _ _⟩, Nat.mod_lt _ hD, ⟨w6 _ h1, e _ _, e2 _ _⟩, Nat.mod_lt _ hN⟩
theorem Cst.but {S : Nat} {w3 : World} {v : Value} {Z : Nat → Prop} {w w' : World} (h : Cst S w3 v w) (hb : But Z w w') (hZ : ∀ k, Z k → S + 3 ≤ k) : Cst S w3 v w' where
  low := h.low.trans (hb.below (S + 2) (by have := h.sz; omega) fun k hk => by have := hZ k hk; omega)
  sz := Nat.le_trans h.sz hb.size
  c := (hb.cell (p := ⟨S + 2, 0, none⟩) (by have := h.sz; show S + 2 < _; omega) (fun hk => by have h5 := hZ _ hk; simp only at h5; omega)).trans h.c
  fz := (World.frozen?_of_block (hb.block (S + 2) (by have := h.sz; omega) (fun hk => by have h5 := hZ _ hk; omega))).trans h.fz
set_option maxRecDepth 100000 in
set_option maxHeartbeats 16000000 in
theorem law8_any (st ca wd : Nat) (by_ sp : Nat → Int) (hst : st < 256) (hca : ca < 256) (hwd : wd < 256) (hby : ∀ i, i < 5 → 0 ≤ by_ i ∧ by_ i < 256) (hsp : ∀ i, i < 2 → 0 ≤ sp i ∧ sp i < 256) (w : World) :
    Calls Try.prog 8 #[rotaV st ca by_, .int .u8 wd, twoV sp] w fun e w' => e = .returned (.bool true) ∧ Fut w w' := by
  obtain ⟨i0, hi0, hz0, hz1, hz2⟩ := info_parts info3
  obtain ⟨i1, hi1, hy0, hy1, hy2⟩ := info_parts info28
  have HMD := Lib.hid (fun W => made_any 4 (by omega) (by omega) st ca by_ hst hca hby W)
  have hN1 : madN 4 st ≤ 4 := by have := Nat.mod_lt st (show 0 < 4 by omega); show 1 + st % 4 ≤ 4; omega
  have hNd : 1 ≤ madN 4 st := by show 1 ≤ 1 + st % 4; omega
  have hPl : Plan (madN 4 st) (madP 4 st ca by_) := madL_plan _ _ _ (by have := Nat.mod_lt ca (show 0 < madN 4 st + 1 by omega); omega)
  generalize madN 4 st = N at *
  generalize madP 4 st ca by_ = P at *
  have hpl := hPl.len
  have HP := Lib.hid hPl
  have hnx : (N : Int) ≤ 4 := by omega
  have hn1x : (1 : Int) ≤ N := by omega
  have hpx : (P.length : Int) ≤ 4 := by omega
  have hW1 : wrap64 ((N : Int) + 1) = (N : Int) + 1 := w64_in (by omega) (by omega)
  have hW2 : IntKind.i64.wrap ((N : Int) + 1) = (N : Int) + 1 := IntWalk.i64_in _ ⟨by omega, by omega⟩
  have hW5 : ¬ (N : Int) + 1 = 0 := by omega
  have hW6 : IntKind.i64.wrap (wd : Int) = wd := IntWalk.i64_in _ ⟨by omega, by omega⟩
  have hW3 : (wd : Int) % ((N : Int) + 1) = ((wd % (N + 1) : Nat) : Int) := by exact_mod_cast rfl
  have hW4 : (wd : Int).tmod ((N : Int) + 1) = ((wd % (N + 1) : Nat) : Int) := by rw [Int.tmod_eq_emod_of_nonneg (Int.natCast_nonneg wd)]; exact hW3
  have hWl := Nat.mod_lt wd (show 0 < N + 1 by omega)
  generalize wd % (N + 1) = D at *
  have hDN : D ≤ N := by omega
  have hDx : (D : Int) ≤ N := by omega
  have HSP := Lib.hid hsp
  have hA : Fut w (w.alloc (.cells #[.int .u8 st, .int .u8 ca, .int .u8 (by_ 0), .int .u8 (by_ 1), .int .u8 (by_ 2), .int .u8 (by_ 3), .int .u8 (by_ 4)] 42)) := Fut.alloc _ _
  have hC0 := BoxTw.new (w.alloc (.cells #[.int .u8 st, .int .u8 ca, .int .u8 (by_ 0), .int .u8 (by_ 1), .int .u8 (by_ 2), .int .u8 (by_ 3), .int .u8 (by_ 4)] 42)) sp
  rw [World.size_alloc] at hC0
  have HCX := Lib.hid hC0
  have HF1 : Hid (Fut w ((w.alloc (.cells #[.int .u8 st, .int .u8 ca, .int .u8 (by_ 0), .int .u8 (by_ 1), .int .u8 (by_ 2), .int .u8 (by_ 3), .int .u8 (by_ 4)] 42)).alloc (.cells #[.int .u8 (sp 0), .int .u8 (sp 1)] 48))) := Lib.hid (hA.trans (Fut.alloc _ _))
  clear hst hca hwd hby hsp hA hC0 hPl hWl
  go_enter Try.func8, Try.ntmps8
  go_wp2_with fail
  refine (HMD.out _).mono ?_
  rintro _ w2 ⟨v, rfl, hO, F⟩
  generalize (w.alloc (.cells #[.int .u8 st, .int .u8 ca, .int .u8 (by_ 0), .int .u8 (by_ 1), .int .u8 (by_ 2), .int .u8 (by_ 3), .int .u8 (by_ 4)] 42)).alloc (.cells #[.int .u8 (sp 0), .int .u8 (sp 1)] 48) = w1 at *
  obtain ⟨la, lc, rfl, q1, q2, _⟩ := hO.listsC
  have HO2 := Lib.hid hO
  have HF2 := Lib.hid (HF1.out.trans F)
  have HCX2 := Lib.hid (HCX.out.fut F)
  have HQ := Lib.hid (show P.length ≤ lc ∧ lc ≤ 9223372036854775807 from ⟨q1, q2⟩)
  clear hO F HMD q1 q2 HCX HF1
  have hw3s : (((w2.alloc (.cells #[.int .i64 N] 3)).alloc (.cells #[.int .i64 D] 3)).alloc (.cells #[.slice none 0 0] 22)).heap.size = w2.heap.size + 3 := by simp
  have hw3n : (((w2.alloc (.cells #[.int .i64 N] 3)).alloc (.cells #[.int .i64 D] 3)).alloc (.cells #[.slice none 0 0] 22)).cell? ⟨w2.heap.size, 0, none⟩ = some (.int .i64 N) := alloc_old _ _ (alloc_old _ _ (alloc_cell _ _ _))
  have hw3d : (((w2.alloc (.cells #[.int .i64 N] 3)).alloc (.cells #[.int .i64 D] 3)).alloc (.cells #[.slice none 0 0] 22)).cell? ⟨w2.heap.size + 1, 0, none⟩ = some (.int .i64 D) := by
    have h := alloc_cell (w2.alloc (.cells #[.int .i64 N] 3)) (.int .i64 D) 3
    rw [World.size_alloc] at h
    exact alloc_old _ _ h
  have hw3c : (((w2.alloc (.cells #[.int .i64 N] 3)).alloc (.cells #[.int .i64 D] 3)).alloc (.cells #[.slice none 0 0] 22)).heap[w2.heap.size + 2]? = some (.cells #[.slice none 0 0] 22) := by
    have h := World.alloc_heap_new ((w2.alloc (.cells #[.int .i64 N] 3)).alloc (.cells #[.int .i64 D] 3)) (.cells #[.slice none 0 0] 22)
    rwa [World.size_alloc, World.size_alloc] at h
  have hF23 : Fut w2 (((w2.alloc (.cells #[.int .i64 N] 3)).alloc (.cells #[.int .i64 D] 3)).alloc (.cells #[.slice none 0 0] 22)) := ((Fut.alloc _ _).trans (Fut.alloc _ _)).trans (Fut.alloc _ _)
  go_wp2_with fail
  rw [show w2.heap.size + 1 + 1 = w2.heap.size + 2 from rfl]
  generalize ((w2.alloc (.cells #[.int .i64 N] 3)).alloc (.cells #[.int .i64 D] 3)).alloc (.cells #[.slice none 0 0] 22) = w3 at *
  have HC3 : Hid (Cst w2.heap.size w3 (.slice none 0 0) w3) := Lib.hid ⟨RowKit.Below.refl _ _, by omega, by unfold World.cell?; rw [hw3c]; rfl, by unfold World.frozen?; rw [hw3c]; rfl⟩
  have HN3 : Hid (∀ wx, RowKit.Below (w2.heap.size + 2) w3 wx → wx.cell? ⟨w2.heap.size, 0, none⟩ = some (.int .i64 N) ∧ wx.cell? ⟨w2.heap.size + 1, 0, none⟩ = some (.int .i64 D)) := Lib.hid (fun wx h => ⟨(RowKit.Below.cell h (p := ⟨w2.heap.size, 0, none⟩) (by show w2.heap.size < _; omega)).trans hw3n, (RowKit.Below.cell h (p := ⟨w2.heap.size + 1, 0, none⟩) (by show w2.heap.size + 1 < _; omega)).trans hw3d⟩)
  have HF23 := Lib.hid hF23
  clear hw3s hw3n hw3d hw3c hF23 hW1 hW2 hW3 hW4 hW5 hW6
  have HO3 := Lib.hid (fun wx (h : RowKit.Below (w2.heap.size + 2) w3 wx) => HO2.out.fut (HF23.out.trans' (RowKit.Below.mono h (Nat.le_add_right _ 2)) (Nat.le_refl _)))
  go_loopw [51] (fun iv wx => ∃ (i : Nat) (cl : Option Addr) (cc : Nat) (vals : List Value), i ≤ P.length ∧ iv = .int .i64 i ∧ Hid (Cst w2.heap.size w3 (.slice cl i cc) wx) ∧ Hid (OwnP wx (w2.heap.size + 3) (.slice cl i cc) vals ((P.take i).map (List.take D)))) (fun iv _ => P.length - (intOf iv).toNat)
  case atStart => exact ⟨0, none, 0, [], Nat.zero_le _, rfl, HC3, Lib.hid (OwnP.nil _ _)⟩
  case round =>
    obtain ⟨i, cl, cc, vals, hiP, rfl, HCS, HOP⟩ := hrel
    clear HC3
    by_cases hil : i < P.length
    · have hix : (i : Int) < P.length := by omega
      obtain ⟨gP, cP, l, lcap, eP, hgP, hcP, hOw⟩ := (HO3.out wr HCS.out.low).at i hil
      simp only [Value.slice.injEq, true_and] at eP
      obtain ⟨rfl, rfl⟩ := eP
      have hrow := HP.out.row i hil
      have hlen := ord_len hrow
      rw [hlen] at hcP
      have HTK : Hid ((P.take (i + 1)).map (List.take D) = (P.take i).map (List.take D) ++ [(lth P i).take D]) := Lib.hid (by
        rw [List.take_succ_eq_append_getElem hil, List.map_append, lth_eq, List.getElem?_eq_getElem hil]; rfl)
      have HTL : Hid (((P.take i).map (List.take D)).length = i) := Lib.hid (by rw [List.length_map, List.length_take]; omega)
      generalize lth P i = row at *
      generalize (P.take i).map (List.take D) = acc at *
      obtain ⟨a', cap', e', r1, r2, hI⟩ := hOw.form
      rw [hlen] at e' r1
      simp only [Value.slice.injEq, true_and] at e'
      obtain ⟨rfl, rfl⟩ := e'
      obtain ⟨rb, ro, er, hrb, hcr⟩ := hI 0 (by omega)
      subst er
      have hst := fun W => slice_to28 rb ro N lcap D (by omega) W
      have htk : (row.take D).length = D := by rw [List.length_take]; omega
      have hIt := hI.take D
      generalize row.take D = rd at *
      have HCL : Hid (∀ W, Fut wr W → Calls Try.prog 50 #[.slice (some ⟨rb, ro, none⟩) D lcap] W fun e w' => ∃ l5 c5, e = .returned (.slice l5 D c5) ∧ Owns w' W.heap.size (.slice l5 D c5) rd ∧ Fut W w') := Lib.hid (fun W F => by
        have h := clone_any (some ⟨rb, ro, none⟩) lcap rd W (hIt.fut F) (by omega)
        rw [htk] at h
        refine h.mono ?_
        rintro _ w5 ⟨v5, rfl, hO5, F5⟩
        obtain ⟨l5, c5, e5, _⟩ := hO5.ints
        rw [htk] at e5
        subst e5
        exact ⟨l5, c5, rfl, hO5, F5⟩)
      have HTD := Lib.hid htk
      obtain ⟨c1, c2⟩ := HN3.out wr HCS.out.low
      have c3 := HCS.out.c
      have c4 := HCS.out.fz
      have hsz := HCS.out.sz
      have HROW := Lib.hid HOP.out.own
      have hi4 : i ≤ 4 := by omega
      clear hrow hlen hOw hI hIt hrb hcr htk r1 r2
      go_upto_region 7 with fail
      clear hcP
      have b1 : (⟨w2.heap.size + 1, 0, none⟩ : Addr).block < wr.heap.size := by show w2.heap.size + 1 < _; omega
      have b3 : (⟨w2.heap.size + 2, 0, none⟩ : Addr).block < wr.heap.size := by show w2.heap.size + 2 < _; omega
      go_region_law
        (first
          | (go_simp; go_at_call 50; refine (HCL.out wr.drew (Fut.drewN wr 1)).mono ?_; rintro _ w5 ⟨l5, c5, rfl, hO5, F5⟩; have FA5 : Fut wr w5 := Fut.trans (Fut.drewN wr 1) F5; have y1 : w5.cell? ⟨w2.heap.size + 1, 0, none⟩ = some (.int .i64 D) := (RowKit.Below.cell FA5 b1).trans c2; have y3 : w5.cell? ⟨w2.heap.size + 2, 0, none⟩ = some (.slice cl i cc) := (RowKit.Below.cell FA5 b3).trans c3; have y5 : (w5.alloc (.cells #[.slice l5 D c5] 28)).cell? ⟨w2.heap.size + 2, 0, none⟩ = some (.slice cl i cc) := alloc_old _ _ y3)
          | (refine step_append_src (by rfl) _ _ _ (by rfl) (w2.heap.size + 3) 28 i1 (.slice none 0 0) 24 Try.underlying22 hi1 hy0 hy1 hy2 rfl (.slice cl i cc) i vals (by rfl) (row_fut (by have := HROW.out; rwa [HTL.out] at this) (FA5.trans (Fut.alloc w5 (.cells #[.slice l5 D c5] 28)))) (.slice (some ⟨w5.heap.size, 0, none⟩) 1 1) 1 [.slice l5 D c5] (by rfl) (.inr ⟨⟨w5.heap.size, 0, none⟩, 1, rfl, rfl, cell_one (by simp [go_sem]), by simp [Value.oneCell']⟩) (by unfold maxLen; omega) (by omega) (by have h7 := RowKit.Below.size FA5; simp only [World.size_alloc]; omega) ?_; intro av9 ac9 w9 hown9 hgrow9; obtain ⟨g9, rfl⟩ := own_some hown9; have hC9 : Cst w2.heap.size w3 (.slice cl i cc) w9 := ((HCS.out.fut FA5).fut (Fut.alloc w5 (.cells #[.slice l5 D c5] 28))).grown hgrow9 (fun k hk => (World.ownsRow.lt HROW.out k hk).1); have y1 : w9.cell? ⟨w2.heap.size + 1, 0, none⟩ = some (.int .i64 D) := (HN3.out w9 hC9.low).2; have y3 : w9.cell? ⟨w2.heap.size + 2, 0, none⟩ = some (.slice cl i cc) := hC9.c; have y4 := hC9.fz))
      all_goals
        have HC10 : Hid (Cst w2.heap.size w3 (.slice (some ⟨g9, 0, none⟩) (i + 1) ac9) (w9.setCell ⟨w2.heap.size + 2, 0, none⟩ (.slice (some ⟨g9, 0, none⟩) (i + 1) ac9))) := Lib.hid hC9.put
        have HP10 : Hid (OwnP (w9.setCell ⟨w2.heap.size + 2, 0, none⟩ (.slice (some ⟨g9, 0, none⟩) (i + 1) ac9)) (w2.heap.size + 3) (.slice (some ⟨g9, 0, none⟩) (i + 1) ac9) (vals ++ [.slice l5 D c5]) ((P.take (i + 1)).map (List.take D))) := Lib.hid (by
          have h1 := HOP.out.fut (FA5.trans (Fut.alloc w5 (.cells #[.slice l5 D c5] 28)))
          have h2 := h1.app (N := wr.heap.size) (g := g9) (c := ac9) ((hO5.base (show w2.heap.size + 3 ≤ wr.drew.heap.size from hsz)).fut (Fut.alloc w5 (.cells #[.slice l5 D c5] 28))) (fun k hk => (World.ownsRow.lt hO5 k hk).1) HOP.out.lt (by rw [HTL.out]; exact hown9) hgrow9
          rw [HTL.out] at h2
          rw [HTK.out]
          exact h2.but (Z := fun k => k = w2.heap.size + 2) (But.setCell (Z := fun k => k = w2.heap.size + 2) (But.refl _ _) (p := ⟨w2.heap.size + 2, 0, none⟩) (.inl rfl) _) (fun k hk => by omega))
        clear hown9 hgrow9 hC9 y1 y3 y4 y5 hO5 FA5 F5 c1 c2 c3 c4 hst
        generalize w9.setCell ⟨w2.heap.size + 2, 0, none⟩ (.slice (some ⟨g9, 0, none⟩) (i + 1) ac9) = w10 at *
        go_wp2
        go_roundw
      all_goals first
        | exact ⟨i + 1, _, _, _, by omega, by go_num, HC10, HP10⟩
        | (simp [intOf]; omega)
    · obtain rfl : i = P.length := by omega
      rw [List.take_length] at HOP
      have HQL : Hid ((P.map (List.take D)).length = P.length) := Lib.hid (by simp)
      have HQW : Hid (∀ k, k < P.length → (lth (P.map (List.take D)) k).length = D) := Lib.hid (fun k hk => by
        rw [lth_eq, List.getElem?_map, List.getElem?_eq_getElem hk]
        simp only [Option.map_some, Option.getD_some, List.length_take]
        have := ord_len (HP.out.row k hk)
        rw [lth_eq, List.getElem?_eq_getElem hk] at this
        simp only [Option.getD_some] at this
        omega)
      have HQR : Hid (∀ k, k < P.length → ∀ d, d < D → inB N (nth (lth (P.map (List.take D)) k) d) = true) := Lib.hid (fun k hk d hd => by
        have e : lth (P.map (List.take D)) k = (lth P k).take D := by
          rw [lth_eq, List.getElem?_map, List.getElem?_eq_getElem hk, lth_eq, List.getElem?_eq_getElem hk]; rfl
        rw [e, nth_take _ _ _ hd]
        have := ord_in (HP.out.row k hk) (show d < N by omega)
        unfold inB
        simp; omega)
      generalize P.map (List.take D) = Q at *
      have c3 := HCS.out.c
      obtain ⟨c1, c2⟩ := HN3.out wr HCS.out.low
      obtain ⟨bb, hbb⟩ : ∃ bb, bb = decide (0 < P.length ∧ 0 < D) := ⟨_, rfl⟩
      go_upto_region 9 with fail
      go_cut [69] from 63 to 69 (fun s69 wx => s69 = .bool bb ∧ wx = wr)
      case first =>
        by_cases hb1 : 0 < P.length
        · have hb1x : (0 : Int) < P.length := by omega
          by_cases hb2 : 0 < D
          · have hb2x : (0 : Int) < D := by omega
            have hb : bb = true := by rw [hbb]; simp [hb1, hb2]
            subst hb
            clear hbb
            go_wp2_with fail
            go_meet
            exact ⟨rfl, rfl⟩
          · have hb2x : ¬ (0 : Int) < D := by omega
            have hb : bb = false := by rw [hbb]; simp [hb2]
            subst hb
            clear hbb
            go_wp2_with fail
            go_meet
            exact ⟨rfl, rfl⟩
        · have hb1x : ¬ (0 : Int) < P.length := by omega
          have hb : bb = false := by rw [hbb]; simp [hb1]
          subst hb
          clear hbb
          go_wp2_with fail
          go_meet
          exact ⟨rfl, rfl⟩
      case rest =>
      obtain ⟨rfl, rfl⟩ := hcut
      obtain ⟨wz, hwz⟩ : ∃ wz, wz = wc := ⟨_, rfl⟩
      subst hwz
      go_upto_if 69 with fail
      go_cut [13] from 69 to 91 (fun s13 wx => ∃ (vals2 : List Value) (Q2 : List (List Int)), Hid (Cst w2.heap.size w3 (.slice cl P.length cc) wx) ∧ Hid (OwnP wx (w2.heap.size + 3) (.slice cl P.length cc) vals2 Q2) ∧ Hid (Q2.length = P.length) ∧ Hid (∀ k, k < P.length → (lth Q2 k).length = D) ∧ Hid (∀ k, k < P.length → ∀ d, d < D → inB N (nth (lth Q2 k) d) = true))
      case first =>
        cases bb
        · clear hbb
          go_wp2_with fail
          go_meet
          exact ⟨vals, Q, HCS, HOP, HQL, HQW, HQR⟩
        · have hbb2 := of_decide_eq_true hbb.symm
          obtain ⟨hb1, hb2⟩ := hbb2
          clear hbb
          have hF2r : Fut w2 wz := HF23.out.trans' (RowKit.Below.mono HCS.out.low (Nat.le_add_right _ 2)) (Nat.le_refl _)
          have HBT := Lib.hid (HCX2.out.fut hF2r)
          obtain ⟨x0, hx0⟩ := Int.eq_ofNat_of_zero_le (HSP.out 0 (by omega)).1
          obtain ⟨x1, hx1⟩ := Int.eq_ofNat_of_zero_le (HSP.out 1 (by omega)).1
          have hx02 := (HSP.out 0 (by omega)).2
          have hx12 := (HSP.out 1 (by omega)).2
          have c5 := HBT.out.b 0 (by omega)
          have c6 := HBT.out.b 1 (by omega)
          rw [hx0] at c5 hx02
          rw [hx1] at c6 hx12
          obtain ⟨j, q, p, s, hA1, hjR, hA2, hpD, hA3, hsN⟩ := sp_facts x0 x1 P.length D N (by omega) (by omega) hb1 hb2 (by omega)
          have HX := Lib.hid (And.intro hx0 hx1)
          obtain ⟨u, hu, hOu⟩ := HOP.out.el j (by rw [HQL.out]; exact hjR)
          obtain ⟨ul, uc, eu, hIu⟩ := hOu.ints
          rw [HQW.out j hjR] at eu
          subst eu
          obtain ⟨gl, ol, egl, hgl, hcl⟩ := hIu 0 (by rw [HQW.out j hjR]; exact hb2)
          subst egl
          have hol : ol = 0 ∧ D ≤ uc := by
            rcases hOu.2 with ⟨e, _⟩ | ⟨g, cap, cur, e, _, _, hnc, _⟩
            · cases e
            · injection e with e1 e2 e3
              injection e1 with e1
              injection e1 with e4 e5 e6
              exact ⟨e5, by rw [HQW.out j hjR] at hnc; omega⟩
          obtain ⟨rfl, hDuc⟩ := hol
          have hclf : ∃ gc, cl = some ⟨gc, 0, none⟩ := by
            rcases HOP.out.own.2 with ⟨e, h0⟩ | ⟨g, cap, cur, e, _⟩
            · rw [HQL.out] at h0; omega
            · injection e with e1; exact ⟨g, e1⟩
          obtain ⟨gc, rfl⟩ := hclf
          have c7 := World.ownsRow.cells HOP.out.own (g := gc) rfl j _ hu
          rw [Addr.add_lit, Nat.zero_add] at c7
          have hglS : w2.heap.size + 3 ≤ gl := (World.ownsRow.lt hOu gl rfl).1
          have HU := Lib.hid hu
          have hjx : (j : Int) < P.length := by omega
          have hpx2 : (p : Int) < D := by omega
          have hPne : ¬ (P.length : Int) = 0 := by omega
          have hDne : ¬ (D : Int) = 0 := by omega
          have hNne : ¬ (N : Int) = 0 := by omega
          have hDz : ¬ D = 0 := by omega
          have hNz : ¬ N = 0 := by omega
          have HA2 := Lib.hid hA2
          have HA3 := Lib.hid hA3
          clear hcl hIu hOu hgl hu hx0 hx1 hx02 hx12 hA2 hA3
          obtain ⟨a1, a2, a3⟩ := hA1
          go_upto_region 10 with fail
          go_quiet (fail)
          have hFq : Fut wz (wz.drewN nq) := Fut.drewN wz nq
          have HCS4 := Lib.hid (HCS.out.fut hFq)
          have HOP4 := Lib.hid (HOP.out.fut hFq)
          have HBT4 := Lib.hid (HBT.out.fut hFq)
          clear a2 a3 c5 c6 c7 c1 c2 c3 hFq
          generalize wz.drewN nq = w4 at *
          have HX0 := Lib.hid a1
          clear a1
          go_upto_region 11 with fail
          have hFq : Fut w4 w4.drew := Fut.drewN w4 1
          have HCS5 := Lib.hid (HCS4.out.fut hFq)
          have HOP5 := Lib.hid (HOP4.out.fut hFq)
          have HBT5 := Lib.hid (HBT4.out.fut hFq)
          have c5 := HBT4.out.b 0 (by omega)
          have c6 := HBT4.out.b 1 (by omega)
          rw [HX.out.1] at c5
          rw [HX.out.2] at c6
          obtain ⟨c1, c2⟩ := HN3.out w4 HCS4.out.low
          obtain ⟨a1, a2, a3, a4, a5, a6, a7⟩ := HA2.out
          obtain ⟨b1, b2, b3⟩ := HA3.out
          go_still_tail 13, (by kernel_rfl)
          change wpList _ _ _ _ _ w4.drew
          clear c1 c2 c5 c6 hFq
          generalize w4.drew = w5 at *
          have c5 := HBT5.out.b 0 (by omega)
          have c6 := HBT5.out.b 1 (by omega)
          rw [HX.out.1] at c5
          rw [HX.out.2] at c6
          obtain ⟨c1, c2⟩ := HN3.out w5 HCS5.out.low
          have hwi := HX0.out
          have hOg := HOP5.out.el j (by rw [HQL.out]; exact hjR)
          obtain ⟨u', hu', hOu⟩ := hOg
          rw [HU.out] at hu'
          obtain rfl := Option.some.inj hu'
          have hOr : w5.ownsRow (w2.heap.size + 3) 3 1 (.slice (some ⟨gl, 0, none⟩) D uc) D ((lth Q j).map (Value.int .i64)) := by
            have := hOu
            unfold Owns at this
            rwa [HQW.out j hjR] at this
          have hql : (lth Q j).length = D := HQW.out j hjR
          have c8 : w5.cell? ⟨gl, p, none⟩ = some (.int .i64 (nth (lth Q j) p)) := by
            rw [hOr.cellAt p (by omega), nth_eq]
            simp [List.getElem?_eq_getElem (show p < (lth Q j).length by omega)]
          have f8 := hOr.frozenAt p
          have hZ : But (fun k => k = gl) w5 (w5.setCell ⟨gl, p, none⟩ (.int .i64 (s : Int))) := But.setCell (Z := fun k => k = gl) (But.refl _ _) (p := ⟨gl, p, none⟩) (.inl rfl) _
          have HCS6 := Lib.hid (HCS5.out.but hZ (fun k hk => by omega))
          have HOP6 := Lib.hid (HOP5.out.put (by rw [HQL.out]; exact hjR) HU.out hql (p := p) (s : Int))
          have HQL6 : Hid ((Q.set j ((lth Q j).set p (s : Int))).length = P.length) := Lib.hid (by rw [List.length_set]; exact HQL.out)
          have HQW6 : Hid (∀ k, k < P.length → (lth (Q.set j ((lth Q j).set p (s : Int))) k).length = D) := Lib.hid (fun k hk => by
            by_cases e : j = k
            · subst e
              rw [lth_set_same _ _ _ (by rw [HQL.out]; exact hk), List.length_set]; exact hql
            · rw [lth_set_ne _ _ _ _ e]; exact HQW.out k hk)
          have HQR6 : Hid (∀ k, k < P.length → ∀ d, d < D → inB N (nth (lth (Q.set j ((lth Q j).set p (s : Int))) k) d) = true) := Lib.hid (fun k hk d hd => by
            by_cases e : j = k
            · subst e
              rw [lth_set_same _ _ _ (by rw [HQL.out]; exact hk), nth_set (by omega)]
              split
              · unfold inB; simp; omega
              · exact HQR.out j hk d hd
            · rw [lth_set_ne _ _ _ _ e]; exact HQR.out k hk d hd)
          clear hOr hOu hZ hql HA2 HA3 HX HX0 HU HCS5 HOP5 HCS4 HOP4 HBT4 HBT5 hu'
          generalize Q.set j ((lth Q j).set p (s : Int)) = Q6 at *
          generalize nth (lth Q j) p = old at *
          go_wp2_with fail
          go_meet
          exact ⟨vals, Q6, HCS6, HOP6, HQL6, HQW6, HQR6⟩
      case rest =>
        obtain ⟨vals2, Q2, HCS2, HOP2, HQL2, HQW2, HQR2⟩ := hcut
        obtain ⟨wq, hwq⟩ : ∃ wq, wq = wc := ⟨_, rfl⟩
        subst hwq
        clear HCS HOP HQL HQW HQR HO2 HO3 HP hbb c1 c2 c3 HCX2 HSP
        generalize P.length = R at *
        have hF2q : Fut w2 wq := HF23.out.trans' (RowKit.Below.mono HCS2.out.low (Nat.le_add_right _ 2)) (Nat.le_refl _)
        have HFQ := Lib.hid (HF2.out.trans hF2q)
        obtain ⟨cl', cc', ec, hr1, hr2, hLq⟩ := HOP2.out.l.listsC
        rw [HQL2.out] at ec hr1
        simp only [Value.slice.injEq, true_and] at ec
        obtain ⟨rfl, rfl⟩ := ec
        have HLQ := Lib.hid hLq
        have H42 := Lib.hid (fun W (F : Fut wq W) => corner_any N cl cc Q2 W (hLq.fut F) (by rw [HQL2.out]; exact hr1) hr2)
        have H38 := Lib.hid (fun W (F : Fut wq W) => why_any N cl cc Q2 W (hLq.fut F) (by rw [HQL2.out]; exact hr1) hr2)
        have H40 := Lib.hid (fun W (F : Fut wq W) => fillC_any N cl cc Q2 W (hLq.fut F) (by rw [HQL2.out]; exact hr1) hr2)
        have H44 := Lib.hid (fun (s : Int) W (F : Fut wq W) => proves_any N cl cc Q2 s W (hLq.fut F) (by rw [HQL2.out]; exact hr1) hr2)
        rw [HQL2.out] at H42 H38 H40 H44
        obtain ⟨c1, c2⟩ := HN3.out wq HCS2.out.low
        have c3 := HCS2.out.c
        have HCELL : Hid (∀ W, Fut wq W → W.cell? ⟨w2.heap.size, 0, none⟩ = some (.int .i64 N) ∧ W.cell? ⟨w2.heap.size + 1, 0, none⟩ = some (.int .i64 D) ∧ W.cell? ⟨w2.heap.size + 2, 0, none⟩ = some (.slice cl R cc)) := Lib.hid (fun W F => ⟨(RowKit.Below.cell F (World.block_lt_of_cell? _ _ c1)).trans c1, (RowKit.Below.cell F (World.block_lt_of_cell? _ _ c2)).trans c2, (RowKit.Below.cell F (World.block_lt_of_cell? _ _ c3)).trans c3⟩)
        have HEE : Hid (∃ E, corE N Q2 = E) := Lib.hid ⟨_, rfl⟩
        have HR0 := Lib.hid (And.intro hr1 hr2)
        have hRx : (R : Int) ≤ 4 := hpx
        clear hF2q hLq hr1 hr2 HOP2 HCS2 HN3 HF23 hpx HF2
        obtain ⟨E, hE⟩ := HEE.out
        rw [hE] at H42
        have HE := Lib.hid hE
        clear hE HEE
        generalize w2.heap.size = S at *
        go_wp2_with fail
        refine (H42.out wq Fut.rfl).mono ?_
        rintro _ w6 ⟨rfl, F⟩
        have HF6 := Lib.hid F
        clear F H42 c1 c2 c3
        obtain ⟨c1, c2, c3⟩ := HCELL.out w6 HF6.out
        go_wp2_with fail
        clear c1 c2 c3
        go_loopw [97] (fun iv wx => ∃ i : Nat, i ≤ R ∧ iv = .int .i64 i ∧ Hid (∀ j, j < i → ∀ k, k < D → okB N (Q2.take j) (lth Q2 j) k) ∧ Hid (Fut wq wx)) (fun iv _ => R - (intOf iv).toNat)
        case atStart => exact ⟨0, Nat.zero_le _, rfl, Lib.hid (fun j hj => absurd hj (Nat.not_lt_zero j)), HF6⟩
        case round =>
          obtain ⟨i, hiR, rfl, HOKi, HFi⟩ := hrel
          obtain ⟨wo, hwo⟩ : ∃ wo, wo = wr := ⟨_, rfl⟩
          subst hwo
          by_cases hil : i < R
          · have hix : (i : Int) < R := by omega
            obtain ⟨cb, co, rl, rc, ecl, hcb, d1, hq1, hq2, hIr⟩ := (HLQ.out.fut HFi.out) i (by rw [HQL2.out]; exact hil)
            subst ecl
            have hql := HQW2.out i hil
            rw [hql] at d1 hq1
            have HIR := Lib.hid hIr
            have HQLi := Lib.hid hql
            have HQ1 := Lib.hid hq1
            clear hIr hql hq1 hq2
            go_wp2_with fail
            clear d1 hcb
            go_loopw [104] (fun kv wx => ∃ k : Nat, k ≤ D ∧ kv = .int .i64 k ∧ Hid (∀ j, j < k → okB N (Q2.take i) (lth Q2 i) j) ∧ wx = wo) (fun kv _ => D - (intOf kv).toNat)
            case atStart => exact ⟨0, Nat.zero_le _, rfl, Lib.hid (fun j hj => absurd hj (Nat.not_lt_zero j)), rfl⟩
            case round =>
              obtain ⟨k, hkD, rfl, HOKk, rfl⟩ := hrel
              obtain ⟨wo, hwo⟩ : ∃ wo, wo = wr := ⟨_, rfl⟩
              subst hwo
              by_cases hkl : k < D
              · have hkx : (k : Int) < D := by omega
                obtain ⟨rb, ro, erl, hrb, hcr⟩ := HIR.out k (by rw [HQLi.out]; exact hkl)
                subst erl
                obtain ⟨c1, c2, c3⟩ := HCELL.out wo HFi.out
                have hsl := fun W => slice_to28 rb ro D rc k (by have := HQ1.out; omega) W
                have hsl2 := fun W => slice_to22 cb co R cc i (by have := HR0.out.1; omega) W
                have HWS := Lib.hid (fun j (hj : j < R) => wanI_succ Q2 k (nth (lth Q2 i) k) j (by rw [HQL2.out]; exact hj))
                have HW0 := Lib.hid (wanI_zero Q2 k (nth (lth Q2 i) k))
                have hct : Calls Try.prog 51 #[.slice (some ⟨rb, ro, none⟩) k rc, .int .i64 (nth (lth Q2 i) k)] wo fun e w' => e = .returned (.bool (((lth Q2 i).take k).contains (nth (lth Q2 i) k))) ∧ wo = w' := by
                  have h := contains_any (some ⟨rb, ro, none⟩) rc ((lth Q2 i).take k) (nth (lth Q2 i) k) wo (HIR.out.take k) (by rw [List.length_take, HQLi.out]; omega)
                  rwa [List.length_take, HQLi.out, Nat.min_eq_left (by omega)] at h
                have HCT := Lib.hid hct
                have HBAD := Lib.hid (fun hb => cor_bad (n := N) (w := D) (i := i) (k := k) (zss := Q2) (by omega) (by omega) (by rw [HQL2.out]; omega) hDN (fun a ha => HQW2.out a (by rw [HQL2.out] at ha; exact ha)) (by rw [HQL2.out]; exact hil) hkl HOKi.out HOKk.out (HQR2.out i hil k hkl) hb)
                have HGOOD : Hid (((lth Q2 i).take k).contains (nth (lth Q2 i) k) = false → tkn (Q2.take i) k (nth (lth Q2 i) k) = false → ∀ j, j < k + 1 → okB N (Q2.take i) (lth Q2 i) j) := Lib.hid (fun h1 h2 j hj => by
                  by_cases e : j = k
                  · subst e; exact ⟨HQR2.out i hil j hkl, h1, h2⟩
                  · exact HOKk.out j (by omega))
                have HWN : Hid (wanI Q2 k (nth (lth Q2 i) k) i = if tkn (Q2.take i) k (nth (lth Q2 i) k) = true then 13 else 0) := Lib.hid rfl
                generalize ((lth Q2 i).take k).contains (nth (lth Q2 i) k) = bc at *
                generalize tkn (Q2.take i) k (nth (lth Q2 i) k) = bt at *
                generalize nth (lth Q2 i) k = sv at *
                clear hct
                go_wp2_with fail
                clear hsl2
                go_loopw [19, 113] (fun wv jv wx => ∃ j : Nat, j ≤ i ∧ wv = .int .i64 (wanI Q2 k sv j) ∧ jv = .int .i64 j ∧ wx = wo) (fun _ jv _ => i - (intOf jv).toNat)
                case atStart => exact ⟨0, Nat.zero_le _, by rw [HW0.out], rfl, rfl⟩
                case round =>
                  obtain ⟨j, hji, rfl, rfl, rfl⟩ := hrel
                  obtain ⟨wo, hwo⟩ : ∃ wo, wo = wr := ⟨_, rfl⟩
                  subst hwo
                  by_cases hjl : j < i
                  · have hjx : (j : Int) < i := by omega
                    have HWJ := Lib.hid (HWS.out j (by omega))
                    obtain ⟨cb2, co2, jl, jc, ecl2, _, d2, _, _, hIj⟩ := (HLQ.out.fut HFi.out) j (by rw [HQL2.out]; omega)
                    simp only [Option.some.injEq, Addr.mk.injEq, and_true] at ecl2
                    obtain ⟨rfl, rfl⟩ := ecl2
                    rw [HQW2.out j (by omega)] at d2
                    obtain ⟨jb, jo, ejl, _, e2⟩ := hIj k (by rw [HQW2.out j (by omega)]; exact hkl)
                    subst ejl
                    clear hIj
                    by_cases hxy : nth (lth Q2 j) k = sv
                    · have HW2 : Hid (wanI Q2 k sv (j + 1) = 13) := Lib.hid (by rw [HWJ.out, if_pos hxy])
                      rw [hxy] at e2
                      clear hxy HWJ
                      go_wp2_with fail
                      go_round
                      case rel => exact ⟨j + 1, by omega, by rw [HW2.out], by go_num, by first | rfl | trivial⟩
                      case measure => simp [intOf]; omega
                    · have HW2 : Hid (wanI Q2 k sv (j + 1) = wanI Q2 k sv j) := Lib.hid (by rw [HWJ.out, if_neg hxy])
                      generalize nth (lth Q2 j) k = yv at *
                      clear HWJ
                      go_wp2_with fail
                      go_round
                      case rel => exact ⟨j + 1, by omega, by rw [HW2.out], by go_num, by first | rfl | trivial⟩
                      case measure => simp [intOf]; omega
                  · obtain rfl : j = i := by omega
                    rw [HWN.out]
                    have HHE := HE.out
                    cases bc
                    · cases bt
                      · have HOK2 := Lib.hid (HGOOD.out rfl rfl)
                        go_wp2_with fail
                        refine (HCT.out).mono ?_
                        rintro _ _ ⟨rfl, rfl⟩
                        go_wp2_with fail
                        go_round
                        case rel => exact ⟨k + 1, by omega, by go_num, HOK2, by first | rfl | trivial⟩
                        case measure => simp [intOf]; omega
                      · have hx : corE N Q2 = 13 := by rw [HBAD.out (.inr rfl)]; rfl
                        obtain rfl : E = 13 := HE.out.symm.trans hx
                        have hb := ry_bad hx (by decide)
                        rw [hb.1] at H38
                        rw [hb.2] at H40
                        clear hx hb HHE HGOOD HBAD HWS HW0 HWN
                        go_wp2_with fail
                        refine (HCT.out).mono ?_
                        rintro _ _ ⟨rfl, rfl⟩
                        go_wp2_with fail
                        refine (H38.out _ HFi.out).mono ?_
                        rintro _ w7 ⟨rfl, F⟩
                        have HF7 := Lib.hid (HFi.out.trans F)
                        clear c1 c2 c3 F
                        obtain ⟨c1, c2, c3⟩ := HCELL.out w7 HF7.out
                        go_wp2_with fail
                        refine (H40.out _ HF7.out).mono ?_
                        rintro _ w8 ⟨l8, c8, rfl, _, _, _, F⟩
                        have HF8 := Lib.hid (HF7.out.trans F)
                        clear F c1 c2 c3
                        go_wp2_with fail
                        refine (works_any _).mono ?_
                        rintro _ w9 ⟨rfl, F⟩
                        have HF9 := Lib.hid (HF8.out.trans F)
                        clear F
                        go_wp2
                        go_ret
                        exact ⟨rfl, HFQ.out.trans HF9.out⟩
                    · cases bt
                      · have hx : corE N Q2 = 6 := by rw [HBAD.out (.inl rfl)]; rfl
                        obtain rfl : E = 6 := HE.out.symm.trans hx
                        have hb := ry_bad hx (by decide)
                        rw [hb.1] at H38
                        rw [hb.2] at H40
                        clear hx hb HHE HGOOD HBAD HWS HW0 HWN
                        go_wp2_with fail
                        refine (HCT.out).mono ?_
                        rintro _ _ ⟨rfl, rfl⟩
                        go_wp2_with fail
                        refine (H38.out _ HFi.out).mono ?_
                        rintro _ w7 ⟨rfl, F⟩
                        have HF7 := Lib.hid (HFi.out.trans F)
                        clear c1 c2 c3 F
                        obtain ⟨c1, c2, c3⟩ := HCELL.out w7 HF7.out
                        go_wp2_with fail
                        refine (H40.out _ HF7.out).mono ?_
                        rintro _ w8 ⟨l8, c8, rfl, _, _, _, F⟩
                        have HF8 := Lib.hid (HF7.out.trans F)
                        clear F c1 c2 c3
                        go_wp2_with fail
                        refine (works_any _).mono ?_
                        rintro _ w9 ⟨rfl, F⟩
                        have HF9 := Lib.hid (HF8.out.trans F)
                        clear F
                        go_wp2
                        go_ret
                        exact ⟨rfl, HFQ.out.trans HF9.out⟩
                      · have hx : corE N Q2 = 6 := by rw [HBAD.out (.inl rfl)]; rfl
                        obtain rfl : E = 6 := HE.out.symm.trans hx
                        have hb := ry_bad hx (by decide)
                        rw [hb.1] at H38
                        rw [hb.2] at H40
                        clear hx hb HHE HGOOD HBAD HWS HW0 HWN
                        go_wp2_with fail
                        refine (HCT.out).mono ?_
                        rintro _ _ ⟨rfl, rfl⟩
                        go_wp2_with fail
                        refine (H38.out _ HFi.out).mono ?_
                        rintro _ w7 ⟨rfl, F⟩
                        have HF7 := Lib.hid (HFi.out.trans F)
                        clear c1 c2 c3 F
                        obtain ⟨c1, c2, c3⟩ := HCELL.out w7 HF7.out
                        go_wp2_with fail
                        refine (H40.out _ HF7.out).mono ?_
                        rintro _ w8 ⟨l8, c8, rfl, _, _, _, F⟩
                        have HF8 := Lib.hid (HF7.out.trans F)
                        clear F c1 c2 c3
                        go_wp2_with fail
                        refine (works_any _).mono ?_
                        rintro _ w9 ⟨rfl, F⟩
                        have HF9 := Lib.hid (HF8.out.trans F)
                        clear F
                        go_wp2
                        go_ret
                        exact ⟨rfl, HFQ.out.trans HF9.out⟩
              · obtain rfl : k = D := by omega
                have HOKn : Hid (∀ j, j < i + 1 → ∀ a, a < k → okB N (Q2.take j) (lth Q2 j) a) := Lib.hid (fun j hj a ha => by
                  by_cases e : j = i
                  · subst e; exact HOKk.out a ha
                  · exact HOKi.out j (by omega) a ha)
                go_wp2_with fail
                go_round
                case rel => exact ⟨i + 1, by omega, by go_num, HOKn, HFi⟩
                case measure => simp [intOf]; omega
          · obtain rfl : R = i := by omega
            have hgood : corE N Q2 = 0 := cor_good (n := N) (w := D) (by omega) (by omega) (by rw [HQL2.out]; omega) hDN (fun a ha => HQW2.out a (by rw [HQL2.out] at ha; exact ha)) (fun a ha => HOKi.out a (by rw [HQL2.out] at ha; exact ha))
            obtain rfl : E = 0 := HE.out.symm.trans hgood
            have HRY := Lib.hid (ry_end hgood)
            have HPV := Lib.hid (fun s hs => prv_at hgood HQL2.out HQW2.out s hs)
            have HBS := Lib.hid (fun s hs => barG_succ N Q2 s hs)
            have HBE := Lib.hid (barG_end N Q2)
            have HBZ := Lib.hid (barG_zero N Q2)
            obtain ⟨c1, c2, c3⟩ := HCELL.out wo HFi.out
            clear hgood HOKi HE
            have hNw : IntKind.i64.wrap ((N : Int) - 1) = (N : Int) - 1 := IntWalk.i64_in _ ⟨by omega, by omega⟩
            go_wp2_with fail
            clear hNw c1 c2 c3
            go_loopw [26, 27] (fun bv sv wx => ∃ (u : Nat) (z : Int), u ≤ N ∧ z = (u : Int) - 1 ∧ sv = .int .i64 z ∧ bv = .int .i64 (optI (barG N Q2 u)) ∧ Hid (Fut wq wx)) (fun _ sv _ => (intOf sv + 1).toNat)
            case atStart => exact ⟨N, (N : Int) - 1, Nat.le_refl _, rfl, rfl, by rw [HBE.out]; rfl, HFi⟩
            case round =>
              obtain ⟨u, z, huN, hz, rfl, rfl, HFb⟩ := hrel
              obtain ⟨wb, hwb⟩ : ∃ wb, wb = wr := ⟨_, rfl⟩
              subst hwb
              obtain ⟨c1, c2, c3⟩ := HCELL.out wb HFb.out
              by_cases hu : 0 < u
              · obtain ⟨s, rfl⟩ : ∃ s, u = s + 1 := ⟨u - 1, by omega⟩
                obtain rfl : z = (s : Int) := by omega
                have hs0 : (0 : Int) ≤ s := by omega
                have hsx : (s : Int) < N := by omega
                have HPVs := Lib.hid (HPV.out s (by omega))
                have HBSs := Lib.hid (HBS.out s (by omega))
                have HH0 := Lib.hid (hasN_zero Q2 (s : Int))
                have HHS := Lib.hid (fun k (hk : k < R) => hasN_succ Q2 (s : Int) k (by rw [HQL2.out]; exact hk))
                have HHL := Lib.hid (fun k => hasN_le Q2 (s : Int) k)
                clear hz
                go_wp2_with fail
                go_loopw [28, 169] (fun mv iv wx => ∃ i : Nat, i ≤ R ∧ mv = .int .i64 (hasN Q2 (s : Int) i) ∧ iv = .int .i64 i ∧ wx = wb) (fun _ iv _ => R - (intOf iv).toNat)
                case atStart => exact ⟨0, Nat.zero_le _, by rw [HH0.out]; rfl, rfl, rfl⟩
                case round =>
                  obtain ⟨i, hiR', rfl, rfl, rfl⟩ := hrel
                  obtain ⟨wb, hwb⟩ : ∃ wb, wb = wr := ⟨_, rfl⟩
                  subst hwb
                  by_cases hil : i < R
                  · have hix : (i : Int) < R := by omega
                    obtain ⟨cb, co, rl, rc, ecl, hcb, d1, _, _, hIr⟩ := (HLQ.out.fut HFb.out) i (by rw [HQL2.out]; exact hil)
                    subst ecl
                    have hql := HQW2.out i hil
                    have HCT := Lib.hid (contains_any rl rc (lth Q2 i) (s : Int) wb hIr (by rw [hql]; omega))
                    rw [hql] at d1 HCT
                    have HHI := Lib.hid (HHS.out i hil)
                    have hhl := HHL.out i
                    generalize (lth Q2 i).contains (s : Int) = bc at *
                    generalize hasN Q2 (s : Int) i = hm at *
                    have hmx : (hm : Int) ≤ 4 := by omega
                    clear hIr hql
                    go_wp2_with fail
                    refine (HCT.out).mono ?_
                    rintro _ _ ⟨rfl, rfl⟩
                    cases bc
                    · have HH2 : Hid (hasN Q2 (s : Int) (i + 1) = hm) := Lib.hid HHI.out
                      clear HHI
                      go_wp2_with fail
                      go_round
                      case rel => exact ⟨i + 1, by omega, by rw [HH2.out], by go_num, by first | rfl | trivial⟩
                      case measure => simp [intOf]; omega
                    · have HH2 : Hid (hasN Q2 (s : Int) (i + 1) = hm + 1) := Lib.hid HHI.out
                      clear HHI
                      go_wp2_with fail
                      go_round
                      case rel => exact ⟨i + 1, by omega, by rw [HH2.out]; go_num, by go_num, by first | rfl | trivial⟩
                      case measure => simp [intOf]; omega
                  · obtain rfl : R = i := by omega
                    have hhl := HHL.out R
                    have H44s := Lib.hid (H44.out (s : Int) wb HFb.out)
                    have hpv := HPVs.out
                    rw [hpv.2] at H44s
                    have HPB := Lib.hid hpv.1
                    clear hpv HPVs
                    generalize barsE (N : Int) Q2 (s : Int) = bb at *
                    generalize hasN Q2 (s : Int) R = hm at *
                    have hmx : (hm : Int) ≤ R := by omega
                    cases bb
                    · have hno : ¬ ((hm : Int) < (R : Int) + D - N) := fun h => by
                        have h5 := of_decide_eq_false HPB.out.symm
                        exact h5 ⟨h, by omega⟩
                      have HB2 : Hid (barG N Q2 (s + 1) = barG N Q2 s) := Lib.hid (by rw [HBSs.out, if_neg (by decide)])
                      have H14 : Hid (Calls Try.prog 44 #[.int .i64 N, .slice cl R cc, .int .i64 (s : Int)] wb fun e w' => e = .returned (.int .i64 14) ∧ Fut wb w') := H44s
                      clear H44s HPB HBSs
                      go_wp2_with fail
                      refine H14.out.mono ?_
                      rintro _ w7 ⟨rfl, F⟩
                      have HF7 := Lib.hid (HFb.out.trans F)
                      clear F H14
                      go_wp2_with fail
                      go_roundw
                      case rel => exact ⟨s, (s : Int) - 1, by omega, rfl, by go_num, by rw [HB2.out], HF7⟩
                      case measure => simp [intOf]
                    · have hyes := of_decide_eq_true HPB.out.symm
                      obtain ⟨hy1, hy2⟩ := hyes
                      have hy2x : (0 : Int) < R := by omega
                      have HB2 : Hid (barG N Q2 s = some s) := Lib.hid (by rw [HBSs.out, if_pos rfl])
                      have H14 : Hid (Calls Try.prog 44 #[.int .i64 N, .slice cl R cc, .int .i64 (s : Int)] wb fun e w' => e = .returned (.int .i64 0) ∧ Fut wb w') := H44s
                      clear H44s HPB HBSs
                      go_wp2_with fail
                      refine H14.out.mono ?_
                      rintro _ w7 ⟨rfl, F⟩
                      have HF7 := Lib.hid (HFb.out.trans F)
                      clear F H14
                      go_wp2_with fail
                      go_roundw
                      case rel => exact ⟨s, (s : Int) - 1, by omega, rfl, by go_num, by rw [HB2.out]; rfl, HF7⟩
                      case measure => simp [intOf]
              · obtain rfl : u = 0 := by omega
                obtain rfl : z = -1 := by omega
                clear hz
                rw [HBZ.out]
                go_wp2_with fail
                have hW1 : ((wb.alloc (.cells #[.slice none 0 0] 22)).alloc (.cells #[.func (.func 52) #[] (putR (S + 2) wb.heap.size S (S + 1))] 23)).heap[wb.heap.size]? = some (.cells #[.slice none 0 0] 22) := (RowKit.Below.heap_alloc _ _ _ (by simp)).trans (World.alloc_heap_new wb _)
                have hRs : Rst wb (S + 2) S (S + 1) ((wb.alloc (.cells #[.slice none 0 0] 22)).alloc (.cells #[.func (.func 52) #[] (putR (S + 2) wb.heap.size S (S + 1))] 23)) := ⟨(Fut.alloc _ _).trans (Fut.alloc _ _), by simp, (by
                  have h := alloc_cell (wb.alloc (.cells #[.slice none 0 0] 22)) (.func (.func 52) #[] (putR (S + 2) wb.heap.size S (S + 1))) 23
                  rwa [World.size_alloc] at h), ⟨.slice none 0 0, by unfold World.cell?; rw [hW1]; rfl⟩, by unfold World.frozen?; rw [hW1]; rfl⟩
                have hPR := put_ry wb N D (by omega) hDN (S + 2) S (S + 1) cl cc Q2 (by rw [HQL2.out]; omega) (fun a ha => HQW2.out a (by rw [HQL2.out] at ha; exact ha)) (HLQ.out.fut HFb.out) (by rw [HQL2.out]; exact HR0.out.1) (by rw [HQL2.out]; exact c3) c1 c2 R none 0 [] _ (by rw [HQL2.out]; simp) (fun a ha => absurd ha (by simp)) (OwnL.nil _ _) hRs
                have HPRX := Lib.hid hPR
                clear hPR hRs hW1 c1 c2 c3
                show Calls Try.prog 52 _ ((wb.alloc (.cells #[.slice none 0 0] 22)).alloc (.cells #[.func (.func 52) #[] (putR (S + 2) wb.heap.size S (S + 1))] 23)) _
                refine HPRX.out.mono ?_
                rintro _ w7 ⟨rfl, hRs, _, hZ⟩
                have HF7 := Lib.hid (HFb.out.trans (show Fut wb w7 from hRs.low))
                have HZ := Lib.hid hZ
                have HSZ := Lib.hid hRs.sz
                clear hRs hZ HPRX
                rw [List.length_nil, List.drop_zero] at HZ
                rw [List.length_nil, List.drop_zero]
                cases hbar : barF N Q2 with
                | none =>
                  obtain ⟨z, z1, z2, z3, z4, z5, z6, z7⟩ := HRY.out.1 hbar
                  rw [z1] at HZ
                  rw [z1]
                  rw [z3] at H40
                  rw [z4] at H38
                  obtain ⟨vb, cb1, hOb⟩ := HZ.out z rfl
                  have HZZ := Lib.hid (And.intro z5 (And.intro z6 z7))
                  have HOB := Lib.hid hOb
                  obtain ⟨lb, lbc, rfl, _, _, _⟩ := hOb.listsC
                  have HCB := Lib.hid cb1
                  rw [z2, HQL2.out] at HOB HCB
                  have hzl : z.length = R := by rw [z2, HQL2.out]
                  have HZL := Lib.hid hzl
                  rw [show optI none = -1 from rfl, show (some z).isSome = true from rfl]
                  clear z1 z2 z3 z4 z5 z6 z7 hOb cb1 HZ HRY hbar hzl
                  obtain ⟨c1, c2, c3⟩ := HCELL.out w7 HF7.out
                  go_wp2_with fail
                  refine (H38.out _ HF7.out).mono ?_
                  rintro _ w8 ⟨rfl, F⟩
                  have HF78 := Lib.hid F
                  have HF8 := Lib.hid (HF7.out.trans F)
                  clear F c1 c2 c3
                  obtain ⟨c1, c2, c3⟩ := HCELL.out w8 HF8.out
                  go_wp2_with fail
                  refine (H40.out _ HF8.out).mono ?_
                  rintro _ w9 ⟨lf, lfc, rfl, hf1, hf2, hLf, F⟩
                  rw [HZZ.out.2.1] at hf1
                  have HF79 := Lib.hid (HF78.out.trans F)
                  have HF9 := Lib.hid (HF8.out.trans F)
                  have HLF := Lib.hid hLf
                  have HFQ9 := Lib.hid (And.intro hf1 hf2)
                  have HOB9 := Lib.hid (HOB.out.fut HF79.out)
                  have c4 : w9.cell? ⟨wb.heap.size, 0, none⟩ = some (.slice lb R lbc) := (RowKit.Below.cell HF79.out (p := ⟨wb.heap.size, 0, none⟩) (by have := HSZ.out; show wb.heap.size < _; omega)).trans HCB.out
                  clear F c1 c2 c3 hf1 hf2 hLf
                  rw [HZZ.out.2.1]
                  obtain ⟨c1, c2, c3⟩ := HCELL.out w9 HF9.out
                  have hlf0 := HLF.out 0 (by rw [HZZ.out.2.1]; omega)
                  obtain ⟨fb, fo, _, _, elf, _⟩ := hlf0
                  subst elf
                  have hsl := fun W => slice_to22 fb fo N lfc R (by have := HFQ9.out.1; omega) W
                  have b1 := cell_after c1
                  have b3 := cell_after c3
                  have b4 := cell_after c4
                  have HPL := Lib.hid (fun p : After w9 => planned_yes N (by omega) (by omega) (some ⟨fb, fo, none⟩) lfc (filL N Q2) p.w' (HLF.out.fut p.F) HZZ.out.1 (by rw [HZZ.out.2.1]; exact HFQ9.out.1) HFQ9.out.2)
                  have HLS := Lib.hid (fun p : After w9 => lists_self (a := some ⟨fb, fo, none⟩) (c := lb) (cap := lfc) (dap := lbc) z p.w' (by
                    have h := (HLF.out.fut p.F).take R
                    rwa [← HQL2.out, HZZ.out.2.2] at h) (by
                    obtain ⟨l', lc', e, _, _, h⟩ := (HOB9.out.fut p.F).listsC
                    rw [HZL.out] at e
                    simp only [Value.slice.injEq, true_and] at e
                    obtain ⟨rfl, rfl⟩ := e
                    exact h) (by rw [HZL.out]; omega))
                  rw [HZZ.out.2.1] at HPL
                  rw [HZL.out] at HLS
                  have HWK := Lib.hid (fun p : After w9 => works_any p.w')
                  have hRN : (R : Int) ≤ N := by omega
                  clear c1 c2 c3 c4
                  go_wp2_with fail
                  refine region_fut (by kernel_rfl) (by kernel_rfl) ?_
                  repeat (go_big_quiet_step (first | (with_reducible (go_at_call 49; rename_i p; exact after_same (HPL.out p))) | (with_reducible (go_at_call 22; rename_i p; exact after_of (HLS.out p))) | (go_at_call 17; rename_i p; exact after_of (HWK.out p))))
                  refine wpQuiet_nil ?_
                  intro w10 hw'
                  have HF10 := Lib.hid (HF9.out.trans (after_fut hw'))
                  clear hw' b1 b3 b4
                  go_wp2
                  go_ret
                  exact ⟨rfl, HFQ.out.trans HF10.out⟩
                | some s =>
                  obtain ⟨z1, z2, z3, z4, z5⟩ := HRY.out.2 s hbar
                  rw [z1]
                  rw [z3, z4] at H38
                  rw [z2, z5] at H40
                  rw [show optI (some s) = (s : Int) from rfl, show (none : Option (List (List Int))).isSome = false from rfl]
                  clear z1 z2 z3 z4 z5 HRY hbar HZ
                  have hs0 : ¬ (s : Int) < 0 := by omega
                  obtain ⟨c1, c2, c3⟩ := HCELL.out w7 HF7.out
                  go_wp2_with fail
                  refine (H38.out _ HF7.out).mono ?_
                  rintro _ w8 ⟨rfl, F⟩
                  have HF8 := Lib.hid (HF7.out.trans F)
                  clear F c1 c2 c3
                  obtain ⟨c1, c2, c3⟩ := HCELL.out w8 HF8.out
                  go_wp2_with fail
                  refine (H40.out _ HF8.out).mono ?_
                  rintro _ w9 ⟨lf, lfc, rfl, _, _, _, F⟩
                  have HF9 := Lib.hid (HF8.out.trans F)
                  clear F c1 c2 c3
                  rw [List.length_nil]
                  go_wp2_with fail
                  refine (works_any _).mono ?_
                  rintro _ w10 ⟨rfl, F⟩
                  have HF10 := Lib.hid (HF9.out.trans F)
                  clear F
                  go_wp2
                  go_ret
                  exact ⟨rfl, HFQ.out.trans HF10.out⟩
theorem law8_int (st ca : Nat) (by_ : Nat → Int) (hst : st < 256) (hca : ca < 256) (hby : ∀ i, i < 5 → 0 ≤ by_ i ∧ by_ i < 256) (x : Int) (h0 : 0 ≤ x) (h1 : x < 256) (sp : Nat → Int) (hsp : ∀ i, i < 2 → 0 ≤ sp i ∧ sp i < 256) (w : World) :
    Calls Try.prog 8 #[rotaV st ca by_, .int .u8 x, twoV sp] w fun e w' => e = .returned (.bool true) ∧ Fut w w' := by
  obtain ⟨wd, rfl⟩ := Int.eq_ofNat_of_zero_le h0
  exact law8_any st ca wd by_ sp hst hca (by omega) hby hsp w
end Go.Proofs.Ytpgifeaejjjjnaa
