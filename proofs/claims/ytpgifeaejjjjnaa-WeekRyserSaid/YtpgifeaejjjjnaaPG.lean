/- the law's search of a corner's rows, tried one after another: put_ry -/
import Derived.Test.YtpgifeaejjjjnaaPE
import Derived.Test.YtpgifeaejjjjnaaDB
import Derived.Test.YtpgifeaejjjjnaaPA
import Derived.Test.YtpgifeaejjjjnaaFE
namespace Go.Proofs.Ytpgifeaejjjjnaa
open Go.RowKit Go.Sort
/-- an operation of a drawn region whose guard has come up. -/
theorem step_if {P : Program} {ops : Array Oper} {o : Oper} {a : Act} {w : World} {K : Act → World → Prop} {Q : Exit → Act → World → Prop} {E : Prop} (hw : Region.wanted o (yielded ops a.tmps) = true)
    (h : if Region.wanted { o with guard := none } (yielded ops a.tmps) = true then Oper.wp P { o with guard := none } a w K Q else E) : if Region.wanted o (yielded ops a.tmps) = true then Oper.wp P o a w K Q else E := by
  have h1 : Region.wanted { o with guard := none } (yielded ops a.tmps) = true := by simp [Region.wanted]
  rw [if_pos h1] at h
  rw [if_pos hw]
  exact h
/-- what put is over: its boxes. -/
abbrev putR (bC S bN bW : Nat) : Array Value := #[.pointer (some ⟨bC, 0, none⟩), .pointer (some ⟨S, 0, none⟩), .pointer (some ⟨bN, 0, none⟩), .pointer (some ⟨bW, 0, none⟩), .pointer (some ⟨S + 1, 0, none⟩)]
structure Rst (w0 : World) (bC bN bW : Nat) (w : World) : Prop where
  low : RowKit.Below w0.heap.size w0 w
  sz : w0.heap.size + 2 ≤ w.heap.size
  f : w.cell? ⟨w0.heap.size + 1, 0, none⟩ = some (.func (.func 52) #[] (putR bC w0.heap.size bN bW))
  ex : ∃ v, w.cell? ⟨w0.heap.size, 0, none⟩ = some v
  fz : w.frozen? ⟨w0.heap.size, 0, none⟩ = false
theorem Rst.fut {w0 : World} {bC bN bW : Nat} {w w' : World} (h : Rst w0 bC bN bW w) (F : Fut w w') : Rst w0 bC bN bW w' where
  low := h.low.trans (RowKit.Below.mono F (by have := h.sz; omega))
  sz := Nat.le_trans h.sz (RowKit.Below.size F)
  f := (RowKit.Below.cell F (p := ⟨w0.heap.size + 1, 0, none⟩) (by have := h.sz; show w0.heap.size + 1 < _; omega)).trans h.f
  ex := by
    obtain ⟨v, hv⟩ := h.ex
    exact ⟨v, (RowKit.Below.cell F (p := ⟨w0.heap.size, 0, none⟩) (by have := h.sz; show w0.heap.size < _; omega)).trans hv⟩
  fz := (RowKit.Below.frozen F (p := ⟨w0.heap.size, 0, none⟩) (by have := h.sz; show w0.heap.size < _; omega)).trans h.fz
theorem Rst.put {w0 : World} {bC bN bW : Nat} {w : World} (h : Rst w0 bC bN bW w) (u : Value) : Rst w0 bC bN bW (w.setCell ⟨w0.heap.size, 0, none⟩ u) ∧ (w.setCell ⟨w0.heap.size, 0, none⟩ u).cell? ⟨w0.heap.size, 0, none⟩ = some u ∧ But (fun k => k = w0.heap.size) w (w.setCell ⟨w0.heap.size, 0, none⟩ u) := by
  obtain ⟨v, hv⟩ := h.ex
  have hb : But (fun k => k = w0.heap.size) w (w.setCell ⟨w0.heap.size, 0, none⟩ u) := But.setCell (Z := fun k => k = w0.heap.size) (But.refl _ w) (p := ⟨w0.heap.size, 0, none⟩) (.inl rfl) u
  have hc := World.cell?_setCell_same' w ⟨w0.heap.size, 0, none⟩ u (by rw [hv]; rfl)
  refine ⟨⟨h.low.trans (hb.below w0.heap.size (by have := h.sz; omega) fun k hk => by omega), Nat.le_trans h.sz hb.size, (hb.cell (p := ⟨w0.heap.size + 1, 0, none⟩) (by have := h.sz; show w0.heap.size + 1 < _; omega) (fun hk => by simp only at hk; omega)).trans h.f, ⟨u, hc⟩, by rw [World.frozen?_setCell]; exact h.fz⟩, hc, hb⟩
abbrev RyP (w0 : World) (bC bN bW : Nat) (r : Option (List (List Int))) (w : World) (e : Ending) (w' : World) : Prop :=
  e = .returned (.bool r.isSome) ∧ Rst w0 bC bN bW w' ∧ But (fun k => k = w0.heap.size) w w' ∧ ∀ z, r = some z → ∃ v, w'.cell? ⟨w0.heap.size, 0, none⟩ = some v ∧ OwnL w' (w0.heap.size + 2) v z
/-- what is still good after so many other lists, and so many days of the next one. -/
def gJK (c : List Int) (t : List (List Int)) (l : List Int) (j d : Nat) : Bool := goodR c (t.take j) l && (List.range d).all fun k => decide (nth l k ≠ nth (lth t j) k)
theorem gJK_zero (c : List Int) (t : List (List Int)) (l : List Int) (j : Nat) : gJK c t l j 0 = goodR c (t.take j) l := by unfold gJK; simp
theorem gJK_succ (c : List Int) (t : List (List Int)) (l : List Int) (j d : Nat) : gJK c t l j (d + 1) = (gJK c t l j d && decide (nth l d ≠ nth (lth t j) d)) := by
  unfold gJK
  rw [List.range_succ, List.all_append, Bool.and_assoc]
  simp
theorem gJK_all (c : List Int) (t : List (List Int)) (l : List Int) (j : Nat) (hj : j < t.length) : gJK c t l j (lth t j).length = goodR c (t.take (j + 1)) l := by
  have e : t.take (j + 1) = t.take j ++ [lth t j] := by
    rw [List.take_add_one, lth_eq, List.getElem?_eq_getElem hj]; rfl
  unfold gJK goodR
  rw [e, List.all_append, List.all_cons, List.all_nil, Bool.and_true, Bool.and_assoc]
theorem good_zero (c : List Int) (t : List (List Int)) (l : List Int) : goodR c (t.take 0) l = decide (l.take c.length = c) := by
  unfold goodR; simp
theorem good_all (c : List Int) (t : List (List Int)) (l : List Int) : goodR c (t.take t.length) l = goodR c t l := by rw [List.take_length]
set_option maxRecDepth 100000 in
set_option maxHeartbeats 8000000 in
theorem put_ry (w0 : World) (n D : Nat) (hn : n ≤ 5) (hDn : D ≤ n) (bC bN bW : Nat) (cA : Option Addr) (cc : Nat) (Q : List (List Int)) (hRn : Q.length ≤ n) (hw : ∀ i, i < Q.length → (lth Q i).length = D) (hL : LstC w0 cA Q) (hcc : Q.length ≤ cc)
    (hC : w0.cell? ⟨bC, 0, none⟩ = some (.slice cA Q.length cc)) (hN : w0.cell? ⟨bN, 0, none⟩ = some (.int .i64 n)) (hW : w0.cell? ⟨bW, 0, none⟩ = some (.int .i64 D)) :
    ∀ (m : Nat) (la : Option Addr) (lc : Nat) (b : List (List Int)) (w : World), b.length + m = Q.length → (∀ k, k < b.length → (lth b k).length = n) → OwnL w (w0.heap.size + 2) (.slice la b.length lc) b → Rst w0 bC bN bW w →
      Calls Try.prog 52 (#[.slice la b.length lc] ++ putR bC w0.heap.size bN bW) w (RyP w0 bC bN bW (ryR n (Q.drop b.length) b) w) := by
  intro m
  induction m with
  | zero =>
    intro la lc b w hl hb hO hR
    have hr : ryR n (Q.drop b.length) b = some b := by
      rw [List.drop_eq_nil_of_le (by omega)]; rfl
    rw [hr]
    have hx : (b.length : Int) = Q.length := by omega
    have c1 : w.cell? ⟨bC, 0, none⟩ = some (.slice cA Q.length cc) := (RowKit.Below.cell hR.low (p := ⟨bC, 0, none⟩) (World.block_lt_of_cell? _ _ hC)).trans hC
    obtain ⟨ov, c2⟩ := hR.ex
    have c3 := hR.fz
    have hp := hR.put (.slice la b.length lc)
    have HO2 := Lib.hid (hO.but hp.2.2 (fun k hk => by omega))
    have HP := Lib.hid hp
    clear hr hb hO hR hp hL hC hN hW hw hl
    show Calls Try.prog 52 #[.slice la b.length lc, .pointer (some ⟨bC, 0, none⟩), .pointer (some ⟨w0.heap.size, 0, none⟩), .pointer (some ⟨bN, 0, none⟩), .pointer (some ⟨bW, 0, none⟩), .pointer (some ⟨w0.heap.size + 1, 0, none⟩)] w _
    go_enter Try.func52, Try.ntmps52
    go_wp2
    go_ret
    exact ⟨rfl, HP.out.1, HP.out.2.2, fun z hz => by cases hz; exact ⟨_, HP.out.2.1, HO2.out⟩⟩
  | succ m ih =>
    intro la lc b w hl hb hO hR
    obtain ⟨i1, hi1, hy0, hy1, hy2⟩ := info_parts info28
    have hk : b.length < Q.length := by omega
    have hbx : (b.length : Int) < Q.length := by omega
    have hne : ¬ ((b.length : Int) = (Q.length : Int)) := by omega
    obtain ⟨bb, off, l2, lc2, ea, hbb, d1, hq1, hq2, hIc⟩ := hL b.length hk
    subst ea
    have hcw := hw b.length hk
    rw [hcw] at d1 hq1
    have htl : (Q.drop (b.length + 1)).length = Q.length - (b.length + 1) := List.length_drop
    have htw : ∀ j, j < (Q.drop (b.length + 1)).length → (lth (Q.drop (b.length + 1)) j).length = D := fun j hj => by
      have : lth (Q.drop (b.length + 1)) j = lth Q (b.length + 1 + j) := by rw [lth_eq, List.getElem?_drop, lth_eq]
      rw [this]
      exact hw _ (by rw [htl] at hj; omega)
    have hsf : ∀ W, (Instr.sliceAt 22 (.slice (some ⟨bb, off, none⟩) Q.length cc) (some (.int .i64 ((b.length : Int) + 1))) none none).run Try.prog W = .ok (.slice (some ⟨bb, offK off (b.length + 1) cc, none⟩) (Q.length - (b.length + 1)) (cc - (b.length + 1))) W := fun W => slice_from22 bb off Q.length cc (b.length + 1) (by omega) hcc W
    have HDR : Hid (∀ W, Fut w0 W → LstC W (some ⟨bb, offK off (b.length + 1) cc, none⟩) (Q.drop (b.length + 1))) := Lib.hid (fun W F => (hL.fut F).drop (k := b.length + 1) hcc)
    have HIHr : Hid (∀ r, r.length = n → ∀ (W : World) (g c8 : Nat), OwnL W (w0.heap.size + 2) (.slice (some ⟨g, 0, none⟩) (b.length + 1) c8) (b ++ [r]) → Rst w0 bC bN bW W → Calls Try.prog 52 #[.slice (some ⟨g, 0, none⟩) (b.length + 1) c8, .pointer (some ⟨bC, 0, none⟩), .pointer (some ⟨w0.heap.size, 0, none⟩), .pointer (some ⟨bN, 0, none⟩), .pointer (some ⟨bW, 0, none⟩), .pointer (some ⟨w0.heap.size + 1, 0, none⟩)] W (RyP w0 bC bN bW (ryR n (Q.drop (b.length + 1)) (b ++ [r])) W)) := Lib.hid (fun r hr W g c8 h7 h8 => by
      have hbl : (b ++ [r]).length = b.length + 1 := by simp
      have := ih (some ⟨g, 0, none⟩) c8 (b ++ [r]) W (by rw [hbl]; omega) (fun i hi => by
        rw [hbl] at hi
        rcases Nat.lt_or_ge i b.length with hl | hl
        · rw [lth_app1 _ _ _ hl]; exact hb i hl
        · obtain rfl : i = b.length := by omega
          rw [lth_app2]; exact hr) (by rw [hbl]; exact h7) h8
      rw [hbl] at this
      exact this)
    obtain ⟨la', lc', hlv, _, _, hLa⟩ := hO.listsC
    simp only [Value.slice.injEq, true_and] at hlv
    obtain ⟨rfl, rfl⟩ := hlv
    have HFT := Lib.hid (fitlaw_any n hn la lc b w hLa.lst (by omega) (fun k hk => by rw [hb k hk]; exact Nat.le_refl _))
    have HLN : Hid (∀ r, r ∈ fitL n b → r.length = n) := Lib.hid (fun r hr => by
      unfold fitL at hr
      exact ord_len (List.mem_filter.1 hr).1)
    have HLE : Hid ((fitL n b).length ≤ 5000) := Lib.hid (Nat.le_trans (sub_len _) (ord_le hn))
    rw [lth_drop Q b.length hk, ryR]
    have HG0 : Hid (((fitL n b).drop 0).findSome? (fun l => if goodR (lth Q b.length) (Q.drop (b.length + 1)) l = true then ryR n (Q.drop (b.length + 1)) (b ++ [l]) else none) = (fitL n b).findSome? (fun l => if goodR (lth Q b.length) (Q.drop (b.length + 1)) l = true then ryR n (Q.drop (b.length + 1)) (b ++ [l]) else none)) := Lib.hid (by rw [List.drop_zero])
    have HF0 : Hid (∀ r, (fun l => if goodR (lth Q b.length) (Q.drop (b.length + 1)) l = true then ryR n (Q.drop (b.length + 1)) (b ++ [l]) else none) r = if goodR (lth Q b.length) (Q.drop (b.length + 1)) r = true then ryR n (Q.drop (b.length + 1)) (b ++ [r]) else none) := Lib.hid (fun _ => rfl)
    generalize (fun l => if goodR (lth Q b.length) (Q.drop (b.length + 1)) l = true then ryR n (Q.drop (b.length + 1)) (b ++ [l]) else none) = FF at *
    generalize (fitL n b).findSome? FF = G at *
    generalize fitL n b = L at *
    generalize hct : Q.drop (b.length + 1) = t at *
    generalize lth Q b.length = c at *
    have HTW := Lib.hid htw
    have HTL := Lib.hid htl
    have HW0 := Lib.hid (And.intro hC (And.intro hN (And.intro hW d1)))
    have HIC := Lib.hid hIc
    have HCW := Lib.hid hcw
    have HO := Lib.hid hO
    have HR := Lib.hid hR
    have HQQ := Lib.hid (And.intro hq1 hq2)
    have hnx : (n : Int) ≤ 5 := by omega
    have hqx : (Q.length : Int) ≤ 5 := by omega
    have hox : (L.length : Int) ≤ 5000 := by have := HLE.out; omega
    have hcell : ∀ W, Rst w0 bC bN bW W → W.cell? ⟨bC, 0, none⟩ = some (.slice (some ⟨bb, off, none⟩) Q.length cc) ∧ W.cell? ⟨bN, 0, none⟩ = some (.int .i64 n) ∧ W.cell? ⟨bW, 0, none⟩ = some (.int .i64 D) ∧ W.cell? ⟨bb, off + b.length, none⟩ = some (.slice l2 D lc2) := fun W h =>
      ⟨(RowKit.Below.cell h.low (p := ⟨bC, 0, none⟩) (World.block_lt_of_cell? _ _ hC)).trans hC, (RowKit.Below.cell h.low (p := ⟨bN, 0, none⟩) (World.block_lt_of_cell? _ _ hN)).trans hN, (RowKit.Below.cell h.low (p := ⟨bW, 0, none⟩) (World.block_lt_of_cell? _ _ hW)).trans hW, (RowKit.Below.cell h.low (p := ⟨bb, off + b.length, none⟩) hbb).trans d1⟩
    have HCELL := Lib.hid hcell
    obtain ⟨c1, c2, _, _⟩ := hcell w hR
    clear hcell ih hl hb hO hR hL hC hN hW hw hLa d1 hIc hcw htl htw hq1 hq2 hbb hct
    show Calls Try.prog 52 #[.slice la b.length lc, .pointer (some ⟨bC, 0, none⟩), .pointer (some ⟨w0.heap.size, 0, none⟩), .pointer (some ⟨bN, 0, none⟩), .pointer (some ⟨bW, 0, none⟩), .pointer (some ⟨w0.heap.size + 1, 0, none⟩)] w _
    go_enter Try.func52, Try.ntmps52
    go_wp2_with fail
    refine HFT.out.mono ?_
    rintro _ w1 ⟨v, rfl, hFl, F⟩
    obtain ⟨l3, c3, rfl, _, _, _⟩ := hFl.listsC
    have HFK := Lib.hid (hFl.base (B' := w0.heap.size + 2) HR.out.sz)
    have HR1 := Lib.hid (HR.out.fut F)
    have HO1 := Lib.hid (HO.out.fut F)
    have HB0 : Hid (But (fun k => k = w0.heap.size) w w1) := Lib.hid (But.of_below F)
    clear hFl F HFT c1 c2 HR HO
    go_wp2_with fail
    go_loopw [25] (fun kv wr => ∃ k : Nat, k ≤ L.length ∧ kv = .int .i64 k ∧ Hid ((L.drop k).findSome? FF = G) ∧ Hid (Rst w0 bC bN bW wr) ∧ Hid (But (fun k => k = w0.heap.size) w1 wr)) (fun kv _ => L.length - (intOf kv).toNat)
    case atStart => exact ⟨0, Nat.zero_le _, rfl, HG0, HR1, Lib.hid (But.refl _ _)⟩
    case round =>
      obtain ⟨k, hkl, rfl, HG, HRk, HBk⟩ := hrel
      clear HR1
      obtain ⟨wo, hwo⟩ : ∃ wo, wo = wr := ⟨_, rfl⟩
      subst hwo
      have HFk := Lib.hid (HFK.out.but HBk.out (fun q hq => by omega))
      have HOk := Lib.hid (HO1.out.but HBk.out (fun q hq => by omega))
      by_cases hlt : k < L.length
      · have hkx : (k : Int) < L.length := by omega
        have hgs := HG.out
        rw [fs_step hlt, HF0.out] at hgs
        have HGS := Lib.hid hgs
        obtain ⟨g', c', rl, rc, e', hgs', hcell, hOr⟩ := HFk.out.at k hlt
        simp only [Value.slice.injEq, true_and] at e'
        obtain ⟨rfl, rfl⟩ := e'
        have hrl := HLN.out (lth L k) (by rw [lth_eq, List.getElem?_eq_getElem hlt]; exact List.getElem_mem _)
        rw [hrl] at hcell hOr
        generalize lth L k = r at *
        have HRL := Lib.hid hrl
        have HOR := Lib.hid hOr
        obtain ⟨a', cap', e', q1, q2, hIr⟩ := hOr.form
        rw [hrl] at e' q1
        simp only [Value.slice.injEq, true_and] at e'
        obtain ⟨rfl, rfl⟩ := e'
        obtain ⟨rb, ro, er, hrb, hcr⟩ := hIr 0 (by omega)
        subst er
        have hst := fun W => slice_to28 rb ro n rc D (by omega) W
        obtain ⟨c1, c2, c4, c5⟩ := HCELL.out wo HRk.out
        have HEQ := Lib.hid (fun p : After wo => equal_any (some ⟨rb, ro, none⟩) l2 rc lc2 (r.take D) c p.w' (by rw [List.length_take]; omega) ((hIr.take D).fut p.F) ((HIC.out.fut HRk.out.low).fut p.F))
        have htk : (r.take D).length = D := by rw [List.length_take]; omega
        rw [htk, HCW.out] at HEQ
        have hg0 := good_zero c t r
        have HGZ := Lib.hid hg0
        rw [HCW.out] at hg0
        rw [← hg0] at HEQ
        have HIR := Lib.hid hIr
        clear hgs hgs' hrl hOr q1 q2 hIr hrb hcr htk hg0
        go_wp2_with fail
        have b1 := cell_after c1
        have b4 := cell_after c4
        have b5 := cell_after c5
        have hdx : (D : Int) ≤ 5 := by omega
        refine region_fut (by kernel_rfl) (by kernel_rfl) ?_
        repeat (go_big_quiet_step (first | (go_at_call 53; rename_i p; exact after_of (HEQ.out p))))
        refine wpQuiet_nil ?_
        intro wj hw'
        have hF10 := after_fut hw'
        have HRj := Lib.hid (HRk.out.fut hF10)
        have HIRj := Lib.hid (HIR.out.fut hF10)
        have HBw := Lib.hid (HBk.out.trans (But.of_below hF10))
        have HOj := Lib.hid (HOk.out.fut hF10)
        have HORj := Lib.hid (HOR.out.fut hF10)
        clear hw' b1 b4 b5 c1 c2 c4 c5 hF10 HEQ hst HIR hcell HRk HOR HOk
        obtain ⟨c1, c2, c4, c5⟩ := HCELL.out wj HRj.out
        have HLT := Lib.hid (HDR.out wj HRj.out.low)
        have hsf2 := hsf
        rw [← HTL.out] at hsf2
        clear hsf
        go_wp2_with fail
        go_loopw [10, 44] (fun gv jv wx => ∃ j : Nat, j ≤ t.length ∧ gv = .bool (goodR c (t.take j) r) ∧ jv = .int .i64 j ∧ wx = wj) (fun _ jv _ => t.length - (intOf jv).toNat)
        case atStart => exact ⟨0, Nat.zero_le _, rfl, rfl, rfl⟩
        case round =>
          obtain ⟨j, hjl, rfl, rfl, rfl⟩ := hrel
          have htx : (t.length : Int) ≤ 5 := by have := HTL.out; omega
          by_cases hjt : j < t.length
          · have hjx : (j : Int) < t.length := by omega
            obtain ⟨b3, o3, l4, lc4, e4, _, d4, _, _, hI4⟩ := HLT.out j hjt
            simp only [Option.some.injEq, Addr.mk.injEq, and_true] at e4
            obtain ⟨rfl, rfl⟩ := e4
            have htw := HTW.out j hjt
            have hga := gJK_all c t r j hjt
            rw [htw] at d4 hga
            have HGA := Lib.hid hga
            have HI4 := Lib.hid hI4
            have HWJ := Lib.hid htw
            clear hga hI4 htw
            go_wp2_with fail
            go_loopw [10, 50] (fun gv dv wx => ∃ d : Nat, d ≤ D ∧ gv = .bool (gJK c t r j d) ∧ dv = .int .i64 d ∧ wx = wr) (fun _ dv _ => D - (intOf dv).toNat)
            case atStart => exact ⟨0, Nat.zero_le _, by rw [gJK_zero], rfl, rfl⟩
            case round =>
              obtain ⟨d, hdD, rfl, rfl, rfl⟩ := hrel
              by_cases hdl : d < D
              · have hdx : (d : Int) < D := by omega
                have hdn : (d : Int) < n := by omega
                have HG5 := Lib.hid (gJK_succ c t r j d)
                obtain ⟨b6, o6, e6, _, d6⟩ := HI4.out d (by rw [HWJ.out]; exact hdl)
                subst e6
                obtain ⟨b7, o7, e7, _, d7⟩ := HIRj.out d (by rw [HRL.out]; omega)
                simp only [Option.some.injEq, Addr.mk.injEq, and_true] at e7
                obtain ⟨rfl, rfl⟩ := e7
                generalize nth (lth t j) d = y at *
                generalize nth r d = x at *
                cases hg : gJK c t r j d
                · rw [hg, Bool.false_and] at HG5
                  clear hg
                  go_wp2
                  go_round
                  case rel => exact ⟨d + 1, by omega, by rw [HG5.out], by go_num, by first | rfl | trivial⟩
                  case measure => simp [intOf]; omega
                · rw [hg, Bool.true_and] at HG5
                  clear hg
                  by_cases hxy : x = y
                  · have hne2 : (x != y) = false := by simpa using hxy
                    have HG6 : Hid (gJK c t r j (d + 1) = false) := Lib.hid (by rw [HG5.out]; simpa using hxy)
                    rw [hxy] at d7
                    clear hxy hne2
                    go_wp2
                    go_round
                    case rel => exact ⟨d + 1, by omega, by rw [HG6.out], by go_num, by first | rfl | trivial⟩
                    case measure => simp [intOf]; omega
                  · have hne2 : (x != y) = true := by simpa using hxy
                    have HG6 : Hid (gJK c t r j (d + 1) = true) := Lib.hid (by rw [HG5.out]; simpa using hxy)
                    go_wp2
                    go_round
                    case rel => exact ⟨d + 1, by omega, by rw [HG6.out], by go_num, by first | rfl | trivial⟩
                    case measure => simp [intOf]; omega
              · obtain rfl : d = D := by omega
                rw [HGA.out]
                go_wp2
                go_round
                case rel => exact ⟨j + 1, by omega, rfl, by go_num, by first | rfl | trivial⟩
                case measure => simp [intOf]; omega
          · obtain rfl : j = t.length := by omega
            rw [good_all]
            obtain ⟨wj, hwj⟩ : ∃ wj, wj = wr := ⟨_, rfl⟩
            subst hwj
            clear HLT hsf2 c1 c2 c4 c5
            cases hg : goodR c t r
            · rw [hg] at HGS
              have HGN : Hid ((L.drop (k + 1)).findSome? FF = G) := HGS
              go_wp2_with fail
              refine region_fut (by kernel_rfl) (by kernel_rfl) ?_
              repeat (go_big_quiet_step (fail))
              refine wpQuiet_nil ?_
              intro w10 hw'
              have HF10 := Lib.hid (after_fut hw')
              clear hw'
              go_wp2
              go_roundw
              case rel =>
                have HR3 := Lib.hid (HRj.out.fut HF10.out)
                have HR4 := Lib.hid (HBw.out.trans (But.of_below HF10.out))
                exact ⟨k + 1, by omega, by go_num, HGN, HR3, HR4⟩
              case measure => simp [intOf]; omega
            · rw [hg, if_pos rfl] at HGS
              clear hg
              obtain ⟨vals, hrow, hel⟩ := HOj.out
              have HIA : Hid (∀ (g cg : Nat) (w1 : World) (B : Nat), Fut wj w1 → wj.heap.size ≤ B → w1.ownsRow B 28 1 (.slice (some ⟨g, 0, none⟩) (b.length + 1) cg) (b.length + 1) (vals ++ [.slice (some ⟨rb, ro, none⟩) n rc]) →
                  Calls Try.prog 52 #[.slice (some ⟨g, 0, none⟩) (b.length + 1) cg, .pointer (some ⟨bC, 0, none⟩), .pointer (some ⟨w0.heap.size, 0, none⟩), .pointer (some ⟨bN, 0, none⟩), .pointer (some ⟨bW, 0, none⟩), .pointer (some ⟨w0.heap.size + 1, 0, none⟩)] w1 (RyP w0 bC bN bW (ryR n t (b ++ [r])) w1)) := Lib.hid (fun g cg w1 B F hB hown => by
                have hE : Elems wj (w0.heap.size + 2) (vals ++ [.slice (some ⟨rb, ro, none⟩) n rc]) (b ++ [r]) := Elems.app hel HORj.out (World.ownsRow_nil wj (w0.heap.size + 2) 28 1) ⟨rfl, rfl, rfl, Nat.le_refl _, fun _ _ _ => rfl⟩
                refine HIHr.out r HRL.out w1 g cg ⟨_, ?_, hE.fut F⟩ (HRj.out.fut F)
                have h6 : w1.ownsRow B 28 1 (.slice (some ⟨g, 0, none⟩) (b.length + 1) cg) (b ++ [r]).length (vals ++ [.slice (some ⟨rb, ro, none⟩) n rc]) := by simpa using hown
                refine ⟨h6.1, ?_⟩
                rcases h6.2 with h7 | ⟨g2, cap, cur, h7, h8, h9⟩
                · exact .inl h7
                · exact .inr ⟨g2, cap, cur, h7, by have := HRj.out.sz; omega, h9⟩)
              have HNF : Hid (∀ (W : World) (B : Nat) (v : Value), W.ownsRow B 28 1 v (b.length + 1) (vals ++ [.slice (some ⟨rb, ro, none⟩) n rc]) → ∃ g cg, v = .slice (some ⟨g, 0, none⟩) (b.length + 1) cg) := Lib.hid (fun W B v hv => by
                obtain ⟨g, cg, e, _⟩ := hv.form (by omega)
                exact ⟨g, cg, e⟩)
              have hbf : w0.heap.size + 1 < wj.heap.size := by have := HRj.out.sz; omega
              have hpp := HRj.out.f
              have HROW := Lib.hid hrow
              have hvl : vals.length = b.length := by have := hrow.1; omega
              have hbl5 : b.length ≤ 5 := by omega
              clear hel hrow HIHr HORj HIRj HGZ HRL HF0 HTW HTL HDR
              generalize ryR n t (b ++ [r]) = RR at *
              cases RR with
              | none =>
                have HGN : Hid ((L.drop (k + 1)).findSome? FF = G) := HGS
                have HCALL : Hid (∀ (g cg : Nat) (w1 : World) (B : Nat), Fut wj w1 → wj.heap.size ≤ B → w1.ownsRow B 28 1 (.slice (some ⟨g, 0, none⟩) (b.length + 1) cg) (b.length + 1) (vals ++ [.slice (some ⟨rb, ro, none⟩) n rc]) →
                    Calls Try.prog 52 #[.slice (some ⟨g, 0, none⟩) (b.length + 1) cg, .pointer (some ⟨bC, 0, none⟩), .pointer (some ⟨w0.heap.size, 0, none⟩), .pointer (some ⟨bN, 0, none⟩), .pointer (some ⟨bW, 0, none⟩), .pointer (some ⟨w0.heap.size + 1, 0, none⟩)] w1 (fun e w' => e = .returned (.bool false) ∧ Rst w0 bC bN bW w' ∧ But (fun k => k = w0.heap.size) w1 w' ∧ ∀ z, (none : Option (List (List Int))) = some z → ∃ v, w'.cell? ⟨w0.heap.size, 0, none⟩ = some v ∧ OwnL w' (w0.heap.size + 2) v z)) := HIA
                clear HIA HGS
                cases la with
                | none =>
                  have h0 : b = [] ∧ lc = 0 ∧ vals = [] := by
                    rcases HROW.out.2 with ⟨e, e2⟩ | ⟨g, cap, cur, e, _⟩
                    · injection e with _ e3 e4
                      exact ⟨List.eq_nil_of_length_eq_zero e3, e4, List.eq_nil_of_length_eq_zero (by rw [hvl]; exact e3)⟩
                    · cases e
                  obtain ⟨rfl, rfl, rfl⟩ := h0
                  go_wp2_with fail
                  go_region_held3 (fun w' => w'.cell? ⟨w0.heap.size + 1, 0, none⟩ = some (.func (.func 52) #[] (putR bC w0.heap.size bN bW))) (first | go_keep | exact hpp3 | exact hpp1)
                    (first
                      | (refine step_if (by rfl) ?_; refine step_append_grows (by rfl) _ _ _ (by rfl) 28 i1 (.slice none 0 0) 1 24 Try.underlying22 hi1 hy0 hy1 hy2 rfl (by omega) none 0 0 [] (by rfl) (fun _ => ⟨rfl, rfl⟩) (by rfl) (fun b h => by cases h) ⟨wj.heap.size, 0, none⟩ 1 1 [.slice (some ⟨rb, ro, none⟩) n rc] (by rfl) (by rfl) (World.news_of_block (cs := #[.slice (some ⟨rb, ro, none⟩) n rc]) (t := 28) (fr := (0, 0)) (heap_alloc_new wj _)) (by simp [Value.oneCell']) (by omega) (by unfold maxLen; omega) (by omega) ?_; intro v' w1 hown1 hgrow; obtain ⟨g, cg, rfl⟩ := HNF.out _ _ _ hown1; have hF1 : Fut wj w1 := RowKit.Below.grown (below_drewN (Fut.alloc wj (.cells #[.slice (some ⟨rb, ro, none⟩) n rc] 28)) 1) hgrow (by simp) (fun i hi => by cases hi); have hpp1 : w1.cell? ⟨w0.heap.size + 1, 0, none⟩ = some (.func (.func 52) #[] (putR bC w0.heap.size bN bW)) := (RowKit.Below.cell hF1 (p := ⟨w0.heap.size + 1, 0, none⟩) hbf).trans hpp)
                      | (go_at_call 52; refine (HCALL.out g cg w1 _ hF1 (by simp) hown1).mono ?_; rintro _ w3 ⟨rfl, hA3, hB3, hZ3⟩; have hpp3 : w3.cell? ⟨w0.heap.size + 1, 0, none⟩ = some (.func (.func 52) #[] (putR bC w0.heap.size bN bW)) := hA3.f))
                  have HB3 := Lib.hid ((But.of_below (Z := fun k => k = w0.heap.size) hF1).trans hB3)
                  have HA3 := Lib.hid hA3
                  have HZ3 := Lib.hid hZ3
                  clear hown1 hgrow hpp1 hpp3 hA3 hB3 hZ3 hpp hF1
                  go_wp2
                  go_roundw
                  case rel =>
                    have HR4 := Lib.hid (HBw.out.trans HB3.out)
                    first
                    | exact ⟨k + 1, by omega, by go_num, HGN, HA3, HR4⟩
                    | ((repeat apply Exists.intro); exact ⟨⟨k + 1, by omega, by go_num, HGN, HA3, HR4⟩, rfl⟩)
                  case measure => simp [intOf]; omega
                | some ad =>
                  obtain ⟨bb2, ob, spot⟩ := ad
                  have hspot : spot = none ∧ ob = 0 ∧ b.length ≤ lc ∧ lc ≤ maxLen := by
                    rcases HROW.out.2 with ⟨e, e2⟩ | ⟨g, cap, cur, e, _, _, hnc, hcm, _⟩
                    · cases e
                    · injection e with e1 e3 e4
                      injection e1 with e1
                      injection e1 with e5 e6 e7
                      exact ⟨e7, e6, by omega, by omega⟩
                  obtain ⟨rfl, rfl, hlc, hlm⟩ := hspot
                  have hlcx : (b.length : Int) ≤ lc := by omega
                  have HOLD2 : Hid (∀ j u, vals[j]? = some u → ((wj.alloc (.cells #[.slice (some ⟨rb, ro, none⟩) n rc] 28)).drew).cell? ((⟨bb2, 0, none⟩ : Addr).add j) = some u) := Lib.hid (fun j u hu => by
                    have h5 := World.ownsRow.cells HROW.out (g := bb2) rfl j u hu
                    rw [Addr.add_lit] at h5 ⊢
                    exact (RowKit.Below.cell (below_drewN (Fut.alloc wj (.cells #[.slice (some ⟨rb, ro, none⟩) n rc] 28)) 1) (World.block_lt_of_cell? _ _ h5)).trans h5)
                  go_wp2_with fail
                  go_region_held3 (fun w' => w'.cell? ⟨w0.heap.size + 1, 0, none⟩ = some (.func (.func 52) #[] (putR bC w0.heap.size bN bW))) (first | go_keep | exact hpp3 | exact hpp1)
                    (first
                      | (refine step_if (by rfl) ?_; refine step_append_grows (by rfl) _ _ _ (by rfl) 28 i1 (.slice none 0 0) 1 24 Try.underlying22 hi1 hy0 hy1 hy2 rfl (by omega) (some ⟨bb2, 0, none⟩) b.length b.length vals (by rfl) (fun h => by cases h) (by rw [hvl, Nat.mul_one]) (fun b h => by injection h with h; subst h; exact HOLD2.out) ⟨wj.heap.size, 0, none⟩ 1 1 [.slice (some ⟨rb, ro, none⟩) n rc] (by rfl) (by rfl) (World.news_of_block (cs := #[.slice (some ⟨rb, ro, none⟩) n rc]) (t := 28) (fr := (0, 0)) (heap_alloc_new wj _)) (by simp [Value.oneCell']) (by omega) (by unfold maxLen; omega) (by omega) ?_; intro v' w1 hown1 hgrow; obtain ⟨g, cg, rfl⟩ := HNF.out _ _ _ hown1; have hF1 : Fut wj w1 := RowKit.Below.grown (below_drewN (Fut.alloc wj (.cells #[.slice (some ⟨rb, ro, none⟩) n rc] 28)) 1) hgrow (by simp) (fun i hi => by cases hi); have hpp1 : w1.cell? ⟨w0.heap.size + 1, 0, none⟩ = some (.func (.func 52) #[] (putR bC w0.heap.size bN bW)) := (RowKit.Below.cell hF1 (p := ⟨w0.heap.size + 1, 0, none⟩) hbf).trans hpp)
                      | (go_at_call 52; refine (HCALL.out g cg w1 _ hF1 (by simp) hown1).mono ?_; rintro _ w3 ⟨rfl, hA3, hB3, hZ3⟩; have hpp3 : w3.cell? ⟨w0.heap.size + 1, 0, none⟩ = some (.func (.func 52) #[] (putR bC w0.heap.size bN bW)) := hA3.f))
                  have HB3 := Lib.hid ((But.of_below (Z := fun k => k = w0.heap.size) hF1).trans hB3)
                  have HA3 := Lib.hid hA3
                  have HZ3 := Lib.hid hZ3
                  clear hown1 hgrow hpp1 hpp3 hA3 hB3 hZ3 hpp hF1
                  go_wp2
                  go_roundw
                  case rel =>
                    have HR4 := Lib.hid (HBw.out.trans HB3.out)
                    first
                    | exact ⟨k + 1, by omega, by go_num, HGN, HA3, HR4⟩
                    | ((repeat apply Exists.intro); exact ⟨⟨k + 1, by omega, by go_num, HGN, HA3, HR4⟩, rfl⟩)
                  case measure => simp [intOf]; omega
              | some z =>
                have HGN : Hid (some z = G) := HGS
                have HCALL : Hid (∀ (g cg : Nat) (w1 : World) (B : Nat), Fut wj w1 → wj.heap.size ≤ B → w1.ownsRow B 28 1 (.slice (some ⟨g, 0, none⟩) (b.length + 1) cg) (b.length + 1) (vals ++ [.slice (some ⟨rb, ro, none⟩) n rc]) →
                    Calls Try.prog 52 #[.slice (some ⟨g, 0, none⟩) (b.length + 1) cg, .pointer (some ⟨bC, 0, none⟩), .pointer (some ⟨w0.heap.size, 0, none⟩), .pointer (some ⟨bN, 0, none⟩), .pointer (some ⟨bW, 0, none⟩), .pointer (some ⟨w0.heap.size + 1, 0, none⟩)] w1 (fun e w' => e = .returned (.bool true) ∧ Rst w0 bC bN bW w' ∧ But (fun k => k = w0.heap.size) w1 w' ∧ ∀ z', some z = some z' → ∃ v, w'.cell? ⟨w0.heap.size, 0, none⟩ = some v ∧ OwnL w' (w0.heap.size + 2) v z')) := HIA
                clear HIA HGS
                cases la with
                | none =>
                  have h0 : b = [] ∧ lc = 0 ∧ vals = [] := by
                    rcases HROW.out.2 with ⟨e, e2⟩ | ⟨g, cap, cur, e, _⟩
                    · injection e with _ e3 e4
                      exact ⟨List.eq_nil_of_length_eq_zero e3, e4, List.eq_nil_of_length_eq_zero (by rw [hvl]; exact e3)⟩
                    · cases e
                  obtain ⟨rfl, rfl, rfl⟩ := h0
                  go_wp2_with fail
                  go_region_held3 (fun w' => w'.cell? ⟨w0.heap.size + 1, 0, none⟩ = some (.func (.func 52) #[] (putR bC w0.heap.size bN bW))) (first | go_keep | exact hpp3 | exact hpp1)
                    (first
                      | (refine step_if (by rfl) ?_; refine step_append_grows (by rfl) _ _ _ (by rfl) 28 i1 (.slice none 0 0) 1 24 Try.underlying22 hi1 hy0 hy1 hy2 rfl (by omega) none 0 0 [] (by rfl) (fun _ => ⟨rfl, rfl⟩) (by rfl) (fun b h => by cases h) ⟨wj.heap.size, 0, none⟩ 1 1 [.slice (some ⟨rb, ro, none⟩) n rc] (by rfl) (by rfl) (World.news_of_block (cs := #[.slice (some ⟨rb, ro, none⟩) n rc]) (t := 28) (fr := (0, 0)) (heap_alloc_new wj _)) (by simp [Value.oneCell']) (by omega) (by unfold maxLen; omega) (by omega) ?_; intro v' w1 hown1 hgrow; obtain ⟨g, cg, rfl⟩ := HNF.out _ _ _ hown1; have hF1 : Fut wj w1 := RowKit.Below.grown (below_drewN (Fut.alloc wj (.cells #[.slice (some ⟨rb, ro, none⟩) n rc] 28)) 1) hgrow (by simp) (fun i hi => by cases hi); have hpp1 : w1.cell? ⟨w0.heap.size + 1, 0, none⟩ = some (.func (.func 52) #[] (putR bC w0.heap.size bN bW)) := (RowKit.Below.cell hF1 (p := ⟨w0.heap.size + 1, 0, none⟩) hbf).trans hpp)
                      | (go_at_call 52; refine (HCALL.out g cg w1 _ hF1 (by simp) hown1).mono ?_; rintro _ w3 ⟨rfl, hA3, hB3, hZ3⟩; have hpp3 : w3.cell? ⟨w0.heap.size + 1, 0, none⟩ = some (.func (.func 52) #[] (putR bC w0.heap.size bN bW)) := hA3.f))
                  have HB3 := Lib.hid ((But.of_below (Z := fun k => k = w0.heap.size) hF1).trans hB3)
                  have HA3 := Lib.hid hA3
                  have HZ3 := Lib.hid hZ3
                  clear hown1 hgrow hpp1 hpp3 hA3 hB3 hZ3 hpp hF1
                  have hgz := HGN.out
                  subst hgz
                  go_wp2
                  go_ret
                  exact ⟨rfl, HA3.out, HB0.out.trans (HBw.out.trans HB3.out), HZ3.out⟩
                | some ad =>
                  obtain ⟨bb2, ob, spot⟩ := ad
                  have hspot : spot = none ∧ ob = 0 ∧ b.length ≤ lc ∧ lc ≤ maxLen := by
                    rcases HROW.out.2 with ⟨e, e2⟩ | ⟨g, cap, cur, e, _, _, hnc, hcm, _⟩
                    · cases e
                    · injection e with e1 e3 e4
                      injection e1 with e1
                      injection e1 with e5 e6 e7
                      exact ⟨e7, e6, by omega, by omega⟩
                  obtain ⟨rfl, rfl, hlc, hlm⟩ := hspot
                  have hlcx : (b.length : Int) ≤ lc := by omega
                  have HOLD2 : Hid (∀ j u, vals[j]? = some u → ((wj.alloc (.cells #[.slice (some ⟨rb, ro, none⟩) n rc] 28)).drew).cell? ((⟨bb2, 0, none⟩ : Addr).add j) = some u) := Lib.hid (fun j u hu => by
                    have h5 := World.ownsRow.cells HROW.out (g := bb2) rfl j u hu
                    rw [Addr.add_lit] at h5 ⊢
                    exact (RowKit.Below.cell (below_drewN (Fut.alloc wj (.cells #[.slice (some ⟨rb, ro, none⟩) n rc] 28)) 1) (World.block_lt_of_cell? _ _ h5)).trans h5)
                  go_wp2_with fail
                  go_region_held3 (fun w' => w'.cell? ⟨w0.heap.size + 1, 0, none⟩ = some (.func (.func 52) #[] (putR bC w0.heap.size bN bW))) (first | go_keep | exact hpp3 | exact hpp1)
                    (first
                      | (refine step_if (by rfl) ?_; refine step_append_grows (by rfl) _ _ _ (by rfl) 28 i1 (.slice none 0 0) 1 24 Try.underlying22 hi1 hy0 hy1 hy2 rfl (by omega) (some ⟨bb2, 0, none⟩) b.length b.length vals (by rfl) (fun h => by cases h) (by rw [hvl, Nat.mul_one]) (fun b h => by injection h with h; subst h; exact HOLD2.out) ⟨wj.heap.size, 0, none⟩ 1 1 [.slice (some ⟨rb, ro, none⟩) n rc] (by rfl) (by rfl) (World.news_of_block (cs := #[.slice (some ⟨rb, ro, none⟩) n rc]) (t := 28) (fr := (0, 0)) (heap_alloc_new wj _)) (by simp [Value.oneCell']) (by omega) (by unfold maxLen; omega) (by omega) ?_; intro v' w1 hown1 hgrow; obtain ⟨g, cg, rfl⟩ := HNF.out _ _ _ hown1; have hF1 : Fut wj w1 := RowKit.Below.grown (below_drewN (Fut.alloc wj (.cells #[.slice (some ⟨rb, ro, none⟩) n rc] 28)) 1) hgrow (by simp) (fun i hi => by cases hi); have hpp1 : w1.cell? ⟨w0.heap.size + 1, 0, none⟩ = some (.func (.func 52) #[] (putR bC w0.heap.size bN bW)) := (RowKit.Below.cell hF1 (p := ⟨w0.heap.size + 1, 0, none⟩) hbf).trans hpp)
                      | (go_at_call 52; refine (HCALL.out g cg w1 _ hF1 (by simp) hown1).mono ?_; rintro _ w3 ⟨rfl, hA3, hB3, hZ3⟩; have hpp3 : w3.cell? ⟨w0.heap.size + 1, 0, none⟩ = some (.func (.func 52) #[] (putR bC w0.heap.size bN bW)) := hA3.f))
                  have HB3 := Lib.hid ((But.of_below (Z := fun k => k = w0.heap.size) hF1).trans hB3)
                  have HA3 := Lib.hid hA3
                  have HZ3 := Lib.hid hZ3
                  clear hown1 hgrow hpp1 hpp3 hA3 hB3 hZ3 hpp hF1
                  have hgz := HGN.out
                  subst hgz
                  go_wp2
                  go_ret
                  exact ⟨rfl, HA3.out, HB0.out.trans (HBw.out.trans HB3.out), HZ3.out⟩
      · obtain rfl : k = L.length := by omega
        have hg := HG.out
        rw [List.drop_length] at hg
        have hg : none = G := hg
        subst hg
        go_wp2
        go_ret
        exact ⟨rfl, HRk.out, HB0.out.trans HBk.out, fun z hz => by cases hz⟩
end Go.Proofs.Ytpgifeaejjjjnaa
