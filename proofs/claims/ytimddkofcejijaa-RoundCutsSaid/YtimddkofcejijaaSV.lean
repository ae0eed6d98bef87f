/- Layer 2: the lists that are enough, by the reference. -/
import Derived.Test.YtimddkofcejijaaSU
namespace Go.Proofs.Ytimddkofcejijaa
open Go.RowKit Go.Sort
theorem OwnX.at {w : World} {B : Nat} {v : Value} {zss : List (List Int)} (h : OwnX w B v zss) {j : Nat} (hj : j < zss.length) :
    ∃ g c l lc, v = .slice (some ⟨g, 0, none⟩) zss.length c ∧ g < w.heap.size ∧ w.cell? ⟨g, j, none⟩ = some (.slice l (lth zss j).length lc) ∧ Owns w 0 (.slice l (lth zss j).length lc) (lth zss j) := by
  obtain ⟨g, c, vals, rfl, hl, hc, hE⟩ := h.take (by omega)
  obtain ⟨u, e, hu⟩ := hE.2 j hj
  obtain ⟨l, lc, rfl, _⟩ := hu.ints
  have hcj := hc j _ e
  rw [Addr.add_lit, Nat.zero_add] at hcj
  exact ⟨g, c, l, lc, rfl, World.block_lt_of_cell? _ _ hcj, hcj, hu⟩
theorem OwnX.nil (w : World) (B : Nat) : OwnX w B (.slice none 0 0) [] := ⟨[], World.ownsRow_nil _ _ _ _, rfl, fun j hj => absurd hj (by simp)⟩
theorem OwnX.base {w : World} {B B' : Nat} {v : Value} {zss : List (List Int)} (h : OwnX w B v zss) (hB : B' ≤ B) : OwnX w B' v zss := by
  obtain ⟨vals, ⟨h1, h2⟩, h3⟩ := h
  refine ⟨vals, ⟨h1, ?_⟩, h3⟩
  rcases h2 with h2 | ⟨g, cap, cur, k3, k4, k5⟩
  · exact .inl h2
  · exact .inr ⟨g, cap, cur, k3, by omega, k5⟩
theorem OwnX.len {w : World} {B : Nat} {v : Value} {zss : List (List Int)} (h : OwnX w B v zss) : ∃ a c, v = .slice a zss.length c := by
  obtain ⟨vals, h1, _⟩ := h
  rcases h1.2 with ⟨rfl, h0⟩ | ⟨g, cap, cur, rfl, _⟩
  · exact ⟨none, 0, by rw [h0]⟩
  · exact ⟨_, cap, rfl⟩
theorem lth_mem {zss : List (List Int)} {j : Nat} (hj : j < zss.length) : lth zss j ∈ zss := by
  rw [lth_eq, List.getElem?_eq_getElem hj]; exact List.getElem_mem hj
theorem allF_in {n : Nat} (hn : n ≤ 16) {l : List Int} (h : l ∈ allF n 0) : (∀ z ∈ l, 0 ≤ z) ∧ l.length ≤ 16 := by
  rw [(allF_zero n hn).mem_iff, List.mem_map] at h
  obtain ⟨s, _, rfl⟩ := h
  refine ⟨fun z hz => ?_, list_le s⟩
  obtain ⟨i, _, _, rfl⟩ := listM_mem.1 hz
  omega
theorem enough_pre {ss : List (Int × Int)} {n : Nat} (hp : ∀ p ∈ ss, 0 ≤ p.1 ∧ p.1 < p.2 ∧ p.2 < (n : Int)) (S : Nat) : enoughB ss S = true ↔ (preM (oddM ss (2 ^ ss.length - 1) ^^^ oddM ss S) n).length = 0 := by
  have h1 := odd_small (n := n) hp (2 ^ ss.length - 1)
  have h2 := odd_small (n := n) hp S
  unfold enoughB
  rw [beq_iff_eq, preM_nil]
  constructor
  · intro e i _; rw [e, Nat.xor_self, Nat.zero_testBit]
  · intro e
    refine Nat.eq_of_testBit_eq fun i => ?_
    rcases Nat.lt_or_ge i n with hi | hi
    · have := e i hi
      rw [Nat.testBit_xor] at this
      revert this
      cases (oddM ss (2 ^ ss.length - 1)).testBit i <;> cases (oddM ss S).testBit i <;> simp
    · rw [Nat.testBit_lt_two_pow (Nat.lt_of_lt_of_le h1 (Nat.pow_le_pow_right (by decide) hi)), Nat.testBit_lt_two_pow (Nat.lt_of_lt_of_le h2 (Nat.pow_le_pow_right (by decide) hi))]
theorem take_lth (zss : List (List Int)) (k : Nat) (h : k < zss.length) : zss.take (k + 1) = zss.take k ++ [lth zss k] := by
  rw [List.take_add_one, lth_eq, List.getElem?_eq_getElem h]; rfl
set_option maxRecDepth 100000 in
set_option maxHeartbeats 4000000 in
/-- the lists that are enough. -/
theorem enoughL_any (n : Nat) (a : Option Addr) (cap : Nat) (ss : List (Int × Int)) (w : World) (hS : StrAt w a ss) (hl : ss.length ≤ 9) (hn : n ≤ 6) (hp : ∀ p ∈ ss, 0 ≤ p.1 ∧ p.1 < p.2 ∧ p.2 < (n : Int)) :
    Calls Try.prog 67 #[mapV n a ss.length cap] w fun e w' => ∃ v, e = .returned v ∧ OwnX w' w.heap.size v (enL ss) ∧ Fut w w' := by
  have HS := Lib.hid hS
  have HLI := Lib.hid (fun W => lists_own ss.length ss.length 0 none 0 [] W hl (by omega) (by simp) (Or.inl ⟨rfl, rfl, rfl, rfl⟩) (Owns.nil W 0))
  have hid : (allF ss.length 0).map ([] ++ ·) = allF ss.length 0 := List.map_id' _
  rw [hid] at HLI
  have HIN := Lib.hid (fun (j : Nat) (hj : j < (allF ss.length 0).length) => allF_in (by omega) (lth_mem hj))
  have HPR := Lib.hid (fun S => enough_pre (ss := ss) (n := n) hp S)
  have HEN : Hid (enL ss = (allF ss.length 0).filter fun l => enoughB ss (setM l)) := Lib.hid rfl
  have HOD := Lib.hid (fun (l : Option Addr) (lc : Nat) (zs : List Int) W (F : Fut w W) (hI : IntsAt W l zs) (h16 : zs.length ≤ 16) (h0 : ∀ z ∈ zs, 0 ≤ z) => oddR_any n a cap ss l lc zs (setM zs) W (hS.fut F) hI (by omega) hl hn (fun p hq => ⟨(hp p hq).1, (hp p hq).2.1⟩) (fun i _ => by unfold setM; rw [setL_bit _ 0 i h0, Nat.zero_testBit, Bool.false_or]))
  have hal : (allF ss.length 0).length ≤ 512 := by
    rw [allF_len]
    exact Nat.le_trans (Nat.pow_le_pow_right (by decide) hl) (by decide)
  have hpos : 0 < (allF ss.length 0).length := by rw [allF_len]; exact Nat.two_pow_pos _
  obtain ⟨i1, hi1, hy0, hy1, hy2⟩ := info_parts info25
  have hlx : (ss.length : Int) ≤ 9 := by omega
  clear hS hid hp
  generalize allF ss.length 0 = L at *
  generalize enL ss = EN at *
  go_enter Try.func67, Try.ntmps67
  go_wp2_with fail
  have hB := BoxM.new w n a ss.length cap 28
  have hF : Fut w (w.alloc (.cells #[.int .i64 n, .slice a ss.length cap] 28)) := Fut.alloc _ _
  generalize w.alloc (.cells #[.int .i64 n, .slice a ss.length cap] 28) = W1 at *
  generalize hbw : w.heap.size = B at *
  have HB := Lib.hid hB
  have HF := Lib.hid hF
  clear hB hF
  refine (HLI.out _).mono ?_
  rintro _ w2 ⟨v2, rfl, hX2, F2⟩
  have HX2 := Lib.hid hX2
  have HF2 := Lib.hid (HF.out.trans F2)
  have HB2 := Lib.hid (HB.out.fut F2)
  obtain ⟨g2, c2, _, _, rfl, _⟩ := hX2.at hpos
  clear hX2 F2 HLI HB
  have hBW : B ≤ w2.heap.size := by have := RowKit.Below.size HF2.out; omega
  go_wp2_with fail
  go_loopw [3, 5] (fun ov iv wx => ∃ (k : Nat), k ≤ L.length ∧ iv = .int .i64 k ∧ Hid (OwnX wx w2.heap.size ov ((L.take k).filter fun l => enoughB ss (setM l))) ∧ Hid (Fut w2 wx)) (fun _ iv _ => L.length - (intOf iv).toNat)
  case atStart => exact ⟨0, Nat.zero_le _, rfl, Lib.hid (OwnX.nil _ _), Lib.hid Fut.rfl⟩
  case round =>
    obtain ⟨k, hk, rfl, HOX, HR⟩ := hrel
    obtain ⟨hb, b0, b1⟩ := HB2.out.fut HR.out
    by_cases hlt : k < L.length
    · have hkx : (k : Int) < L.length := by omega
      obtain ⟨g', c', l, lc, e, hg, hcell, hOl⟩ := (HX2.out.fut HR.out).at hlt
      simp only [Value.slice.injEq, Option.some.injEq, Addr.mk.injEq, and_true] at e
      obtain ⟨rfl, _, rfl⟩ := e
      have h1 := HIN.out k hlt
      have HTK := Lib.hid (take_lth L k hlt)
      have HOL := Lib.hid hOl
      obtain ⟨l', lc', e, hI⟩ := hOl.ints
      simp only [Value.slice.injEq] at e
      obtain ⟨rfl, _, rfl⟩ := e
      have HC := Lib.hid (fun W (F : Fut wr W) => HOD.out l lc (lth L k) W ((HF2.out.trans HR.out).trans F) (hI.fut F) h1.2 h1.1)
      have HPK := Lib.hid (HPR.out (setM (lth L k)))
      have hzl := h1.2
      have hpl := preM_len (oddM ss (2 ^ ss.length - 1) ^^^ oddM ss (setM (lth L k))) n
      have hfl : ((L.take k).filter fun l => enoughB ss (setM l)).length ≤ 512 := Nat.le_trans (List.length_filter_le _ _) (by rw [List.length_take]; omega)
      have HFS : Hid (((L.take (k + 1)).filter fun l => enoughB ss (setM l)) = ((L.take k).filter fun l => enoughB ss (setM l)) ++ (if enoughB ss (setM (lth L k)) then [lth L k] else [])) := Lib.hid (by
        rw [HTK.out, List.filter_append]
        refine congrArg _ ?_
        cases h : enoughB ss (setM (lth L k)) <;> simp [h])
      clear hOl hI h1 HTK
      generalize (L.take k).filter (fun l => enoughB ss (setM l)) = acc at *
      generalize preM (oddM ss (2 ^ ss.length - 1) ^^^ oddM ss (setM (lth L k))) n = PM at *
      generalize hzz : lth L k = zs at *
      clear hzz
      go_upto_region 6 with fail
      have HCW : Hid (∀ W, Fut wr W → Calls Try.prog 57 #[mapV n a ss.length cap, .slice l zs.length lc] W fun e w' => ∃ va vc, e = .returned (.slice va PM.length vc) ∧ Fut wr w' ∧ w'.cell? ⟨B, 0, none⟩ = some (.int .i64 n) ∧ w'.cell? ⟨B, 1, none⟩ = some (.slice a ss.length cap) ∧ w'.cell? ⟨g2, k, none⟩ = some (.slice l zs.length lc)) := Lib.hid (fun W F => (HC.out W F).mono fun e w' (h : ∃ v, e = .returned v ∧ Owns w' W.heap.size v PM ∧ Fut W w') => by
        obtain ⟨v, h1, h2, h3⟩ := h
        obtain ⟨va, vc, rfl, _⟩ := h2.ints
        have hF := F.trans h3
        obtain ⟨_, d0, d1⟩ := HB2.out.fut (HR.out.trans hF)
        exact ⟨va, vc, h1, hF, d0, d1, (RowKit.Below.cell hF (p := ⟨g2, k, none⟩) hg).trans hcell⟩)
      have HFD : Hid (Fut wr wr.drew) := Lib.hid (Fut.drewN wr 1)
      clear HC
      go_region_held3 (fun w' => w'.cell? ⟨B, 0, none⟩ = some (.int .i64 n) ∧ w'.cell? ⟨B, 1, none⟩ = some (.slice a ss.length cap) ∧ w'.cell? ⟨g2, k, none⟩ = some (.slice l zs.length lc)) (first | exact ⟨a0, a1, a2⟩ | exact ⟨by assumption, by assumption, by assumption⟩ | go_keep)
        (first
          | (go_at_call 57; (with_reducible refine (HCW.out _ HFD.out).mono ?_); rintro _ wa ⟨va, vc, rfl, Fa, a0, a1, a2⟩))
      have HRA := Lib.hid (HR.out.trans Fa)
      have HOA := Lib.hid (HOX.out.fut Fa)
      have HLA := Lib.hid (HOL.out.fut Fa)
      clear hb b0 b1 hcell hg HCW HOX HOL Fa
      by_cases hP : PM.length = 0
      · have hPx : ((PM.length : Int) == 0) = true := by rw [hP]; rfl
        have he := HPK.out.2 hP
        rw [he] at HFS
        simp only [if_true] at HFS
        clear HPK he hP
        obtain ⟨vals, hrow, hel⟩ := HOA.out
        obtain ⟨av, ac, rfl⟩ := HOA.out.len
        have HROW := Lib.hid hrow
        have HEL := Lib.hid hel
        have hsz := RowKit.Below.size HRA.out
        have HE1 : Hid (Elems wa 0 [.slice l zs.length lc] [zs]) := Lib.hid ⟨rfl, fun j hj => by
          obtain rfl : j = 0 := by simp at hj; exact hj
          exact ⟨_, rfl, HLA.out⟩⟩
        clear hrow hel HOA
        go_wp2_with (at_builtin; refine wpList_append_lies _ rfl _ _ 45 rfl w2.heap.size 25 i1 (.slice none 0 0) 1 24 Try.underlying45 hi1 hy0 hy1 hy2 rfl (by decide) _ acc.length vals rfl (World.ownsRow.alloc HROW.out _) ⟨wa.heap.size, 0, none⟩ 1 1 [.slice l zs.length lc] rfl rfl (cell_one (by simp [go_sem])) (by simp [Value.oneCell']) (by omega) (by unfold maxLen; omega) (by omega) (by simp; omega) _ rfl ?_)
        intro g8 c8 w8 hown8 hgrow8 _ _
        have HX8 : Hid (OwnX w8 w2.heap.size (.slice (some ⟨g8, 0, none⟩) (acc.length + 1) c8) (acc ++ [zs])) := Lib.hid ⟨vals ++ [.slice l zs.length lc], by rw [List.length_append]; exact hown8, (HEL.out.fut (Fut.alloc _ _)).cat (HE1.out.fut (Fut.alloc _ _)) (World.ownsRow.alloc HROW.out _) hgrow8⟩
        have HF8 : Hid (Fut w2 w8) := Lib.hid (RowKit.Below.grown (HRA.out.trans (Fut.alloc _ _)) hgrow8 (by simp; omega) fun q hq => (World.ownsRow.lt HROW.out q hq).1)
        clear hown8 hgrow8 HROW HEL HE1 HLA hsz
        go_wp2
        go_roundw
        case rel => exact ⟨k + 1, by omega, by go_num, by rw [HFS.out]; exact HX8, HF8⟩
        case measure => simp [intOf]; omega
      · have hPx : ((PM.length : Int) == 0) = false := by rw [beq_eq_false_iff_ne]; omega
        have he : enoughB ss (setM zs) = false := by
          cases h : enoughB ss (setM zs)
          · rfl
          · exact absurd (HPK.out.1 h) hP
        rw [he] at HFS
        simp only [Bool.false_eq_true, if_false, List.append_nil] at HFS
        rw [← HFS.out] at HOA
        clear HPK he hP HFS
        go_wp2
        go_roundw
        case rel => exact ⟨k + 1, by omega, by go_num, HOA, HRA⟩
        case measure => simp [intOf]; omega
    · obtain rfl : k = L.length := by omega
      rw [List.take_length, ← HEN.out] at HOX
      obtain ⟨av, ac, rfl⟩ := HOX.out.len
      go_wp2
      go_ret
      exact ⟨_, rfl, HOX.out.base (by rw [hbw]; exact hBW), HF2.out.trans HR.out⟩
end Go.Proofs.Ytimddkofcejijaa
