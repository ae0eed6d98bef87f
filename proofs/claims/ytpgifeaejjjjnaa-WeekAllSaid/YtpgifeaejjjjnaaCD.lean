/- eachOrder. -/
import Derived.Test.YtpgifeaejjjjnaaCC
namespace Go.Proofs.Ytpgifeaejjjjnaa
open Go.RowKit Go.Sort
attribute [local go_sem] Oper.semAt_some
open Go.Shelf
theorem Owns.but {Z : Nat → Prop} {w w' : World} {B : Nat} {v : Value} {zs : List Int} (h : Owns w B v zs) (hb : But Z w w') (hZ : ∀ k, Z k → k < B) : Owns w' B v zs := by
  obtain ⟨h1, h2⟩ := h
  refine ⟨h1, ?_⟩
  rcases h2 with h2 | ⟨g, cap, cur, h3, h4, h5, h6⟩
  · exact .inl h2
  · exact .inr ⟨g, cap, cur, h3, h4, by rw [hb.block g (Array.getElem?_eq_some_iff.1 h5).1 (fun hz => by have := hZ g hz; omega)]; exact h5, h6⟩
theorem app_below {wr w2 : World} {B g cap : Nat} {v : Value} {h : List Int} {o : Obj} (HO : Owns wr B v h) (hB : B ≤ wr.heap.size)
    (hwh : (g = (wr.alloc o).heap.size ∧ RowKit.Below (wr.alloc o).heap.size (wr.alloc o) w2) ∨ (v = .slice (some ⟨g, 0, none⟩) h.length cap ∧ (wr.alloc o).grownBy w2 (some g))) : RowKit.Below B wr w2 := by
  have h1 : RowKit.Below B wr (wr.alloc o) := (RowKit.Below.refl _ _).alloc hB o
  rcases hwh with ⟨_, hb⟩ | ⟨rfl, hg⟩
  · exact h1.trans (RowKit.Below.mono hb (by simp; omega))
  · exact h1.grown hg (by simp; omega) (fun k hk => by
      cases hk
      exact (World.ownsRow.lt HO g rfl).1)
theorem but_back {W1 W2 W3 : World} {g cap n : Nat} {v : Value} {Z : Nat → Prop}
    (hw : (g = W1.heap.size ∧ RowKit.Below W1.heap.size W1 W2) ∨ (v = .slice (some ⟨g, 0, none⟩) n cap ∧ W1.grownBy W2 (some g)))
    (hB : But (fun k => Z k ∨ some g = some k) W2 W3) : But (fun k => Z k ∨ v.ownBlock = some k) W1 W3 := by
  rcases hw with ⟨rfl, hb⟩ | ⟨rfl, hg⟩
  · exact ⟨hB.os.trans hb.os, hB.tape.trans hb.tape, hB.output.trans hb.output, Nat.le_trans hb.size hB.size, fun k hk hz =>
      (hB.block k (Nat.lt_of_lt_of_le hk hb.size) (fun h => by
        rcases h with h | h
        · exact hz (.inl h)
        · simp at h; omega)).trans (hb.block k hk)⟩
  · refine ⟨hB.os.trans hg.os, hB.tape.trans hg.tape, hB.output.trans hg.output, Nat.le_trans hg.size hB.size, fun k hk hz => ?_⟩
    have hne : ¬ some g = some k := fun e => hz (.inr e)
    exact (hB.block k (Nat.lt_of_lt_of_le hk hg.size) (fun h => by
      rcases h with h | h
      · exact hz (.inl h)
      · exact hne h)).trans (hg.block k hk (fun e => hne e.symm))
set_option maxRecDepth 100000 in
set_option maxHeartbeats 4000000 in
/-- eachOrder: all orders that begin as head does, for rounds that keep all but Z. -/
theorem each_any (n : Nat) (hn : n ≤ 5) (l B : Nat) (Z : Nat → Prop) (hZ : ∀ k, Z k → k < B) (J Jx : List (List Int) → World → Prop) (hJ : OldJ B J) (xs : List (List Int))
    (hY : ∀ (m : Nat) pre x v W1, B ≤ W1.heap.size → J pre W1 → Rd x v W1 → pre ++ [x] <+: xs → YieldAt Fence.wide m Try.prog l #[v] W1 fun e W' =>
      But Z W1 W' ∧ ((e = .returned (.bool true) ∧ J (pre ++ [x]) W') ∨ (e = .returned (.bool false) ∧ Jx (pre ++ [x]) W'))) :
    ∀ (m : Nat) (h : List Int) (v : Value) (pre : List (List Int)) (W : World) (d : Nat), h.length + m = n → Owns W B v h → B ≤ W.heap.size → J pre W → pre ++ ordT n m h <+: xs →
      CallsIn Fence.wide d Try.prog 136 #[v, .int .i64 n, .func (.yield l) #[] #[]] W fun e W' =>
        But (fun k => Z k ∨ v.ownBlock = some k) W W' ∧
        ((e = .returned (.bool true) ∧ J (pre ++ ordT n m h) W' ∧ Owns W' B v h) ∨ (e = .returned (.bool false) ∧ ∃ q, q <+: ordT n m h ∧ Jx (pre ++ q) W')) := by
  intro m
  induction m with
  | zero =>
    intro h v pre W d hm hO hB hJ0 hpre
    obtain ⟨a, cap, rfl, h1, h2, hI⟩ := hO.form
    have HO := Lib.hid hO
    have HC := Lib.hid (clone_any a cap h W hI (by omega))
    obtain rfl : h.length = n := by omega
    clear hO hI h1 h2 hm
    refine callsIn_of_wp Try.func136 rfl trivial ?_ rfl
    simp only [Try.ntmps136, List.size_toArray, List.length_cons, List.length_nil, Nat.reduceAdd, Nat.reduceSub, Array.replicate_succ, Array.replicate_zero, List.push_toArray, List.append_toArray, List.nil_append, List.cons_append]
    gi_wp2_with (first
      | (refine ⟨trivial, fun hh => (by cases hh), ?_⟩; gi_at_call 50; refine (callsIn_wide.2 HC.out).mono ?_; clear HC; rintro e w1 ⟨v1, rfl, hO1, hF1⟩; obtain ⟨fn, tmps, assign, body, hy, hR⟩ := hY (d - 1) pre h v1 w1 (Nat.le_trans hB (RowKit.Below.size hF1)) (hJ _ _ _ hJ0 (RowKit.Below.mono hF1 hB)) hO1.rd hpre)
      | (refine ⟨trivial, fun hh => (by cases hh), ?_⟩; refine hR.mono ?_; clear hR; rintro e W2 ⟨hbu, (⟨rfl, hJ2⟩ | ⟨rfl, hJx2⟩)⟩)
      | (refine ⟨fun hh => (by cases hh), ?_⟩; refine hR.mono ?_; clear hR; rintro e W2 ⟨hbu, (⟨rfl, hJ2⟩ | ⟨rfl, hJx2⟩)⟩))
    · go_ret
      exact ⟨(But.of_below hF1).trans (hbu.mono fun _ _ hz => .inl hz), .inl ⟨rfl, hJ2, (HO.out.fut hF1).but hbu hZ⟩⟩
    · go_ret
      exact ⟨(But.of_below hF1).trans (hbu.mono fun _ _ hz => .inl hz), .inr ⟨rfl, [h], List.prefix_refl _, hJx2⟩⟩
  | succ m ih =>
    intro h v pre W d hm hO hB hJ0 hpre
    obtain ⟨i0, hi0, hz0, hz1, hz2⟩ := info_parts info3
    obtain ⟨a, cap, rfl, h1, h2, _⟩ := hO.form
    have HO := Lib.hid hO
    have HM := Lib.hid hm
    have hne : ((h.length : Int) == (n : Int)) = false := by simp; omega
    have HP := Lib.hid hpre
    have HIH := Lib.hid ih
    clear hO h1 h2 hm hpre ih
    refine callsIn_of_wp Try.func136 rfl trivial ?_ rfl
    simp only [Try.ntmps136, List.size_toArray, List.length_cons, List.length_nil, Nat.reduceAdd, Nat.reduceSub, Array.replicate_succ, Array.replicate_zero, List.push_toArray, List.append_toArray, List.nil_append, List.cons_append]
    gi_wp2_with fail
    gi_loopw [17] (fun iv wr => ∃ k : Nat, k ≤ n ∧ iv = .int .i64 k ∧ J (pre ++ segT n m h k) wr ∧ Hid (Owns wr B (.slice a h.length cap) h) ∧ Hid (But (fun k => Z k ∨ (Value.slice a h.length cap).ownBlock = some k) W wr)) (fun iv _ => n - (intOf iv).toNat)
    case atStart => exact ⟨0, Nat.zero_le _, rfl, by rw [segT_zero, List.append_nil]; exact hJ0, HO, Lib.hid (But.refl _ _)⟩
    case round =>
      obtain ⟨k, hk, rfl, hJr, HOr, HBr⟩ := hrel
      by_cases hlt : k < n
      · have hkx : (k : Int) < n := by omega
        obtain ⟨a', cap', e', q1, q2, hI⟩ := HOr.out.form
        simp only [Value.slice.injEq, true_and] at e'
        obtain ⟨rfl, rfl⟩ := e'
        have HC := Lib.hid (contains_any a cap h k wr hI (by have := HM.out; omega))
        have HSS := Lib.hid (segT_succ n m h k)
        have HPP := Lib.hid (segT_pre n m h (k + 1) hlt)
        clear hI q1 q2
        cases hc : h.contains (k : Int)
        · rw [hc] at HC HSS
          simp only [Bool.false_eq_true, if_false] at HSS
          clear hc
          have hbr : B ≤ wr.heap.size := Nat.le_trans hB HBr.out.size
          gi_wp2_with (first
            | (refine ⟨trivial, fun hh => (by cases hh), ?_⟩; gi_at_call 51; refine (callsIn_wide.2 HC.out).mono ?_; clear HC; rintro e w1 ⟨rfl, rfl⟩)
            | (gi_at_builtin; refine wpListIn_append_where _ rfl _ _ 28 rfl B 3 i0 (.int .i64 0) 1 8 Try.underlying28 hi0 hz0 hz1 hz2 rfl (by decide) _ h.length (h.map (Value.int .i64)) rfl (HOr.out.fut (Fut.alloc _ _)) ⟨wr.heap.size, 0, none⟩ 1 1 [.int .i64 k] rfl rfl (cell_one (by simp [go_sem])) (by simp [Value.oneCell']) (by decide) (by have := HM.out; unfold maxLen; omega) (by have := HM.out; omega) (by simp; omega) ?_))
          intro g capp w2 hown hwh0 hlt2
          have hwh : (g = (wr.alloc (.cells #[.int .i64 (k : Int)] 3)).heap.size ∧ RowKit.Below (wr.alloc (.cells #[.int .i64 (k : Int)] 3)).heap.size (wr.alloc (.cells #[.int .i64 (k : Int)] 3)) w2) ∨ (Value.slice a h.length cap = .slice (some ⟨g, 0, none⟩) h.length capp ∧ (wr.alloc (.cells #[.int .i64 (k : Int)] 3)).grownBy w2 (some g)) := by
            rcases hwh0 with ⟨e1, e2⟩ | ⟨⟨rfl, rfl⟩, e2⟩
            · exact .inl ⟨by simpa using e1, by simpa using e2⟩
            · exact .inr ⟨rfl, e2⟩
          clear hwh0
          have hbw := app_below HOr.out hbr hwh
          have HR := Lib.hid (fun dd => HIH.out (h ++ [(k : Int)]) (.slice (some ⟨g, 0, none⟩) (h.length + 1) capp) (pre ++ segT n m h k) w2 dd (by have := HM.out; simp; omega) (by unfold Owns; simpa using hown) (Nat.le_trans hbr hbw.size) (hJ _ _ _ hJr hbw)
            ((by rw [List.append_assoc, ← HSS.out]; exact (List.prefix_append_right_inj _).2 HPP.out : _ <+: pre ++ ordT n (m + 1) h).trans HP.out))
          have HW := Lib.hid hwh
          clear hown hwh hlt2 hbw
          gi_wp2_with (refine ⟨trivial, fun hh => (by cases hh), ?_⟩; gi_at_call 136; refine (HR.out _).mono ?_; clear HR; rintro e w3 ⟨hbu, (⟨rfl, hJ3, hO3⟩ | ⟨rfl, q, hq, hJx3⟩)⟩)
          · have hbk := own_back (HOr.out.fut (Fut.alloc _ _)) (by simp; omega) HW.out hbu hZ hO3
            have HO3 := Lib.hid hbk.1
            have HB3 := Lib.hid (HBr.out.trans ((But.of_below (Fut.alloc wr (.cells #[.int .i64 (k : Int)] 3))).trans hbk.2))
            have HJ3 : J (pre ++ segT n m h (k + 1)) w3 := by rw [HSS.out, ← List.append_assoc]; exact hJ3
            clear hbk hbu hO3 hJ3
            gi_wp2_with fail
            go_roundw
            case rel => exact ⟨k + 1, by omega, by go_num, HJ3, HO3, HB3⟩
            case measure => simp [intOf]; omega
          · have HB3 := HBr.out.trans ((But.of_below (Fut.alloc wr (.cells #[.int .i64 (k : Int)] 3))).trans (but_back HW.out hbu))
            clear hbu
            gi_wp2_with fail
            refine bodyPost_ret (results_tmp rfl _ _ _) rfl ?_
            refine ⟨HB3, .inr ⟨rfl, segT n m h k ++ q, ?_, by rw [← List.append_assoc]; exact hJx3⟩⟩
            have e1 : segT n m h k ++ q <+: segT n m h (k + 1) := by rw [HSS.out]; exact (List.prefix_append_right_inj _).2 hq
            exact e1.trans HPP.out
        · rw [hc] at HC HSS
          simp only [if_true, List.append_nil] at HSS
          clear hc
          gi_wp2_with (refine ⟨trivial, fun hh => (by cases hh), ?_⟩; gi_at_call 51; refine (callsIn_wide.2 HC.out).mono ?_; clear HC; rintro e w1 ⟨rfl, rfl⟩)
          refine ⟨trivial, ?_⟩
          gi_wp2_with fail
          go_roundw
          case rel => exact ⟨k + 1, by omega, by go_num, by rw [HSS.out]; exact hJr, HOr, HBr⟩
          case measure => simp [intOf]; omega
      · obtain rfl : k = n := by omega
        gi_wp2_with fail
        refine bodyPost_ret (results_tmp rfl _ _ _) rfl ?_
        exact ⟨HBr.out, .inl ⟨rfl, hJr, HOr.out⟩⟩
end Go.Proofs.Ytpgifeaejjjjnaa
