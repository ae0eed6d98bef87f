/- Layer 2: whether one can go on. -/
import Derived.Test.YtimddkofcejijaaRM
namespace Go.Proofs.Ytimddkofcejijaa
open Go.RowKit Go.Sort
theorem nth_list (s k : Nat) (h : k < (listM s).length) : ∃ i : Nat, nth (listM s) k = i ∧ i < 16 ∧ s.testBit i = true ∧ (listN s)[k]? = some i := by
  have hm : listM s = (listN s).map fun (i : Nat) => (i : Int) := rfl
  rw [hm, List.length_map] at h
  refine ⟨(listN s)[k], ?_, ?_⟩
  · rw [nth_eq, hm]; simp [h]
  · have := List.getElem_mem h
    unfold listN at this
    rw [List.mem_filter, List.mem_range] at this
    exact ⟨this.1, this.2, List.getElem?_eq_getElem h⟩
theorem list_len (s : Nat) : (listM s).length = (listN s).length := by
  have hm : listM s = (listN s).map fun (i : Nat) => (i : Int) := rfl
  rw [hm, List.length_map]
theorem list_le (s : Nat) : (listM s).length ≤ 16 := by
  rw [list_len]
  exact Nat.le_trans (List.length_filter_le _ _) (by rw [List.length_range]; exact Nat.le_refl _)
theorem BoxC.new (w : World) (x : Int) (l g : Nat) (t : TypeId) : BoxC (w.alloc (.cells #[.int .i64 x, sv l, sv g] t)) w.heap.size x l g := by
  refine ⟨by simp, ?_, ?_, ?_, ?_, ?_, ?_⟩ <;> simp [go_sem]
set_option maxRecDepth 100000 in
set_option maxHeartbeats 2000000 in
theorem goesOn_any (c : Nat) (a : Option Addr) (cap : Nat) (ss : List (Int × Int)) (x l g : Nat) (w : World) (hS : StrAt w a ss) (hl : ss.length ≤ 15) (hp : SmL ss) (hx : x ≤ 15) (hc : c ≤ 15) (hll : l < 2 ^ ss.length) :
    Calls Try.prog 115 #[mapV c a ss.length cap, cartN x l g] w fun e w' => e = .returned (.bool (goesB ss c x l)) ∧ Fut w w' := by
  have HS := Lib.hid hS
  have HP := Lib.hid hp
  have hlx : (ss.length : Int) ≤ 15 := by omega
  have hl16 : l < 65536 := by have := pow_lt ss.length hl; omega
  have HRC := Lib.hid (fun W (F : Fut w W) => reached_any c a cap ss l x W (hS.fut F) hl hp hl16 hc hx)
  have HLI := Lib.hid (fun W => list_sl l W hl16)
  have hrl := reachM_lt hp l c (2 ^ x) (pow_lt x hx)
  have HG : Hid (goesB ss c x l = (listN l).all fun i => decide (endsM (str ss i) &&& reachM ss l c (2 ^ x) = endsM (str ss i))) := Lib.hid rfl
  generalize reachM ss l c (2 ^ x) = R at *
  generalize goesB ss c x l = G at *
  have HB2 : Hid (∀ i, l.testBit i = true → i < ss.length) := Lib.hid (fun i hi => by
    rcases Nat.lt_or_ge i ss.length with h | h
    · exact h
    · rw [Nat.testBit_lt_two_pow (Nat.lt_of_lt_of_le hll (Nat.pow_le_pow_right (by decide) h))] at hi; cases hi)
  have hll16 := list_le l
  have HL1 := Lib.hid (list_len l)
  have HNT := Lib.hid (nth_list l)
  clear hS hp hll
  generalize hM : listM l = M at *
  have hmx : (M.length : Int) ≤ 16 := by omega
  clear hM
  go_enter Try.func115, Try.ntmps115
  go_wp2_with fail
  have hB := BoxM.new w c a ss.length cap 24
  have hF : Fut w (w.alloc (.cells #[.int .i64 c, .slice a ss.length cap] 24)) := Fut.alloc _ _
  have hz : (w.alloc (.cells #[.int .i64 c, .slice a ss.length cap] 24)).heap.size = w.heap.size + 1 := by simp
  generalize w.alloc (.cells #[.int .i64 c, .slice a ss.length cap] 24) = W1 at *
  have hC := BoxC.new W1 x l g 123
  have hF2 : Fut W1 (W1.alloc (.cells #[.int .i64 x, sv l, sv g] 123)) := Fut.alloc _ _
  generalize W1.alloc (.cells #[.int .i64 x, sv l, sv g] 123) = W2 at *
  generalize w.heap.size = B at *
  rw [hz] at hC
  clear hz
  have hBm := hB.fut hF2
  refine (HRC.out _ (hF.trans hF2)).mono ?_
  rintro _ w1 ⟨rfl, F⟩
  obtain ⟨hb, b0, b1⟩ := hBm.fut F
  obtain ⟨hcb, c0, c1, c2, _, _, _⟩ := hC.fut F
  have HF := Lib.hid ((hF.trans hF2).trans F)
  have HBX := Lib.hid (hBm.fut F)
  clear hF hF2 hB hC hBm F
  go_wp2_with fail
  refine (HLI.out _).mono ?_
  rintro _ w2 ⟨la, lcap, rfl, hI, F⟩
  have HI := Lib.hid hI
  have HBY := Lib.hid (HBX.out.fut F)
  have HF3 := Lib.hid (HF.out.trans F)
  clear hb b0 b1 hcb c0 c1 c2 hI F
  go_wp2_with fail
  go_loopw [18] (fun iv wr => ∃ (k : Nat), k ≤ M.length ∧ iv = .int .i64 k ∧ Hid (((listN l).drop k).all (fun i => decide (endsM (str ss i) &&& R = endsM (str ss i))) = G) ∧ Hid (Fut w2 wr)) (fun iv _ => M.length - (intOf iv).toNat)
  case atStart => exact ⟨0, Nat.zero_le _, rfl, Lib.hid HG.out.symm, Lib.hid Fut.rfl⟩
  case round =>
    obtain ⟨k, hk, rfl, HO, HR⟩ := hrel
    obtain ⟨hb, b0, b1⟩ := HBY.out.fut HR.out
    by_cases hlt : k < M.length
    · have hkx : (k : Int) < M.length := by omega
      obtain ⟨b, off, ea, hbb, c1⟩ := (HI.out.fut HR.out) k hlt
      subst ea
      obtain ⟨i, hi, _, hbit, hget⟩ := HNT.out k hlt
      have hil := HB2.out i hbit
      rw [hi] at c1
      have hd : (listN l).drop k = i :: (listN l).drop (k + 1) := by
        obtain ⟨h1, h2⟩ := List.getElem?_eq_some_iff.1 hget
        rw [List.drop_eq_getElem_cons h1, h2]
      rw [hd, List.all_cons] at HO
      have HE := Lib.hid (ends_any c a cap ss i wr (HS.out.fut (HF3.out.trans HR.out)) hil (by omega) (HP.out.at i hil))
      have hel := ends_lt (HP.out.at i hil)
      have HW := Lib.hid (fun W => within_any (endsM (str ss i)) R W hel hrl)
      generalize endsM (str ss i) = E at *
      clear hi hbit hget hd
      by_cases hq : E &&& R = E
      · rw [decide_eq_true hq] at HW HO
        rw [Bool.true_and] at HO
        clear hq
        go_wp2_with fail
        refine HE.out.mono ?_
        rintro _ w3 ⟨rfl, F⟩
        have HRA := Lib.hid (HR.out.trans F)
        clear F HE
        go_wp2_with (go_at_call 80; refine (HW.out _).mono ?_; rintro _ _ ⟨rfl, rfl⟩)
        go_roundw
        case rel => exact ⟨k + 1, by omega, by go_num, HO, HRA⟩
        case measure => simp [intOf]; omega
      · rw [decide_eq_false hq] at HW HO
        rw [Bool.false_and] at HO
        have hG : G = false := HO.out.symm
        subst hG
        clear hq
        go_wp2_with fail
        refine HE.out.mono ?_
        rintro _ w3 ⟨rfl, F⟩
        have HRA := Lib.hid ((HF3.out.trans HR.out).trans F)
        clear F HE
        go_wp2_with (go_at_call 80; refine (HW.out _).mono ?_; rintro _ _ ⟨rfl, rfl⟩)
        go_ret
        exact ⟨rfl, HRA.out⟩
    · obtain rfl : k = M.length := by omega
      rw [List.drop_of_length_le (by rw [← HL1.out]; exact Nat.le_refl _), List.all_nil] at HO
      have hG : G = true := HO.out.symm
      subst hG
      have HW := Lib.hid (HF3.out.trans HR.out)
      go_wp2
      go_ret
      exact ⟨rfl, HW.out⟩
end Go.Proofs.Ytimddkofcejijaa
