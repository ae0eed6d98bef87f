/- Layer 2: the corners that one comes to. -/
import Derived.Test.YtimddkofcejijaaRC
namespace Go.Proofs.Ytimddkofcejijaa
open Go.RowKit Go.Sort
/-- the corners to which one comes by streets of a set, one after the other, from some corners. -/
def sweepL (s : Nat) : Nat → List (Int × Int) → Nat → Nat
  | _, [], f => f
  | i, p :: l, f => sweepL s (i + 1) l (if s.testBit i && (endsM p &&& f != 0) then f ||| endsM p else f)
def reachM (ss : List (Int × Int)) (s : Nat) : Nat → Nat → Nat
  | 0, f => f
  | n + 1, f => reachM ss s n (sweepL s 0 ss f)
theorem sweepL_lt (s : Nat) : ∀ (i : Nat) (l : List (Int × Int)) (o : Nat), (∀ p ∈ l, Sm p) → o < 65536 → sweepL s i l o < 65536
  | _, [], _, _, h => h
  | i, p :: l, o, hp, h => by
    unfold sweepL
    refine sweepL_lt s (i + 1) l _ (fun q hq => hp q (List.mem_cons_of_mem _ hq)) ?_
    split
    · exact or_lt h (ends_lt (hp p (List.mem_cons_self ..)))
    · exact h
theorem reachM_lt {ss : List (Int × Int)} (h : SmL ss) (s : Nat) : ∀ n f, f < 65536 → reachM ss s n f < 65536
  | 0, _, hf => hf
  | n + 1, f, hf => reachM_lt h s n _ (sweepL_lt s 0 ss f h hf)
set_option maxRecDepth 100000 in
set_option maxHeartbeats 4000000 in
theorem reached_any (c : Nat) (a : Option Addr) (cap : Nat) (ss : List (Int × Int)) (s x : Nat) (w : World) (hS : StrAt w a ss) (hl : ss.length ≤ 15) (hp : SmL ss) (hs : s < 65536) (hc : c ≤ 15) (hx : x ≤ 15) :
    Calls Try.prog 59 #[mapV c a ss.length cap, .int .i64 x, sv s] w fun e w' => e = .returned (sv (reachM ss s c (2 ^ x))) ∧ Fut w w' := by
  have HS := Lib.hid hS
  have HP := Lib.hid hp
  have hlx : (ss.length : Int) ≤ 15 := by omega
  have hcx : (c : Int) ≤ 15 := by omega
  have hpx := pow_lt x hx
  have H1 := Lib.hid (fun w => one_any x w (by omega))
  clear hS hp
  generalize 2 ^ x = X at *
  generalize hRR : reachM ss s c X = R at *
  have HRR := Lib.hid hRR
  clear hRR
  go_enter Try.func59, Try.ntmps59
  go_wp2_with fail
  refine (H1.out _).mono ?_
  rintro _ _ ⟨rfl, rfl⟩
  have hB := BoxM.new w c a ss.length cap 24
  have hF : Fut w (w.alloc (.cells #[.int .i64 c, .slice a ss.length cap] 24)) := Fut.alloc _ _
  generalize w.alloc (.cells #[.int .i64 c, .slice a ss.length cap] 24) = W1 at *
  generalize w.heap.size = B at *
  have HB := Lib.hid hB
  have HF := Lib.hid hF
  obtain ⟨hb, b0, b1⟩ := hB
  clear hF
  go_wp2_with fail
  clear hb b0 b1
  go_loopw [7, 13] (fun fv iv wr => ∃ (k f : Nat), k ≤ c ∧ iv = .int .i64 k ∧ fv = sv f ∧ f < 65536 ∧ Hid (reachM ss s (c - k) f = R) ∧ Hid (Fut W1 wr)) (fun _ iv _ => c - (intOf iv).toNat)
  case atStart => exact ⟨0, X, Nat.zero_le _, rfl, rfl, hpx, HRR, Lib.hid Fut.rfl⟩
  case round =>
    obtain ⟨k, f, hk, rfl, rfl, hf, HO, HR⟩ := hrel
    obtain ⟨hb, b0, b1⟩ := HB.out.fut HR.out
    by_cases hlt : k < c
    · have hkx : (k : Int) < c := by omega
      have hck : c - k = (c - (k + 1)) + 1 := by omega
      rw [hck] at HO
      unfold reachM at HO
      clear hck
      go_wp2_with fail
      clear hb b0 b1
      have HFL := Lib.hid (sweepL_lt s 0 ss f HP.out hf)
      generalize hq : sweepL s 0 ss f = q at *
      have HQ := Lib.hid hq
      clear hq
      go_loopw [7, 18] (fun gv jv wr => ∃ (j g : Nat), j ≤ ss.length ∧ jv = .int .i64 j ∧ gv = sv g ∧ g < 65536 ∧ Hid (sweepL s j (ss.drop j) g = q) ∧ Hid (Fut W1 wr)) (fun _ jv _ => ss.length - (intOf jv).toNat)
      case atStart => exact ⟨0, f, Nat.zero_le _, rfl, rfl, hf, HQ, HR⟩
      case round =>
        clear HR
        obtain ⟨j, g, hj, rfl, rfl, hg, HG, HR⟩ := hrel
        obtain ⟨hb, b0, b1⟩ := HB.out.fut HR.out
        by_cases hjt : j < ss.length
        · have hjx : (j : Int) < ss.length := by omega
          have HH := Lib.hid (has_any s j wr hs (by omega))
          have hd := str_drop ss j hjt
          rw [hd] at HG
          have HE := Lib.hid (fun w2 (F : Fut wr w2) => ends_any c a cap ss j w2 ((HS.out.fut HF.out).fut (HR.out.trans F)) hjt (by omega) (HP.out.at j hjt))
          have hel := ends_lt (HP.out.at j hjt)
          generalize str ss j = p at *
          clear hd
          unfold sweepL at HG
          cases ht : s.testBit j
          · rw [ht] at HH HG
            clear ht HE hel
            simp only [Bool.false_and, Bool.false_eq_true, if_false] at HG
            go_wp2_with fail
            refine HH.out.mono ?_
            rintro _ _ ⟨rfl, rfl⟩
            go_wp2
            go_roundw
            case rel => exact ⟨j + 1, g, by omega, by go_num, rfl, hg, HG, HR⟩
            case measure => simp [intOf]; omega
          · rw [ht] at HH HG
            simp only [Bool.true_and] at HG
            have e : bits BinOp.and IntKind.u64 (endsM p : Int) (g : Int) = ((endsM p &&& g : Nat) : Int) := u64_and_nat _ _ (by omega) (by omega)
            have e2 : bits BinOp.or IntKind.u64 (g : Int) (endsM p : Int) = ((g ||| endsM p : Nat) : Int) := u64_or_nat _ _ (by omega) (by omega)
            have hx := or_lt hg hel
            clear ht
            generalize endsM p = E at *
            by_cases hm : E &&& g = 0
            · have hm' : (((E &&& g : Nat) : Int) != 0) = false := by rw [hm]; rfl
              rw [hm] at HG
              simp only [bne_self_eq_false, Bool.false_eq_true, if_false] at HG
              clear hm e2
              go_wp2_with fail
              refine HH.out.mono ?_
              rintro _ _ ⟨rfl, rfl⟩
              go_wp2_with fail
              refine (HE.out _ Fut.rfl).mono ?_
              rintro _ wa ⟨rfl, F⟩
              have HRA := Lib.hid (HR.out.trans F)
              clear F HE
              go_wp2
              go_roundw
              case rel => exact ⟨j + 1, g, by omega, by go_num, rfl, hg, HG, HRA⟩
              case measure => simp [intOf]; omega
            · have hm' : (((E &&& g : Nat) : Int) != 0) = true := by rw [bne_iff_ne]; omega
              rw [bne_iff_ne.2 hm] at HG
              simp only [if_true] at HG
              clear hm
              go_wp2_with fail
              refine HH.out.mono ?_
              rintro _ _ ⟨rfl, rfl⟩
              go_wp2_with fail
              refine (HE.out _ Fut.rfl).mono ?_
              rintro _ wa ⟨rfl, F⟩
              obtain ⟨hb', b0', b1'⟩ := HB.out.fut (HR.out.trans F)
              have HFA := Lib.hid F
              clear F hb b0 b1
              go_wp2_with fail
              refine (HE.out _ HFA.out).mono ?_
              rintro _ wb ⟨rfl, F⟩
              have HRA := Lib.hid ((HR.out.trans HFA.out).trans F)
              clear F HE HFA
              go_wp2
              go_roundw
              case rel => exact ⟨j + 1, g ||| E, by omega, by go_num, rfl, hx, HG, HRA⟩
              case measure => simp [intOf]; omega
        · obtain rfl : j = ss.length := by omega
          rw [List.drop_of_length_le (Nat.le_refl _)] at HG
          have hgq : g = q := HG.out
          subst hgq
          go_wp2_with fail
          go_roundw
          case rel => exact ⟨k + 1, g, by omega, by go_num, rfl, hg, HO, HR⟩
          case measure => simp [intOf]; omega
    · obtain rfl : k = c := by omega
      have HW := Lib.hid (HF.out.trans HR.out)
      rw [Nat.sub_self] at HO
      go_wp2
      go_ret
      exact ⟨by rw [← HO.out]; rfl, HW.out⟩
end Go.Proofs.Ytimddkofcejijaa
