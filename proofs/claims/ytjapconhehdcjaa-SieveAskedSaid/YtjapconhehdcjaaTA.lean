/- Questions -/
import Derived.Test.YtjapconhehdcjaaSZ
import Derived.Deep.DeepCutAuto
import Derived.Deep.AppendLies
namespace Go.Proofs.Ytjapconhehdcjaa
open Go.RowKit Go.Sort
def qsS (ls ts : List Int) : Nat → Int
  | 0 => 0
  | i + 1 => qsS ls ts i + nth ls i * dep1 ls.length ts i
theorem dep1_bnd (n : Nat) (ts : List Int) (j : Nat) (hl : ts.length ≤ 1000) : 0 ≤ dep1 n ts j ∧ dep1 n ts j ≤ 1000 := by
  unfold dep1
  have := askI_len (j : Int) ts 0 ((n : Int) - 1)
  omega
theorem qs_mul {x y : Int} (hx : 1 ≤ x ∧ x ≤ 100) (hy : 0 ≤ y ∧ y ≤ 1000) : 0 ≤ x * y ∧ x * y ≤ 100000 := by
  refine ⟨Int.mul_nonneg (by omega) hy.1, ?_⟩
  have := Int.mul_le_mul hx.2 hy.2 hy.1 (by omega)
  omega
theorem qsS_bnd (ls ts : List Int) (hl : ts.length ≤ 1000) (h : ∀ z ∈ ls, 1 ≤ z ∧ z ≤ 100) : ∀ i, i ≤ ls.length → 0 ≤ qsS ls ts i ∧ qsS ls ts i ≤ 100000 * i
  | 0, _ => by simp [qsS]
  | i + 1, hi => by
    have h1 := qsS_bnd ls ts hl h i (by omega)
    have h2 := qs_mul (h _ (nth_mem (show i < ls.length by omega))) (dep1_bnd ls.length ts i hl)
    rw [qsS]
    omega
theorem depE_nth (n : Nat) (ts : List Int) (i : Nat) (h : i < n) : nth (depE n ts) i = dep1 n ts i := by
  unfold depE
  rw [nth_eq, List.getElem?_map, List.getElem?_range h]
  rfl
theorem depE_len (n : Nat) (ts : List Int) : (depE n ts).length = n := by unfold depE; simp
def questC (ls ts : List Int) : Int := if chkL ls = 0 then validE ls.length ts else chkL ls
def questE (ls ts : List Int) : Int := if questC ls ts = 0 then qsS ls ts ls.length else 0
set_option maxRecDepth 100000 in
set_option maxHeartbeats 4000000 in
theorem quest_any (a : Option Addr) (cap : Nat) (ls : List Int) (c : Option Addr) (dap : Nat) (ts : List Int) (w : World) (hA : IntsAt w a ls) (hC : IntsAt w c ts) (hl : ls.length ≤ 1000) (htc : ts.length ≤ dap) (ht : ts.length ≤ 1000) :
    Calls Try.prog 41 #[.slice a ls.length cap, .slice c ts.length dap] w fun e w' => e = .returned (.tuple #[.int .i64 (questE ls ts), .int .i64 (questC ls ts)]) ∧ Fut w w' := by
  have HCK := Lib.hid (check_any a cap ls w hA hl)
  have HVA := Lib.hid (valid_any ls.length c dap ts w hC htc ht)
  have HCC : Hid (questC ls ts = if chkL ls = 0 then validE ls.length ts else chkL ls) := Lib.hid rfl
  have HLE : Hid (questE ls ts = if questC ls ts = 0 then qsS ls ts ls.length else 0) := Lib.hid rfl
  have HZ := Lib.hid (chkL_zero (zs := ls))
  have HIN := Lib.hid (fun W (k : Fut w W) => hA.fut k)
  have HDA := Lib.hid (fun h1 h2 W (k : Fut w W) => depths_any ls.length h1 h2 c dap ts W (hC.fut k) ht)
  have HTB := Lib.hid ht
  generalize chkL ls = E at *
  generalize validE ls.length ts = V at *
  have hlx : (ls.length : Int) ≤ 1000 := by omega
  have htx : (ts.length : Int) ≤ 1000 := by omega
  clear hA hC ht
  go_enter Try.func41, Try.ntmps41
  go_wp2_with fail
  refine HCK.out.mono ?_
  rintro _ _ ⟨rfl, rfl⟩
  by_cases hE : E = 0
  · have hz := HZ.out hE
    have HC1 : Hid (questC ls ts = V) := Lib.hid (by rw [HCC.out, if_pos hE])
    subst hE
    go_wp2_with fail
    refine HVA.out.mono ?_
    rintro _ w1 ⟨rfl, F1⟩
    by_cases hV : V = 0
    · have HL1 : Hid (questE ls ts = qsS ls ts ls.length) := Lib.hid (by rw [HLE.out, if_pos (by rw [HC1.out]; exact hV)])
      subst hV
      have HD2 := Lib.hid (HDA.out hz.1 hz.2.1)
      have HZ3 := Lib.hid hz.2.2
      have HQB := Lib.hid (qsS_bnd ls ts HTB.out hz.2.2)
      have HF1 := Lib.hid F1
      clear hz F1 HZ HDA HCC HLE HVA HCK
      go_wp2_with fail
      refine (HD2.out _ HF1.out).mono ?_
      rintro _ w2 ⟨v, rfl, hO, F2⟩
      obtain ⟨l, lc, rfl, hI⟩ := hO.ints
      have HI := Lib.hid hI
      have HFw := Lib.hid (HF1.out.trans F2)
      have HDN := Lib.hid (fun i hi => depE_nth ls.length ts i hi)
      have HDL := Lib.hid (depE_len ls.length ts)
      rw [depE_len]
      obtain ⟨f, hf⟩ : ∃ f : Nat → Int, f = qsS ls ts := ⟨_, rfl⟩
      have HFF := Lib.hid hf
      have HF0 : Hid (f 0 = 0) := Lib.hid (by rw [hf]; rfl)
      clear hO hI F2 hf HD2
      go_wp2_with fail
      go_loopw [8, 28] (fun sv iv wr => ∃ i : Nat, i ≤ ls.length ∧ iv = .int .i64 (i : Nat) ∧ sv = .int .i64 (f i) ∧ w2 = wr) (fun _ iv _ => ls.length - (intOf iv).toNat)
      case atStart => exact ⟨0, Nat.zero_le _, rfl, by rw [HF0.out], rfl⟩
      case round =>
        obtain ⟨i, hi, rfl, rfl, rfl⟩ := hrel
        by_cases hil : i < ls.length
        · have hix : (i : Int) < ls.length := by omega
          obtain ⟨b, o, rfl, hb, c1⟩ := HIN.out w2 HFw.out i hil
          obtain ⟨b2, o2, rfl, hb2, c2⟩ := HI.out i (by rw [HDL.out]; exact hil)
          rw [HDN.out i hil] at c2
          have hx := HZ3.out _ (nth_mem hil)
          have hy := dep1_bnd ls.length ts i HTB.out
          have hm := qs_mul hx hy
          have hb0 := HQB.out i hi
          rw [← HFF.out] at hb0
          have hs : f (i + 1) = f i + nth ls i * dep1 ls.length ts i := by rw [HFF.out]; rfl
          generalize nth ls i = x at *
          generalize dep1 ls.length ts i = y at *
          obtain ⟨xm, hxm⟩ : ∃ xm, xm = x * y := ⟨_, rfl⟩
          have hwa : IntKind.i64.wrap (x * y) = xm := by rw [hxm]; exact IntWalk.i64_in _ ⟨by omega, by omega⟩
          rw [← hxm] at hm hs
          have hwb : IntKind.i64.wrap (f i + xm) = f (i + 1) := by rw [hs]; exact IntWalk.i64_in _ ⟨by omega, by omega⟩
          have hwi : IntKind.i64.wrap ((i : Int) + 1) = ((i + 1 : Nat) : Int) := by rw [IntWalk.i64_in _ ⟨by omega, by omega⟩]; omega
          clear hs hxm hb0 hm hx hy
          go_wp2_with fail
          go_roundw
          case rel => first
            | exact ⟨i + 1, by omega, rfl, rfl, trivial⟩
            | exact ⟨i + 1, by omega, rfl, rfl, rfl⟩
          case measure => simp [intOf]; omega
        · obtain rfl : i = ls.length := by omega
          go_wp2_with fail
          go_ret2
          exact ⟨by rw [HL1.out, HC1.out, ← HFF.out]; rfl, HFw.out⟩
    · have HL1 : Hid (questE ls ts = 0) := Lib.hid (by rw [HLE.out, if_neg (by rw [HC1.out]; exact hV)])
      go_wp2_with fail
      go_ret2
      exact ⟨by rw [HL1.out, HC1.out]; rfl, F1⟩
  · have HC1 : Hid (questC ls ts = E) := Lib.hid (by rw [HCC.out, if_neg hE])
    have HL1 : Hid (questE ls ts = 0) := Lib.hid (by rw [HLE.out, if_neg (by rw [HC1.out]; exact hE)])
    go_wp2_with fail
    go_ret2
    exact ⟨by rw [HL1.out, HC1.out]; rfl, Fut.rfl⟩
end Go.Proofs.Ytjapconhehdcjaa
