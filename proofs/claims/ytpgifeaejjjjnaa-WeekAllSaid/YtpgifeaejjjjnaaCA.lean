/- Layer 3: the reference's bars. -/
import Derived.Test.YtpgifeaejjjjnaaBZ
namespace Go.Proofs.Ytpgifeaejjjjnaa
open Go.RowKit Go.Sort
/-- how many lists hold a street. -/
def hasN (zss : List (List Int)) (s : Int) (k : Nat) : Nat := ((zss.take k).filter fun l => l.contains s).length
theorem hasN_zero (zss : List (List Int)) (s : Int) : hasN zss s 0 = 0 := by unfold hasN; simp
theorem hasN_succ (zss : List (List Int)) (s : Int) (k : Nat) (hk : k < zss.length) : hasN zss s (k + 1) = hasN zss s k + (if (lth zss k).contains s = true then 1 else 0) := by
  unfold hasN
  have e : zss.take (k + 1) = zss.take k ++ [lth zss k] := by
    rw [List.take_add_one, lth_eq, List.getElem?_eq_getElem hk]; rfl
  rw [e, List.filter_append, List.length_append]
  have key : ∀ (p : List Int → Bool) (x : List Int), (List.filter p [x]).length = if p x = true then 1 else 0 := fun p x => by
    cases hp : p x <;> simp [hp]
  rw [key]
theorem hasN_le (zss : List (List Int)) (s : Int) (k : Nat) : hasN zss s k ≤ k := by
  unfold hasN
  exact Nat.le_trans (List.length_filter_le _ _) (by rw [List.length_take]; omega)
def barR (c : Int) (zss : List (List Int)) (s : Int) : Bool := decide ((hasN zss s zss.length : Int) < zss.length + (lth zss 0).length - c)
set_option maxRecDepth 100000 in
theorem rbars_any (c : Int) (a : Option Addr) (cap : Nat) (zss : List (List Int)) (s : Int) (w : World) (hL : LstC w a zss) (hl : zss.length ≤ 5) (hd : ∀ k, k < zss.length → (lth zss k).length ≤ 5) (hc1 : 1 ≤ c) (hc5 : c ≤ 5) (hcap : zss.length ≤ cap) (hcm : cap ≤ 9223372036854775807) :
    Calls Try.prog 88 #[.int .i64 c, .slice a zss.length cap, .int .i64 s] w fun e w' => e = .returned (.bool (barR c zss s)) ∧ w = w' := by
  have HL := Lib.hid hL
  have HD := Lib.hid hd
  have HW := Lib.hid (rwide_any a cap zss w hL hcap hcm)
  have hlx : (zss.length : Int) ≤ 5 := by omega
  have h05 : (lth zss 0).length ≤ 5 := by
    by_cases h : 0 < zss.length
    · exact hd 0 h
    · rw [lth_eq, List.getElem?_eq_none (by omega)]; simp
  unfold barR
  have HS := Lib.hid (hasN_succ zss s)
  have HLE := Lib.hid (hasN_le zss s)
  have H0 := Lib.hid (hasN_zero zss s)
  generalize (lth zss 0).length = wd at *
  generalize hasN zss s = hn at *
  generalize hU : hn zss.length = U at *
  have HU := Lib.hid hU
  clear hU
  clear hL hd hcap hcm
  go_enter Try.func88, Try.ntmps88
  go_wp2_with fail
  go_loopw [7, 8] (fun nv iv wr => ∃ k : Nat, k ≤ zss.length ∧ nv = .int .i64 (hn k) ∧ iv = .int .i64 k ∧ wr = w) (fun _ iv _ => zss.length - (intOf iv).toNat)
  case atStart => exact ⟨0, Nat.zero_le _, by rw [H0.out]; rfl, rfl, rfl⟩
  case round =>
    obtain ⟨k, hk, rfl, rfl, rfl⟩ := hrel
    have hle := HLE.out k
    by_cases hlt : k < zss.length
    · have hkx : (k : Int) < zss.length := by omega
      obtain ⟨bb, off, l, lc, ea, hbb, d1, hlc, hcc, hI⟩ := HL.out k hlt
      subst ea
      have hz := HD.out k hlt
      have HH := Lib.hid (rhas_any l lc (lth zss k) s wr hI (by omega))
      have HSS := Lib.hid (HS.out k hlt)
      generalize lth zss k = zs at *
      clear hI
      generalize hq : hn k = u at *
      cases hb : zs.contains s
      · rw [hb] at HH HSS
        simp only [Bool.false_eq_true, if_false, Nat.add_zero] at HSS
        clear hb
        go_wp2_with fail
        refine HH.out.mono ?_
        rintro _ _ ⟨rfl, rfl⟩
        go_wp2
        go_round
        case rel => exact ⟨k + 1, by omega, by rw [HSS.out], by go_num, trivial⟩
        case measure => simp [intOf]; omega
      · rw [hb] at HH HSS
        simp only [if_true] at HSS
        clear hb
        go_wp2_with fail
        refine HH.out.mono ?_
        rintro _ _ ⟨rfl, rfl⟩
        go_wp2
        go_round
        case rel => exact ⟨k + 1, by omega, by rw [HSS.out]; go_num, by go_num, trivial⟩
        case measure => simp [intOf]; omega
    · obtain rfl : k = zss.length := by omega
      rw [HU.out] at hle
      rw [HU.out]
      go_wp2_with fail
      refine HW.out.mono ?_
      rintro _ _ ⟨rfl, rfl⟩
      go_wp2
      go_ret
      exact ⟨rfl, rfl⟩
end Go.Proofs.Ytpgifeaejjjjnaa
