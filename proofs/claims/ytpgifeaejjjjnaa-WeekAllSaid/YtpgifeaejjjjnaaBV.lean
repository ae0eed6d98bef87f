/- Layer 3: the reference's in, has, met. -/
import Derived.Test.YtpgifeaejjjjnaaBU
namespace Go.Proofs.Ytpgifeaejjjjnaa
open Go.RowKit Go.Sort
theorem rin_any (n lo hi : Int) (w : World) : Calls Try.prog 82 #[.int .i64 n, .int .i64 lo, .int .i64 hi] w fun e w' => e = .returned (.bool (decide (lo ≤ n) && decide (n ≤ hi))) ∧ w = w' := by
  go_enter Try.func82, Try.ntmps82
  go_wp2
  all_goals
    go_ret
    exact ⟨retb (by rw [Bool.eq_iff_iff]; simp; omega), rfl⟩
theorem rhas_any (a : Option Addr) (cap : Nat) (zs : List Int) (x : Int) (w : World) (hA : IntsAt w a zs) (hl : zs.length ≤ 1000) :
    Calls Try.prog 115 #[.slice a zs.length cap, .int .i64 x] w fun e w' => e = .returned (.bool (zs.contains x)) ∧ w = w' := by
  have HA := Lib.hid hA
  have hlx : (zs.length : Int) ≤ 1000 := by omega
  clear hA
  generalize hE : zs.contains x = E at *
  have HE := Lib.hid hE
  clear hE
  go_enter Try.func115, Try.ntmps115
  go_wp2_with fail
  go_loop [5] (fun iv => ∃ k : Nat, k ≤ zs.length ∧ iv = .int .i64 k ∧ Hid ((zs.drop k).contains x = E)) (fun iv => zs.length - (intOf iv).toNat)
  case atStart => exact ⟨0, Nat.zero_le _, rfl, HE⟩
  case round =>
    obtain ⟨k, hk, rfl, HO⟩ := hrel
    by_cases hlt : k < zs.length
    · have hkx : (k : Int) < zs.length := by omega
      obtain ⟨b, off, ea, hb, c1⟩ := HA.out k hlt
      subst ea
      have hd := nth_drop zs k hlt
      rw [hd, List.contains_cons] at HO
      generalize nth zs k = z at *
      clear hd HA
      by_cases hq : x = z
      · have hb2 : (x == z) = true := by rw [hq]; simp
        rw [hb2, Bool.true_or] at HO
        have hE : E = true := HO.out.symm
        subst hE
        subst hq
        clear hb2
        go_wp2
        go_ret
        exact ⟨rfl, rfl⟩
      · have hb2 : (x == z) = false := by rw [beq_eq_false_iff_ne]; exact hq
        have hb3 : (z == x) = false := by rw [beq_eq_false_iff_ne]; exact fun e => hq e.symm
        rw [hb2, Bool.false_or] at HO
        go_wp2
        go_round
        case rel => exact ⟨k + 1, by omega, by go_num, HO⟩
        case measure => simp [intOf]; omega
    · obtain rfl : k = zs.length := by omega
      rw [List.drop_of_length_le (Nat.le_refl _)] at HO
      have hE : E = false := HO.out.symm
      subst hE
      go_wp2
      go_ret
      exact ⟨rfl, rfl⟩
/-- the reference's word for tkn. -/
def metB (zss : List (List Int)) (d : Nat) (s : Int) : Bool := zss.any fun l => decide (d < l.length) && decide (nth l d = s)
theorem metB_cons (l : List Int) (zss : List (List Int)) (d : Nat) (s : Int) : metB (l :: zss) d s = ((decide (d < l.length) && decide (nth l d = s)) || metB zss d s) := rfl
theorem metB_tkn {zss : List (List Int)} {d : Nat} {s : Int} (h : ∀ l ∈ zss, d < l.length) : metB zss d s = tkn zss d s := by
  induction zss with
  | nil => rfl
  | cons l t ih =>
    rw [metB_cons, tkn_cons, ih (fun x hx => h x (List.mem_cons_of_mem _ hx)), decide_eq_true (h l (List.mem_cons_self ..)), Bool.true_and]
theorem rmet_any (a : Option Addr) (cap : Nat) (zss : List (List Int)) (d : Nat) (s : Int) (w : World) (hL : LstAt w a zss) (hl : zss.length ≤ 1000) (hz : ∀ k, k < zss.length → (lth zss k).length ≤ 9223372036854775807) :
    Calls Try.prog 70 #[.slice a zss.length cap, .int .i64 d, .int .i64 s] w fun e w' => e = .returned (.bool (metB zss d s)) ∧ w = w' := by
  have HL := Lib.hid hL
  have HZ := Lib.hid hz
  have hlx : (zss.length : Int) ≤ 1000 := by omega
  clear hL hz
  generalize hE : metB zss d s = E at *
  have HE := Lib.hid hE
  clear hE
  go_enter Try.func70, Try.ntmps70
  go_wp2_with fail
  go_loopw [7] (fun iv wr => ∃ k : Nat, k ≤ zss.length ∧ iv = .int .i64 k ∧ Hid (metB (zss.drop k) d s = E) ∧ wr = w) (fun iv _ => zss.length - (intOf iv).toNat)
  case atStart => exact ⟨0, Nat.zero_le _, rfl, HE, rfl⟩
  case round =>
    obtain ⟨k, hk, rfl, HO, rfl⟩ := hrel
    by_cases hlt : k < zss.length
    · have hkx : (k : Int) < zss.length := by omega
      obtain ⟨bb, off, l, lc, ea, hbb, d1, hI⟩ := HL.out k hlt
      subst ea
      have hd := lth_drop zss k hlt
      rw [hd, metB_cons] at HO
      have hzk := HZ.out k hlt
      by_cases hdl : d < (lth zss k).length
      · rw [decide_eq_true hdl, Bool.true_and] at HO
        obtain ⟨b2, off2, ea2, hb2, e2⟩ := hI d hdl
        subst ea2
        have hdx : (d : Int) < (lth zss k).length := by omega
        generalize nth (lth zss k) d = z at *
        generalize (lth zss k).length = n at *
        clear hd hI
        by_cases hq : z = s
        · rw [decide_eq_true hq, Bool.true_or] at HO
          have hE : E = true := HO.out.symm
          subst hE
          subst hq
          go_wp2
          go_ret
          exact ⟨rfl, rfl⟩
        · rw [decide_eq_false hq, Bool.false_or] at HO
          have hqb : (z == s) = false := by rw [beq_eq_false_iff_ne]; exact hq
          go_wp2
          go_round
          case rel => exact ⟨k + 1, by omega, by go_num, HO, trivial⟩
          case measure => simp [intOf]; omega
      · rw [decide_eq_false hdl, Bool.false_and, Bool.false_or] at HO
        have hdx : ¬ (d : Int) < (lth zss k).length := by omega
        generalize (lth zss k).length = n at *
        clear hd hI
        go_wp2
        go_round
        case rel => exact ⟨k + 1, by omega, by go_num, HO, trivial⟩
        case measure => simp [intOf]; omega
    · obtain rfl : k = zss.length := by omega
      rw [List.drop_of_length_le (Nat.le_refl _)] at HO
      have hE : E = false := HO.out.symm
      subst hE
      go_wp2
      go_ret
      exact ⟨rfl, rfl⟩
end Go.Proofs.Ytpgifeaejjjjnaa
