/- Layer 2: lists compared. -/
import Derived.Test.YtimddkofcejijaaRH
namespace Go.Proofs.Ytimddkofcejijaa
open Go.RowKit Go.Sort
/-- lists compared. -/
def cmpL : List Int → List Int → Int
  | [], [] => 0
  | [], _ :: _ => -1
  | _ :: _, [] => 1
  | x :: xs, y :: ys => if cmpI x y = 0 then cmpL xs ys else cmpI x y
theorem nth_drop (zs : List Int) (k : Nat) (hk : k < zs.length) : zs.drop k = nth zs k :: zs.drop (k + 1) := by
  rw [nth_eq, List.getElem?_eq_getElem hk]
  exact List.drop_eq_getElem_cons hk
set_option maxRecDepth 100000 in
set_option maxHeartbeats 1000000 in
theorem compareL_any (a c : Option Addr) (cap dap : Nat) (xs ys : List Int) (w : World) (hl : xs.length ≤ 1000) (hl' : ys.length ≤ 1000) (hA : IntsAt w a xs) (hC : IntsAt w c ys) :
    Calls Try.prog 98 #[.slice a xs.length cap, .slice c ys.length dap] w fun e w' => e = .returned (.int .i64 (cmpL xs ys)) ∧ w = w' := by
  have HA := Lib.hid hA
  have HC := Lib.hid hC
  have hlx : (xs.length : Int) ≤ 1000 := by omega
  have hly : (ys.length : Int) ≤ 1000 := by omega
  clear hA hC
  generalize hRR : cmpL xs ys = R
  have HRR := Lib.hid hRR
  clear hRR
  go_enter Try.func98, Try.ntmps98
  go_wp2_with fail
  go_loop [11] (fun iv => ∃ k : Nat, k ≤ xs.length ∧ k ≤ ys.length ∧ iv = .int .i64 k ∧ Hid (cmpL (xs.drop k) (ys.drop k) = R)) (fun iv => xs.length - (intOf iv).toNat)
  case atStart => exact ⟨0, Nat.zero_le _, Nat.zero_le _, rfl, HRR⟩
  case round =>
    obtain ⟨k, hk, hk', rfl, HO⟩ := hrel
    by_cases hlt : k < xs.length
    · have hkx : (k : Int) < xs.length := by omega
      obtain ⟨b, off, ea, hb, c1⟩ := HA.out k hlt
      subst ea
      have hd := nth_drop xs k hlt
      rw [hd] at HO
      clear hd
      by_cases hlt' : k < ys.length
      · have hky : (k : Int) < ys.length := by omega
        obtain ⟨b', off', ea, hb', c2⟩ := HC.out k hlt'
        subst ea
        have hd := nth_drop ys k hlt'
        rw [hd] at HO
        clear hd
        have HK := Lib.hid (fun W => compare_any (nth xs k) (nth ys k) W)
        generalize nth xs k = x at *
        generalize nth ys k = y at *
        unfold cmpL at HO
        by_cases hz : cmpI x y = 0
        · rw [hz] at HK HO
          rw [if_pos rfl] at HO
          clear hz
          go_wp2_with (go_at_call 112; refine (HK.out _).mono ?_; rintro _ _ ⟨rfl, rfl⟩)
          go_round
          case rel => exact ⟨k + 1, by omega, by omega, by go_num, HO⟩
          case measure => simp [intOf]; omega
        · rw [if_neg hz] at HO
          have hz' : (cmpI x y != 0) = true := by rw [bne_iff_ne]; exact hz
          generalize cmpI x y = q at *
          clear hz
          go_wp2_with (go_at_call 112; refine (HK.out _).mono ?_; rintro _ _ ⟨rfl, rfl⟩)
          go_ret
          exact ⟨reti (by have h1 := HO.out; rw [h1]), rfl⟩
      · have hky : ¬ (k : Int) < ys.length := by omega
        have e : ys.drop k = [] := List.drop_of_length_le (by omega)
        rw [e] at HO
        clear e
        go_wp2
        go_ret
        exact ⟨reti (by have h1 := HO.out; rw [← h1]; rfl), rfl⟩
    · obtain rfl : k = xs.length := by omega
      have e : xs.drop xs.length = [] := List.drop_of_length_le (Nat.le_refl _)
      rw [e] at HO
      clear e
      by_cases hlt' : xs.length < ys.length
      · have hd := nth_drop ys _ hlt'
        rw [hd] at HO
        have hdx : (xs.length : Int) < ys.length := by omega
        clear hd
        go_wp2
        go_ret
        exact ⟨reti (by have h1 := HO.out; rw [← h1]; rfl), rfl⟩
      · have hdx : ¬ (xs.length : Int) < ys.length := by omega
        have e : ys.drop xs.length = [] := List.drop_of_length_le (by omega)
        rw [e] at HO
        clear e
        go_wp2
        go_ret
        exact ⟨reti (by have h1 := HO.out; rw [← h1]; rfl), rfl⟩
def fewerB (xs ys : List Int) : Bool := if xs.length = ys.length then decide (cmpL xs ys < 0) else decide (xs.length < ys.length)
set_option maxRecDepth 100000 in
theorem fewer_any (a c : Option Addr) (cap dap : Nat) (xs ys : List Int) (w : World) (hl : xs.length ≤ 1000) (hl' : ys.length ≤ 1000) (hA : IntsAt w a xs) (hC : IntsAt w c ys) :
    Calls Try.prog 66 #[.slice a xs.length cap, .slice c ys.length dap] w fun e w' => e = .returned (.bool (fewerB xs ys)) ∧ w = w' := by
  have HK := Lib.hid (compareL_any a c cap dap xs ys w hl hl' hA hC)
  have hlx : (xs.length : Int) ≤ 1000 := by omega
  have hly : (ys.length : Int) ≤ 1000 := by omega
  clear hA hC
  by_cases he : xs.length = ys.length
  · have hb : Hid (fewerB xs ys = decide (cmpL xs ys < 0)) := Lib.hid (by unfold fewerB; rw [if_pos he])
    rw [hb.out]
    have he' : ((xs.length : Int) != ys.length) = false := by rw [he]; simp
    clear hb he
    generalize cmpL xs ys = q at *
    go_enter Try.func66, Try.ntmps66
    go_wp2_with fail
    refine HK.out.mono ?_
    rintro _ _ ⟨rfl, rfl⟩
    go_wp2
    all_goals
      go_ret
      exact ⟨retb (by first | (simp; done) | (simp; omega)), rfl⟩
  · have hb : Hid (fewerB xs ys = decide (xs.length < ys.length)) := Lib.hid (by unfold fewerB; rw [if_neg he])
    rw [hb.out]
    have he' : ((xs.length : Int) != ys.length) = true := by rw [bne_iff_ne]; omega
    clear hb HK
    go_enter Try.func66, Try.ntmps66
    go_wp2
    go_ret
    exact ⟨retb (by simp), rfl⟩
end Go.Proofs.Ytimddkofcejijaa
