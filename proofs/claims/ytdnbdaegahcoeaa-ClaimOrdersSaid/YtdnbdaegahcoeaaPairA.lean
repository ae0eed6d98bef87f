/- Layer 1: two houses, what each function answers. -/
import Derived.Test.YtdnbdaegahcoeaaY
import Derived.Test.YtdnbdaegahcoeaaX
namespace Go.Proofs.Ytdnbdaegahcoeaa
open Go.RowKit Go.Sort
/-- the first's part of two, of w. -/
def e1 (x a b : Int) : Int := tw1 (x * 120) (a * 120) (b * 120) / 2
theorem K2 (a b : Int) : K [a, b] 0 = a * 120 ∧ K [a, b] 1 = b * 120 ∧ K [a, b] 2 = 0 ∧ K [a, b] 3 = 0 ∧ K [a, b] 4 = 0 := by
  exact ⟨rfl, rfl, rfl, rfl, rfl⟩
theorem lev2 (m : Fin 5 → Int) (p L : Int) (hL : 0 ≤ L) (hp : p = min (m 0) L + min (m 1) L) : lev m 2 p 0 = min (m 0) L ∧ lev m 2 p 1 = min (m 1) L := by
  have h := lev_eq m 2 (by decide) p L hL (by rw [hp]; simp [idxL])
  exact ⟨by rw [h, if_pos (by decide)], by rw [h, if_pos (by decide)]⟩
theorem take2 (f : Fin 5 → Int) : (list5 f).take 2 = [f 0, f 1] := rfl
theorem pr_lo (x a b : Int) (hx : 0 ≤ x) (h : 2 * x ≤ a + b) : (list5 (lev (fun i => K [a, b] i / 2) 2 (x * 120))).take 2 = [e1 x a b, e1 x b a] := by
  obtain ⟨k0, k1, _⟩ := K2 a b
  have hL := lev2 (fun i => K [a, b] i / 2) (x * 120) (if x ≤ a ∧ x ≤ b then x * 60 else if a ≤ b then x * 120 - a * 60 else x * 120 - b * 60) (by (repeat' split) <;> omega)
    (by simp only [k0, k1]; (repeat' split) <;> omega)
  rw [take2, hL.1, hL.2]
  simp only [k0, k1, e1, tw1]
  refine congr (congrArg _ ?_) (congrArg (fun z => [z]) ?_) <;> ((repeat' split) <;> omega)
theorem pr_hi (x a b : Int) (hx : x ≤ a + b) (h : a + b < 2 * x) : (list5 (fun i => K [a, b] i - lev (fun i => K [a, b] i / 2) 2 ([a, b].sum * 120 - x * 120) i)).take 2 = [e1 x a b, e1 x b a] := by
  obtain ⟨k0, k1, _⟩ := K2 a b
  have hs : [a, b].sum = a + b := by simp
  have hL := lev2 (fun i => K [a, b] i / 2) ([a, b].sum * 120 - x * 120) (if a + b - x ≤ a ∧ a + b - x ≤ b then (a + b - x) * 60 else if a ≤ b then (a + b - x) * 120 - a * 60 else (a + b - x) * 120 - b * 60) (by (repeat' split) <;> omega)
    (by simp only [k0, k1, hs]; (repeat' split) <;> omega)
  rw [take2, hL.1, hL.2]
  simp only [k0, k1, e1, tw1]
  refine congr (congrArg _ ?_) (congrArg (fun z => [z]) ?_) <;> ((repeat' split) <;> omega)
theorem pr_avg (x a b : Int) (ha : 1 ≤ a ∧ a ≤ 1000) (hb : 1 ≤ b ∧ b ≤ 1000) (hx : 0 ≤ x ∧ x ≤ a + b) : (list5 (fun i => addAll (K [a, b]) (x * 120) (vis 2 (idxL 2) 0) (fun _ => 0) i / (fct 2 : Int))).take 2 = [e1 x a b, e1 x b a] := by
  obtain ⟨k0, k1, _⟩ := K2 a b
  have hv : vis 2 (idxL 2) 0 = [[0, 1], [1, 0]] := by decide
  rw [take2, hv]
  simp only [addAll, List.foldl, inF, upd, k0, k1, e1, tw1, fct]
  refine congr (congrArg _ ?_) (congrArg (fun z => [z]) ?_) <;> (simp; omega)
theorem pr_sum (x a b : Int) : e1 x a b + e1 x b a = 120 * x := by
  simp only [e1, tw1]; omega
theorem pr_garment (x a b : Int) : 2 * e1 x a b = max 0 (120 * x - 120 * b) + 120 * x - max 0 (120 * x - 120 * a) := by
  simp only [e1, tw1]; omega
/-- a call that hands back two numbers in a slice, and no error. -/
abbrev Sl2 (w : World) (zs : List Int) (e : Ending) (w' : World) : Prop := ∃ l cap, e = .returned (.tuple #[.slice l 2 cap, .int .i64 0]) ∧ IntsAt w' l zs ∧ Fut w w'
theorem own_sl2 {w : World} {f : List Int} {zs : List Int} {P : Program} {k : Nat} {args : Array Value} (hf : f = zs) (hl : zs.length = 2)
    (h : Calls P k args w fun e w' => ∃ v, e = .returned (.tuple #[v, .int .i64 0]) ∧ Owns w' w.heap.size v f ∧ RowKit.Below w.heap.size w w') : Calls P k args w (Sl2 w zs) := by
  refine h.mono ?_
  rintro e w' ⟨v, rfl, hO, hB⟩
  rw [hf] at hO
  obtain ⟨l, cap, rfl, hA, hF⟩ := own_out hl hO hB
  exact ⟨l, cap, rfl, hA, hF⟩
theorem pr_chk (x a b : Int) (ha : 1 ≤ a ∧ a ≤ 1000) (hb : 1 ≤ b ∧ b ≤ 1000) (hx : 0 ≤ x ∧ x ≤ a + b) : chk x [a, b] = 0 := by
  simp [chk, isClaimB, ha, hb, hx]
theorem pr_div (x a b : Int) (l : Option Addr) (w : World) (ha : 1 ≤ a ∧ a ≤ 1000) (hb : 1 ≤ b ∧ b ≤ 1000) (hx : 0 ≤ x ∧ x ≤ a + b) (h : IntsAt w l [a, b]) :
    Calls Try.prog 17 #[.int .i64 x, .slice l 2 2] w (Sl2 w [e1 x a b, e1 x b a]) := by
  obtain ⟨k0, k1, k2, k3, k4⟩ := K2 a b
  by_cases hh : 2 * x ≤ a + b
  · exact own_sl2 (pr_lo x a b hx.1 hh) rfl (divide_lo x l 2 [a, b] _ w rfl h (pr_chk x a b ha hb hx) (by simp only [k0, k1, k2, k3, k4]; omega))
  · exact own_sl2 (pr_hi x a b hx.2 (by omega)) rfl (divide_hi x l 2 [a, b] _ w rfl h (pr_chk x a b ha hb hx) (by simp only [k0, k1, k2, k3, k4]; omega))
theorem pr_av (x a b : Int) (l : Option Addr) (w : World) (ha : 1 ≤ a ∧ a ≤ 1000) (hb : 1 ≤ b ∧ b ≤ 1000) (hx : 0 ≤ x ∧ x ≤ a + b) (h : IntsAt w l [a, b]) :
    Calls Try.prog 30 #[.int .i64 x, .slice l 2 2] w (Sl2 w [e1 x a b, e1 x b a]) :=
  own_sl2 (pr_avg x a b ha hb hx) rfl (average_ok x l 2 [a, b] w h (pr_chk x a b ha hb hx))
theorem pr_two (x a b : Int) (w : World) (ha : 1 ≤ a ∧ a ≤ 1000) (hb : 1 ≤ b ∧ b ≤ 1000) (hx : 0 ≤ x ∧ x ≤ a + b) :
    Calls Try.prog 26 #[.int .i64 x, .int .i64 a, .int .i64 b] w fun e w' => e = .returned (.tuple #[.int .i64 (e1 x a b), .int .i64 (e1 x b a), .int .i64 0]) ∧ w = w' :=
  two_ok x a b w (by simp [twoB, isClaimB, ha, hb, hx])
theorem pr_two1 (a b : Int) (w : World) :
    Calls Try.prog 26 #[.int .i64 (a + b + 1), .int .i64 a, .int .i64 b] w fun e w' => e = .returned (.tuple #[.int .i64 0, .int .i64 0, .int .i64 1]) ∧ w = w' :=
  two_err _ a b w (by simp [twoB]; omega)
theorem pr_same (a c : Option Addr) (cap : Nat) (zs : List Int) (w : World) (hl : zs.length = 2) (h : IntsAt w a zs) (hc : IntsAt w c zs) : Calls Try.prog 23 #[.slice a 2 cap, .slice c 2 2] w fun e w' => e = .returned (.bool true) ∧ Fut w w' := by
  have := same_any a c cap 2 zs zs w (by omega) (by omega) h hc
  rw [hl] at this
  refine this.mono ?_
  rintro e w' ⟨rfl, q, rfl⟩
  exact ⟨by simp [sameB], Fut.drewN _ _⟩
theorem pr_ref (x a b : Int) (w : World) (ha : 1 ≤ a ∧ a ≤ 1000) (hb : 1 ≤ b ∧ b ≤ 1000) (hx : 0 ≤ x ∧ x ≤ a + b) :
    Calls Try.prog 42 #[.int .i64 (120 * x), .int .i64 (120 * a), .int .i64 (120 * b)] w fun e w' => e = .returned (.int .i64 (2 * e1 x a b)) ∧ w = w' := by
  rw [pr_garment]
  go_enter Try.func42, Try.ntmps42
  go_wp2
  all_goals
    go_ret
    exact ⟨ret_int (by omega), rfl⟩
end Go.Proofs.Ytdnbdaegahcoeaa
