/- asks 52; what SieveBest's callback holds -/
import Derived.Test.YtjapconhehdcjaaWD
import Derived.Test.YtjapconhehdcjaaVN
import Derived.Test.YtjapconhehdcjaaVG
import Derived.Test.YtjapconhehdcjaaVH
import Derived.Test.YtjapconhehdcjaaVD
namespace Go.Proofs.Ytjapconhehdcjaa
open Go.RowKit Go.Sort
namespace Sv
theorem dotI_take (zs : List Int) (D : List Nat) (i : Nat) (hi : i < D.length) (hz : i < zs.length) : dotI zs (D.take (i + 1)) = dotI zs (D.take i) + nth zs i * nth (castL D) i := by
  rw [List.take_succ_eq_append_getElem hi, dotI_app _ _ _ (by rw [List.length_take]; omega), List.length_take, Nat.min_eq_left (by omega), List.drop_eq_getElem_cons hz, castL_nth D i hi, nth_eq, List.getElem?_eq_getElem hz]
  show _ + (zs[i] * (D[i] : Int) + dotI _ []) = _
  rw [dotI_nil, Int.add_zero]; rfl
/-- what SieveBest's callback holds when the trees D are done. -/
def BestSt (zs : List Int) (D : List Tr) (v : Int) (m : Nat) (hd lt : Option Tr) : Prop :=
  (D = [] ∧ v = -1 ∧ m = 0 ∧ hd = none ∧ lt = none) ∨ (0 ≤ v ∧ (∀ t ∈ D, v ≤ qst zs t) ∧ D.filter (fun t => qst zs t == v) ≠ [] ∧ m = (D.filter (fun t => qst zs t == v)).length ∧ hd = (D.filter (fun t => qst zs t == v)).head? ∧ lt = (D.filter (fun t => qst zs t == v)).getLast?)
theorem st_nil (zs : List Int) : BestSt zs [] (-1) 0 none none := .inl ⟨rfl, rfl, rfl, rfl, rfl⟩
theorem st_cnt {zs : List Int} {D : List Tr} {v : Int} {m : Nat} {hd lt : Option Tr} (h : BestSt zs D v m hd lt) : m ≤ D.length := by
  rcases h with ⟨_, _, rfl, _, _⟩ | ⟨_, _, _, rfl, _, _⟩
  · omega
  · exact List.length_filter_le _ _
theorem st_less {zs : List Int} {D : List Tr} {v : Int} {m : Nat} {hd lt : Option Tr} (h : BestSt zs D v m hd lt) {t : Tr} (hq : 0 ≤ qst zs t) (hl : v < 0 ∨ qst zs t < v) : BestSt zs (D ++ [t]) (qst zs t) 1 (some t) (some t) := by
  have hall : ∀ u ∈ D, qst zs t < qst zs u := fun u hu => by
    rcases h with ⟨rfl, _⟩ | ⟨h0, h1, _⟩
    · simp at hu
    · have := h1 u hu; omega
  have hf : (D ++ [t]).filter (fun u => qst zs u == qst zs t) = [t] := by
    rw [List.filter_append, List.filter_eq_nil_iff.2 fun u hu => by have := hall u hu; simp; omega]
    simp
  refine .inr ⟨hq, fun u hu => ?_, by rw [hf]; simp, by rw [hf]; rfl, by rw [hf]; rfl, by rw [hf]; rfl⟩
  rcases List.mem_append.1 hu with hu | hu
  · have := hall u hu; omega
  · rw [List.mem_singleton.1 hu]; omega
theorem st_eq {zs : List Int} {D : List Tr} {v : Int} {m : Nat} {hd lt : Option Tr} (h : BestSt zs D v m hd lt) {t : Tr} (hl : ¬ v < 0) (he : qst zs t = v) : BestSt zs (D ++ [t]) v (m + 1) hd (some t) := by
  rcases h with ⟨_, rfl, _⟩ | ⟨h0, h1, h2, h3, h4, h5⟩
  · omega
  have hf : (D ++ [t]).filter (fun u => qst zs u == v) = D.filter (fun u => qst zs u == v) ++ [t] := by
    rw [List.filter_append]; simp [he]
  obtain ⟨x, xs, hx⟩ := List.exists_cons_of_ne_nil h2
  refine .inr ⟨h0, fun u hu => ?_, by rw [hf]; simp, by rw [hf, List.length_append, ← h3]; rfl, by rw [hf, h4, hx]; rfl, by rw [hf]; simp⟩
  rcases List.mem_append.1 hu with hu | hu
  · exact h1 u hu
  · rw [List.mem_singleton.1 hu]; omega
theorem st_more {zs : List Int} {D : List Tr} {v : Int} {m : Nat} {hd lt : Option Tr} (h : BestSt zs D v m hd lt) {t : Tr} (hl : ¬ v < 0) (he : v < qst zs t) : BestSt zs (D ++ [t]) v m hd lt := by
  rcases h with ⟨_, rfl, _⟩ | ⟨h0, h1, h2, h3, h4, h5⟩
  · omega
  have hf : (D ++ [t]).filter (fun u => qst zs u == v) = D.filter (fun u => qst zs u == v) := by
    have : (qst zs t == v) = false := by simp; omega
    rw [List.filter_append]; simp [this]
  refine .inr ⟨h0, fun u hu => ?_, by rw [hf]; exact h2, by rw [hf]; exact h3, by rw [hf]; exact h4, by rw [hf]; exact h5⟩
  rcases List.mem_append.1 hu with hu | hu
  · exact h1 u hu
  · rw [List.mem_singleton.1 hu]; omega
theorem st_end {zs : List Int} (hz : ∀ z ∈ zs, 0 ≤ z) (h1 : 1 ≤ zs.length) {v : Int} {m : Nat} {hd lt : Option Tr} (h : BestSt zs (trs (zs.length - 1)) v m hd lt) : v = f0 zs 0 (zs.length - 1) ∧ m = (bstT zs).length ∧ hd = (bstT zs).head? ∧ lt = (bstT zs).getLast? := by
  rcases h with ⟨h, _⟩ | ⟨_, a1, a2, a3, a4, a5⟩
  · obtain ⟨t, ht, _⟩ := least_ex hz h1
    have := (mem_trs (zs.length - 1) t).2 (by omega)
    rw [h] at this; simp at this
  obtain ⟨x, xs, hx⟩ := List.exists_cons_of_ne_nil a2
  have hm : x ∈ (trs (zs.length - 1)).filter (fun t => qst zs t == v) := by rw [hx]; simp
  obtain ⟨m1, m2⟩ := List.mem_filter.1 hm
  have hv : f0 zs 0 (zs.length - 1) = v := least_uniq hz h1 (fun t ht => a1 t ((mem_trs _ t).2 (by omega))) ⟨x, by have := (mem_trs _ x).1 m1; omega, by simpa using m2⟩
  rw [bst_all hz h1, hv]
  exact ⟨rfl, a3, a4, a5⟩
end Sv
set_option maxRecDepth 100000 in
set_option maxHeartbeats 4000000 in
theorem asks_any (a b : Option Addr) (n m c d : Nat) (zs : List Int) (D : List Nat) (hz : zs.length = n) (hD : D.length = m) (hm : m ≤ n) (hm8 : m ≤ 8) (hzb : ∀ z ∈ zs, 0 ≤ z ∧ z ≤ 100) (hdb : ∀ x ∈ D, x ≤ 8) (w : World) (hA : IntsAt w a zs) (hB : IntsAt w b (castL D)) :
    Calls Try.prog 52 #[.slice a n c, .slice b m d] w fun e w' => e = .returned (.int .i64 (Sv.dotI zs D)) ∧ w = w' := by
  have HA := Lib.hid hA
  have HB := Lib.hid hB
  have HS := Lib.hid (fun i hi hz => Sv.dotI_take zs D i hi hz)
  have HX := Lib.hid (fun i (hi : i < zs.length) => hzb _ (nth_mem hi))
  have HY := Lib.hid (fun i (hi : i < D.length) => show 0 ≤ nth (castL D) i ∧ nth (castL D) i ≤ 8 by
    rw [castL_nth D i hi]
    have := hdb _ (List.getElem_mem hi)
    omega)
  have HT := Lib.hid (fun i => dotI_bd zs (D.take i) hzb (fun x hx => hdb x (List.mem_of_mem_take hx)))
  have HZ := Lib.hid hz
  have HD := Lib.hid hD
  have H0 : Hid (Sv.dotI zs (D.take 0) = 0) := Lib.hid (by rw [List.take_zero, Sv.dotI_nil])
  have HE : Hid (Sv.dotI zs (D.take m) = Sv.dotI zs D) := Lib.hid (by rw [← hD, List.take_length])
  have hmx : (m : Int) ≤ 8 := by omega
  clear hA hB hzb hdb hz hD
  go_enter Try.func52, Try.ntmps52
  go_wp2_with fail
  go_loopw [5, 10] (fun sv iv wr => ∃ (i : Nat), i ≤ m ∧ iv = .int .i64 (i : Nat) ∧ sv = .int .i64 (Sv.dotI zs (D.take i)) ∧ w = wr) (fun _ iv _ => m - (intOf iv).toNat)
  case atStart => exact ⟨0, by omega, rfl, by rw [H0.out], rfl⟩
  case round =>
    obtain ⟨i, hi, rfl, rfl, rfl⟩ := hrel
    by_cases hil : i < m
    · have hix : (i : Int) < m := by omega
      have hin : (i : Int) < n := by omega
      have hi1 : i < D.length := by rw [HD.out]; exact hil
      have hi2 : i < zs.length := by rw [HZ.out]; omega
      obtain ⟨bb, oo, rfl, hbb, c1⟩ := HA.out i hi2
      obtain ⟨bc, oc, rfl, hbc, c2⟩ := HB.out i (by rw [castL_len]; exact hi1)
      have HSS := Lib.hid (HS.out i hi1 hi2)
      have hx := HX.out i hi2
      have hy := HY.out i hi1
      have ht := HT.out i
      have htl : ((D.take i).length : Int) ≤ 8 := by rw [List.length_take]; omega
      generalize Sv.dotI zs (D.take i) = s at *
      generalize nth zs i = x at *
      generalize nth (castL D) i = y at *
      have hp : 0 ≤ x * y ∧ x * y ≤ 800 := ⟨Int.mul_nonneg hx.1 hy.1, by
        have := Int.mul_le_mul hx.2 hy.2 hy.1 (by omega : (0 : Int) ≤ 100)
        omega⟩
      have hw1 : IntKind.i64.wrap (x * y) = x * y := IntWalk.i64_in _ ⟨by omega, by omega⟩
      have hw2 : IntKind.i64.wrap (s + x * y) = s + x * y := IntWalk.i64_in _ ⟨by omega, by omega⟩
      have hw3 : IntKind.i64.wrap ((i : Int) + 1) = ((i + 1 : Nat) : Int) := by rw [IntWalk.i64_in _ ⟨by omega, by omega⟩]; omega
      clear ht htl hp hx hy
      go_wp2_with fail
      go_roundw
      case rel => first
        | exact ⟨i + 1, by omega, rfl, by rw [HSS.out], rfl⟩
        | exact ⟨i + 1, by omega, rfl, by rw [HSS.out], trivial⟩
        | ((repeat apply Exists.intro); exact ⟨⟨i + 1, by omega, rfl, by rw [HSS.out], rfl⟩, rfl⟩)
      case measure => simp [intOf]; omega
    · obtain rfl : i = m := by omega
      rw [HE.out]
      go_wp2_with fail
      go_ret
      exact ⟨rfl, rfl⟩
end Go.Proofs.Ytjapconhehdcjaa
