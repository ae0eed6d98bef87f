/- what made makes is accepted; calls on a good plan -/
import Derived.Test.YtflllkamdihfaaaLGC
import Derived.Test.YtflllkamdihfaaaLGA
import Derived.Test.YtflllkamdihfaaaLGB
import Derived.Test.YtflllkamdihfaaaLBG
import Derived.Test.YtflllkamdihfaaaLMA
import Derived.Test.YtflllkamdihfaaaLMC
import Derived.Test.YtflllkamdihfaaaLBJ
import Derived.Test.YtflllkamdihfaaaLDH
import Derived.Test.YtflllkamdihfaaaLB
namespace Go.Proofs.Ytflllkamdihfaaa
open Go.RowKit Go.Sort
theorem fr_mem {b : Nat → Bool} {i : Nat} {x : Int} : x ∈ frL b i ↔ ∃ n : Nat, x = (n : Int) ∧ n < i ∧ b n = false := by
  unfold frL
  rw [List.mem_map]
  constructor
  · rintro ⟨n, h, rfl⟩
    rw [List.mem_filter, List.mem_range] at h
    exact ⟨n, rfl, h.1, by simpa using h.2⟩
  · rintro ⟨n, rfl, h1, h2⟩
    exact ⟨n, by rw [List.mem_filter, List.mem_range]; exact ⟨h1, by simpa using h2⟩, rfl⟩
theorem sh_mem {b : Nat → Bool} {i : Nat} {x : Int} : x ∈ shL b i ↔ ∃ n : Nat, x = (n : Int) ∧ n < i ∧ b n = true := by
  unfold shL
  rw [List.mem_map]
  constructor
  · rintro ⟨n, h, rfl⟩
    rw [List.mem_filter, List.mem_range] at h
    exact ⟨n, rfl, h.1, h.2⟩
  · rintro ⟨n, rfl, h1, h2⟩
    exact ⟨n, by rw [List.mem_filter, List.mem_range]; exact ⟨h1, h2⟩, rfl⟩
theorem sh_asc (b : Nat → Bool) (i : Nat) : (shL b i).Pairwise (· < ·) := by
  unfold shL
  rw [List.pairwise_map]
  exact (List.pairwise_lt_range.filter _).imp (fun h => by omega)
theorem fr_nodup (b : Nat → Bool) (i : Nat) : (frL b i).Nodup := by
  unfold frL List.Nodup
  rw [List.pairwise_map]
  exact (List.pairwise_lt_range.filter _).imp (fun h => by omega)
/-- the rows and columns of a plan. -/
theorem made_side (t : Nat → Nat) : Side (mR t : Nat) (mC t : Nat) ((mR t : Int) * (mC t : Int)) := by
  unfold mR mC
  exact ⟨by omega, by omega, by omega, by omega, rfl⟩
theorem made_g {t : Nat → Nat} (h : mOk t = true) : ChkG (mR t : Nat) (mC t : Nat) (mS t) (mY t) (mT t) := by
  have hk : mK t ≤ (mF t).length := by simpa [mOk] using h
  have hk1 : 1 ≤ mK t ∧ mK t ≤ 3 := by unfold mK; omega
  have hin : ∀ x ∈ mF t, 0 ≤ x ∧ x < (mR t : Int) * (mC t : Int) ∧ x ∉ mS t := fun x hx => by
    obtain ⟨n, rfl, h1, h2⟩ := fr_mem.1 hx
    refine ⟨by omega, by rw [← Int.natCast_mul]; omega, fun q => ?_⟩
    obtain ⟨n', e, _, h3⟩ := sh_mem.1 q
    have : n = n' := by omega
    rw [this, h3] at h2; cases h2
  have eY : mY t = drw (fun j => t (4 + j)) (mK t) 0 (mF t) := by unfold mY; rw [if_pos h]
  have eT : mT t = drw (fun j => t (7 + j)) (mK t) 0 (mF t) := by unfold mT; rw [if_pos h]
  refine ⟨made_side t, ?_, ?_, ?_, ?_, ?_, ?_, ?_⟩
  · rw [eY, eT, drw_len, drw_len]
  · rw [eY, drw_len]; exact hk1.1
  · rw [eY, drw_len]; exact hk1.2
  · rw [eY]; exact fun x hx => hin x (drw_sub _ _ _ _ hk x hx)
  · rw [eT]; exact fun x hx => hin x (drw_sub _ _ _ _ hk x hx)
  · rw [eY]; exact drw_nodup _ _ _ _ hk (fr_nodup _ _)
  · rw [eT]; exact drw_nodup _ _ _ _ hk (fr_nodup _ _)
theorem made_sin (t : Nat → Nat) : ∀ x ∈ mS t, 0 ≤ x ∧ x < (mR t : Int) * (mC t : Int) := fun x hx => by
  obtain ⟨n, rfl, h1, _⟩ := sh_mem.1 hx
  exact ⟨by omega, by rw [← Int.natCast_mul]; omega⟩
theorem made_chk {t : Nat → Nat} (h : mOk t = true) : chkP (mR t : Nat) (mC t : Nat) (mS t) (mY t) (mT t) = 0 := chk_good (made_g h) (made_sin t) (sh_asc _ _)
theorem inpq_made {w : World} {B : Nat} {sa ya ta : Option Addr} {S Y T : List Int} {sc yc tc : Nat} (hS : Owns w B (.slice sa S.length sc) S) (hY : Owns w B (.slice ya Y.length yc) Y) (hT : Owns w B (.slice ta T.length tc) T) (l1 : S.length ≤ 1000) (l2 : Y.length ≤ 1000) (l3 : T.length ≤ 1000) : InPQ w sa S ya yc Y ta tc T := by
  obtain ⟨_, _, e1, _, _, h1⟩ := hS.form
  obtain ⟨_, _, e2, g2, _, h2⟩ := hY.form
  obtain ⟨_, _, e3, g3, _, h3⟩ := hT.form
  simp only [Value.slice.injEq, true_and] at e1 e2 e3
  obtain ⟨rfl, rfl⟩ := e1
  obtain ⟨rfl, rfl⟩ := e2
  obtain ⟨rfl, rfl⟩ := e3
  exact ⟨h1, l1, h2, l2, g2, h3, l3, g3⟩
section
variable {r c : Int} {a : Option Addr} {cap : Nat} {S : List Int} {ya : Option Addr} {yc : Nat} {Y : List Int} {ta : Option Addr} {tc : Nat} {T : List Int} {w : World}
theorem ways_ok (h : InPQ w a S ya yc Y ta tc T) (hc : chkP r c S Y T = 0) {x y : Int} (hx : 0 ≤ x ∧ x < r * c) (hy : 0 ≤ y ∧ y < r * c) :
    Calls Try.prog 16 #[parV r c a S.length cap, plaV ya Y.length yc ta T.length tc, .int .i64 x, .int .i64 y] w fun e w' => e = .returned (.tuple #[.int .i64 (wayN c (r * c) S x y : Nat), .int .i64 0]) ∧ Fut w w' := by
  have := ways_any r c a cap S ya yc Y ta tc T x y w h
  have e : wayE r c S Y T x y = 0 := by unfold wayE; rw [if_pos hc, if_pos (by unfold inB; simp; omega), if_pos (by unfold inB; simp; omega)]
  have e2 : wayZ r c S Y T x y = wayN c (r * c) S x y := by unfold wayZ; rw [if_pos e]
  rw [e, e2] at this
  exact this
theorem count_ok (h : InPQ w a S ya yc Y ta tc T) (hc : chkP r c S Y T = 0) :
    Calls Try.prog 25 #[parV r c a S.length cap, plaV ya Y.length yc ta T.length tc] w fun e w' => e = .returned (.tuple #[.int .i64 ((famL c (r * c) S Y T).length : Nat), .int .i64 0]) ∧ Fut w w' := by
  have := fcount_any r c a cap S ya yc Y ta tc T w h
  have e : cntN r c S Y T = (famL c (r * c) S Y T).length := by unfold cntN; rw [if_pos hc]
  rw [e, hc] at this
  exact this
theorem ways_ok2 (h : InPQ w a S ya yc Y ta tc T) (hc : chkP r c S Y T = 0) {m : Int} (hm : r * c = m) {n : Nat} (hn : S.length = n) {x y : Int} (hx : 0 ≤ x ∧ x < m) (hy : 0 ≤ y ∧ y < m) :
    Calls Try.prog 16 #[parV r c a n cap, plaV ya Y.length yc ta T.length tc, .int .i64 x, .int .i64 y] w fun e w' => e = .returned (.tuple #[.int .i64 (wayN c m S x y : Nat), .int .i64 0]) ∧ Fut w w' := by
  subst hm hn
  exact ways_ok h hc hx hy
theorem count_ok2 (h : InPQ w a S ya yc Y ta tc T) (hc : chkP r c S Y T = 0) {n : Nat} (hn : S.length = n) {k : Nat} (hk : (famL c (r * c) S Y T).length = k) :
    Calls Try.prog 25 #[parV r c a n cap, plaV ya Y.length yc ta T.length tc] w fun e w' => e = .returned (.tuple #[.int .i64 (k : Nat), .int .i64 0]) ∧ Fut w w' := by
  subst hn hk
  exact count_ok h hc
end
theorem cell_fut {w w' : World} {p : Addr} {v : Value} (h : w.cell? p = some v ∧ p.block < w.heap.size) (F : Fut w w') : w'.cell? p = some v ∧ p.block < w'.heap.size := ⟨(RowKit.Below.cell F (p := p) h.2).trans h.1, Nat.lt_of_lt_of_le h.2 (RowKit.Below.size F)⟩
theorem own_ty {w : World} {B n A : Nat} {v : Value} {xs : List Value} {cs : Array Value} {t : TypeId} (h : w.ownsRow B 3 1 v n xs) (hA : w.heap[A]? = some (.cells cs t)) (ht : t ≠ 3 := by decide) : v.ownBlock ≠ some A := fun e => by
  rcases h.2 with ⟨rfl, _⟩ | ⟨g, cap, cur, rfl, _, hg, _⟩
  · cases e
  · simp [Value.ownBlock] at e
    rw [e, hA] at hg
    simp at hg
    exact ht hg.2
theorem own_but {w w' : World} {B A : Nat} {v : Value} {L : List Int} (h : Owns w B v L) (hb : But (fun q => q = A) w w') (hne : v.ownBlock ≠ some A) : Owns w' B v L := by
  refine ⟨h.1, ?_⟩
  rcases h.2 with hn | ⟨g, cap, cur, rfl, h1, hg, rest⟩
  · exact .inl hn
  · refine .inr ⟨g, cap, cur, rfl, h1, ?_, rest⟩
    rw [hb.block g (Array.getElem?_eq_some_iff.1 hg).1 (fun e => hne (by simp [Value.ownBlock, e]))]
    exact hg
theorem one_at (w : World) (y : Int) : IntsAt (w.alloc (.cells #[.int .i64 y] 3)) (some ⟨w.heap.size, 0, none⟩) [y] := fun j hj => by
  obtain rfl : j = 0 := by simp at hj; exact hj
  exact ⟨w.heap.size, 0, rfl, by simp, by rw [alloc_cell]; rfl⟩
end Go.Proofs.Ytflllkamdihfaaa
