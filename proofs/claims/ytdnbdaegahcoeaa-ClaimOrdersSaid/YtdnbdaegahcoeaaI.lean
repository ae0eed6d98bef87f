/- Layer 1: any two houses, yielded. -/
import Derived.Test.YtdnbdaegahcoeaaH
import Derived.RangeFuncNested
import Derived.RangeFuncBound
import Derived.RangeFuncCalls
import Derived.RangeFuncLeaves
import Derived.Shelf.Abstract
import Derived.Shelf.RegionOpen
import Derived.OwnWalkIn
import Derived.TacticsInMore
import Derived.LoopNIn
import Derived.LoopIn
namespace Go.Proofs.Ytdnbdaegahcoeaa
open Go.RowKit Go.Sort
open Go.Shelf
attribute [local go_sem] Oper.semAt_some
/-- any two houses, as they are yielded, when so many rows of them are left. -/
def rowsF (n : Nat) : Nat → List (Nat × Nat)
  | 0 => []
  | m + 1 => (List.range' (n - m) m).map (fun j => (n - m - 1, j)) ++ rowsF n m
theorem rowsF_mem {n : Nat} : ∀ {m : Nat} {p : Nat × Nat}, m ≤ n → p ∈ rowsF n m → p.1 < n ∧ p.2 < n
  | 0, p, _, h => by simp [rowsF] at h
  | m + 1, p, hm, h => by
    rcases List.mem_append.1 h with h | h
    · obtain ⟨j, hj, rfl⟩ := List.mem_map.1 h
      have := List.mem_range'_1.1 hj
      constructor <;> dsimp only <;> omega
    · exact rowsF_mem (by omega) h
set_option maxRecDepth 100000 in
set_option maxHeartbeats 2000000 in
theorem pairs1_in {α : Type} (F : Fence) (n : Nat) (h85 : F.fn 85) (hro : F.round = none) (hn : 1 ≤ n) (l Bs n₀ many : Nat) (hmany : many ≤ 1000) (hb : Bs < n₀) (val : α → Nat × Nat) (L : List α) (hL : L.map val = rowsF many many) (J Jx : List α → World → Prop)
    (hY : ∀ pre x W, J pre W → pre.length < L.length → YieldAt F (n - 1) Try.prog l #[.int .i64 ((val x).1 : Int), .int .i64 ((val x).2 : Int)] W fun e W' =>
      (e = .returned (.bool true) ∧ J (pre ++ [x]) W' ∧ RowKit.Below n₀ W W') ∨ (e = .returned (.bool false) ∧ Jx (pre ++ [x]) W'))
    (W : World) (hBs : W.cell? ⟨Bs, 0, none⟩ = some (.int .i64 many)) (h0 : J [] W) :
    CallsIn F n Try.prog 85 #[.func (.yield l) #[] #[], .pointer (some ⟨Bs, 0, none⟩)] W fun e W' => (∃ v, e = .returned v) ∧
      ((∃ ys, ys = L ∧ J ys W') ∨ (∃ pre, pre <+: L ∧ Jx pre W')) := by
  refine callsIn_of_wp Try.func85 rfl h85 ?_ hro
  simp only [Try.ntmps85, List.size_toArray, List.length_cons, List.length_nil, Nat.reduceAdd, Nat.reduceSub, Array.replicate_succ, Array.replicate_zero, List.push_toArray, List.append_toArray, List.nil_append, List.cons_append]
  have HL := Lib.hid hL; clear hL
  gi_wp2
  gi_loopw [6] (fun i wr => ∃ (k m : Nat) (pre rest : List α), i = .int .i64 k ∧ k + m = many ∧ Hid (pre ++ rest = L ∧ rest.map val = rowsF many m) ∧ J pre wr ∧ RowKit.Below n₀ W wr)
    (fun i _ => many - (intOf i).toNat)
  case atStart => exact ⟨0, many, [], L, rfl, by omega, ⟨rfl, HL.out⟩, h0, RowKit.Below.refl _ _⟩
  case round =>
    obtain ⟨k, m, pre, rest, rfl, hkm, HP, hJs, hnx⟩ := hrel
    have hKM := Lib.hid hkm
    clear hkm
    cases m with
    | zero =>
      have hkn : k = many := by have := hKM.out; omega
      have hge : (many : Int) ≤ k := by omega
      have HE := Lib.hid hkn; clear hkn
      gi_wp2
      go_end0
      have hp := HP.out
      have hr : rest = [] := by simpa [rowsF] using hp.2
      exact ⟨⟨_, rfl⟩, .inl ⟨_, by rw [← hp.1, hr, List.append_nil], hJs⟩⟩
    | succ m =>
      have hlt : (k : Int) < many := by have := hKM.out; omega
      have HP2 : Hid (pre ++ rest = L ∧ rest.map val = (List.range' (k + 1) m).map (fun j => (k, j)) ++ rowsF many m) := by
        refine ⟨HP.out.1, HP.out.2.trans ?_⟩
        have e1 : many - m = k + 1 := by have := hKM.out; omega
        show (List.range' (many - m) m).map (fun j => (many - m - 1, j)) ++ _ = _
        rw [e1]; rfl
      clear HP
      gi_wp2
      gi_loopw [4] (fun jv wr2 => ∃ (jj c : Nat) (pre2 rest2 : List α), jv = .int .i64 jj ∧ jj + c = many ∧ Hid (pre2 ++ rest2 = L ∧ rest2.map val = (List.range' jj c).map (fun j => (k, j)) ++ rowsF many m) ∧ J pre2 wr2 ∧ RowKit.Below n₀ W wr2)
        (fun jv _ => many - (intOf jv).toNat)
      case atStart => exact ⟨k + 1, m, pre, rest, by go_num, by have := hKM.out; omega, HP2, hJs, hnx⟩
      case round =>
        obtain ⟨jj, c, pre2, rest2, rfl, hjc, HQ, hJ2, hnx2⟩ := hrel
        have HJC := Lib.hid hjc
        clear hjc
        have hbs := (hnx2.cell (p := ⟨Bs, 0, none⟩) hb).trans hBs
        cases c with
        | zero =>
          have hge : (many : Int) ≤ jj := by have := HJC.out; omega
          gi_wp2
          go_roundw
          case rel => exact ⟨k + 1, m, pre2, rest2, by go_num, by have := hKM.out; omega, HQ, hJ2, hnx2⟩
          case measure => have := hKM.out; simp [intOf]; omega
        | succ c =>
          have hjlt : (jj : Int) < many := by have := HJC.out; omega
          have hq : rest2.map val = (k, jj) :: ((List.range' (jj + 1) c).map (fun j => (k, j)) ++ rowsF many m) := by
            rw [HQ.out.2, List.range'_succ]; rfl
          cases rest2 with
          | nil => cases hq
          | cons y rest3 =>
            obtain ⟨hv, hq3⟩ := List.cons.inj hq
            obtain ⟨fn, tmps, assign, body, hy, hR⟩ := hY _ y _ hJ2 (by rw [← HQ.out.1]; simp)
            have HQ2 := Lib.hid hq3
            clear hq hq3
            rw [hv] at hy
            have HVy := Lib.hid hv; clear hv
            dsimp only at hy
            gi_wp2
            refine hR.mono ?_
            rintro e W3 (⟨rfl, hJ3, hk3⟩ | ⟨rfl, hJx3⟩)
            · gi_wp2
              go_roundw
              case rel => exact ⟨jj + 1, c, _, rest3, by go_num, by have := HJC.out; omega, ⟨by have := HQ.out.1; simpa using this, HQ2.out⟩, hJ3, hnx2.trans hk3⟩
              case measure => have := HJC.out; simp [intOf]; omega
            · gi_wp2
              refine bodyPost_ret (results_none rfl _ _ _) rfl ?_
              exact ⟨⟨_, rfl⟩, .inr ⟨_, ⟨_, by have := HQ.out.1; simpa using this⟩, hJx3⟩⟩
theorem pairs_stops {α : Type} (F : Fence) (n : Nat) (h85 : F.fn 85) (hro : F.round = none) (hn : 1 ≤ n) (Bs n₀ many : Nat) (hmany : many ≤ 1000) (w : World) (hBs : Bs < n₀) (hn₀ : n₀ ≤ w.heap.size) (val : α → Nat × Nat) (L : List α) (hL : L.map val = rowsF many many)
    (hc : w.cell? ⟨Bs, 0, none⟩ = some (.int .i64 many)) :
    SeqStopsK F n Try.prog 85 #[.pointer (some ⟨Bs, 0, none⟩)] (fun x : α => #[Value.int .i64 ((val x).1 : Int), Value.int .i64 ((val x).2 : Int)]) (RowKit.Below n₀) (fun ys => ys = L)
      (fun pre => pre <+: L) L.length w := fun l J Jx W hW _ _ hY h0 => by
  have hc' := (hW.cell (p := ⟨Bs, 0, none⟩) (by show Bs < _; omega)).trans hc
  exact pairs1_in F n h85 hro hn l Bs n₀ many hmany hBs val L hL J Jx hY W hc' h0
theorem pairs_any (n : Int) (w : World) : Calls Try.prog 76 #[.int .i64 n] w fun e w' => e = .returned (.func (.func 85) #[] #[.pointer (some ⟨w.heap.size, 0, none⟩)]) ∧ w' = w.alloc (.cells #[.int .i64 n] 3) := by
  go_enter Try.func76, Try.ntmps76
  go_wp2
  go_ret
  exact ⟨rfl, rfl⟩
end Go.Proofs.Ytdnbdaegahcoeaa
