/- Layer 3: search. -/
import Derived.Test.YtpgifeaejjjjnaaBK
namespace Go.Proofs.Ytpgifeaejjjjnaa
open Go.RowKit Go.Sort
/-- the smallest street that bars a corner. -/
def barF (n : Nat) (zss : List (List Int)) : Option Nat := (List.range n).findSome? fun (s : Nat) => if barsE n zss (s : Int) = true then some s else none
/-- what a search fills. -/
def fullF (n : Nat) (zss : List (List Int)) : Nat → Nat → Int := (fillF n (n * n) 0 (knF zss)).getD (knF zss)
abbrev SearchP (n : Nat) (bar : Option Nat) (F : Nat → Nat → Int) (w : World) (e : Ending) (w' : World) : Prop :=
  match bar with
  | some s => e = .returned (.iface 84 (.int .i64 s)) ∧ Fut w w'
  | none => ∃ v, e = .returned (.iface 114 v) ∧ OwnG w' w.heap.size v n n F ∧ Fut w w'
set_option maxRecDepth 100000 in
set_option maxHeartbeats 4000000 in
theorem search_beg (n : Nat) (h1 : 1 ≤ n) (h5 : n ≤ 5) (a : Option Addr) (cap : Nat) (zss : List (List Int)) (w : World) (hL : LstAt w a zss) (hl : zss.length ≤ 5) (hz : ∀ k, k < zss.length → (lth zss k).length ≤ 5) :
    Calls Try.prog 87 #[.int .i64 n, .iface 83 (begV n a zss.length cap)] w (SearchP n (barF n zss) (fullF n zss) w) := by
  have HLD := Lib.hid (fun W (F : Fut w W) => laid_beg n h1 h5 a cap zss W (hL.fut F) hl (fun k hk => by have := hz k hk; omega))
  have HBR := Lib.hid (fun (s : Nat) W (F : Fut w W) => bars_any (n : Int) a cap zss (s : Int) W (hL.fut F) hl hz (by omega) (by omega))
  have hmb : ∀ W, (method 284 83 (begV n a zss.length cap) "breeze/week.bars").run Try.prog W = .ok (92, begV n a zss.length cap) W := fun _ => by kernel_rfl
  obtain ⟨Q, hQ⟩ : ∃ Q : Nat → Option Nat, Q = fun (s : Nat) => if barsE n zss (s : Int) = true then some s else none := ⟨_, rfl⟩
  have hB : barF n zss = (List.range n).findSome? Q := by rw [hQ]; rfl
  have HQ := Lib.hid (fun s => congrFun hQ s)
  rw [hB]
  have hF : fullF n zss = (fillF n (n * n) 0 (knF zss)).getD (knF zss) := rfl
  rw [hF]
  clear hL hz hQ hB hF
  generalize knF zss = kn at *
  generalize hR : (List.range n).findSome? Q = R at *
  have HR := Lib.hid hR
  have hnx : (n : Int) ≤ 5 := by omega
  clear hR
  go_enter Try.func87, Try.ntmps87
  go_wp2_with fail
  go_loopw [8] (fun iv wr => ∃ k : Nat, k ≤ n ∧ iv = .int .i64 k ∧ Hid (∀ j, j < k → Q j = none) ∧ Hid (Fut w wr)) (fun iv _ => n - (intOf iv).toNat)
  case atStart => exact ⟨0, Nat.zero_le _, rfl, Lib.hid (fun j hj => absurd hj (Nat.not_lt_zero j)), Lib.hid Fut.rfl⟩
  case round =>
    obtain ⟨k, hk, rfl, HN, HF⟩ := hrel
    by_cases hlt : k < n
    · have hkx : (k : Int) < n := by omega
      have HBK := Lib.hid (HBR.out k wr HF.out)
      have HQk := Lib.hid (HQ.out k)
      cases hb : barsE n zss (k : Int)
      · rw [hb] at HBK HQk
        simp only [Bool.false_eq_true, if_false] at HQk
        clear hb
        go_wp2_with (go_at_call 92; refine HBK.out.mono ?_; rintro _ w3 ⟨rfl, F3⟩)
        have HF3 := Lib.hid (HF.out.trans F3)
        have HN2 : Hid (∀ j, j < k + 1 → Q j = none) := Lib.hid (fun j hj => by
          rcases Nat.lt_or_ge j k with q | q
          · exact HN.out j q
          · obtain rfl : j = k := by omega
            exact HQk.out)
        go_round
        case rel => exact ⟨k + 1, by omega, by go_num, HN2, HF3⟩
        case measure => simp [intOf]; omega
      · rw [hb] at HBK HQk
        simp only [if_true] at HQk
        clear hb
        have hRk : R = some k := by rw [← HR.out]; exact fs_at HN.out HQk.out hlt
        subst hRk
        go_wp2_with (go_at_call 92; refine HBK.out.mono ?_; rintro _ w3 ⟨rfl, F3⟩)
        go_ret
        exact ⟨rfl, HF.out.trans F3⟩
    · obtain rfl : k = n := by omega
      have hRk : R = none := by rw [← HR.out]; exact fs_none HN.out
      subst hRk
      go_wp2_with fail
      refine (HLD.out wr HF.out).mono ?_
      rintro _ w3 ⟨v, rfl, ⟨g, bl, rfl, hG⟩, F3⟩
      have HFL := Lib.hid (fill_any k h1 h5 wr.heap.size g bl (k * k) 0 kn w3 (by omega) hG)
      have HF3 := Lib.hid F3
      have HGB := Lib.hid hG.base
      clear hG F3
      go_wp2_with fail
      refine HFL.out.mono ?_
      rintro _ w4 ⟨rfl, hG4, hB4⟩
      have HG4 := Lib.hid hG4
      have HF4 := Lib.hid ((HF.out.trans HF3.out).trans' hB4 (by have := HGB.out; have := RowKit.Below.size HF.out; omega))
      have hsz := RowKit.Below.size HF.out
      clear hG4 hB4
      go_wp2
      go_ret
      exact ⟨_, rfl, ⟨g, bl, rfl, ⟨by have := HGB.out; omega, HG4.out.outer, HG4.out.above, HG4.out.inner, HG4.out.apart⟩⟩, HF4.out⟩
set_option maxRecDepth 100000 in
set_option maxHeartbeats 4000000 in
theorem search_rows (n : Nat) (h1 : 1 ≤ n) (h5 : n ≤ 5) (a : Option Addr) (cap : Nat) (zss : List (List Int)) (w : World) (hL : LstAt w a zss) (hl : zss.length ≤ 5) (hz : ∀ k, k < zss.length → (lth zss k).length = n) :
    Calls Try.prog 87 #[.int .i64 n, .iface 79 (.slice a zss.length cap)] w (SearchP n none (fullF n zss) w) := by
  have HLD := Lib.hid (fun W (F : Fut w W) => laid_rows n h1 h5 a cap zss W (hL.fut F) hl (fun k hk => by have := hz k hk; omega) (fun k hk => by have := hz k hk; omega))
  have HBR := Lib.hid (fun (v x : Value) W => rows_bars v x W)
  have hmb : ∀ W, (method 284 79 (.slice a zss.length cap) "breeze/week.bars").run Try.prog W = .ok (195, .slice a zss.length cap) W := fun _ => by kernel_rfl
  have hF : fullF n zss = (fillF n (n * n) 0 (knF zss)).getD (knF zss) := rfl
  rw [hF]
  clear hL hz hF
  generalize knF zss = kn at *
  have hnx : (n : Int) ≤ 5 := by omega
  go_enter Try.func87, Try.ntmps87
  go_wp2_with fail
  go_loopw [8] (fun iv wr => ∃ k : Nat, k ≤ n ∧ iv = .int .i64 k ∧ wr = w) (fun iv _ => n - (intOf iv).toNat)
  case atStart => exact ⟨0, Nat.zero_le _, rfl, rfl⟩
  case round =>
    obtain ⟨k, hk, rfl, rfl⟩ := hrel
    by_cases hlt : k < n
    · have hkx : (k : Int) < n := by omega
      go_wp2_with (go_at_call 195; refine (HBR.out _ _ _).mono ?_; rintro _ _ ⟨rfl, rfl⟩)
      go_round
      case rel => exact ⟨k + 1, by omega, by go_num, trivial⟩
      case measure => simp [intOf]; omega
    · obtain rfl : k = n := by omega
      go_wp2_with fail
      refine (HLD.out wr Fut.rfl).mono ?_
      rintro _ w3 ⟨v, rfl, ⟨g, bl, rfl, hG⟩, F3⟩
      have HFL := Lib.hid (fill_any k h1 h5 wr.heap.size g bl (k * k) 0 kn w3 (by omega) hG)
      have HF3 := Lib.hid F3
      have HGB := Lib.hid hG.base
      clear hG F3
      go_wp2_with fail
      refine HFL.out.mono ?_
      rintro _ w4 ⟨rfl, hG4, hB4⟩
      have HG4 := Lib.hid hG4
      have HF4 := Lib.hid (HF3.out.trans' hB4 (by have := HGB.out; omega))
      clear hG4 hB4
      go_wp2
      go_ret
      exact ⟨_, rfl, ⟨g, bl, rfl, HG4.out⟩, HF4.out⟩
end Go.Proofs.Ytpgifeaejjjjnaa
