/- Layer 3: what a search begins with. -/
import Derived.Test.YtpgifeaejjjjnaaBG
namespace Go.Proofs.Ytpgifeaejjjjnaa
open Go.RowKit Go.Sort
/-- how often a number is in a list, on top of u. -/
def cntR (s : Int) : List Int → Nat → Nat
  | [], u => u
  | x :: t, u => if x = s then cntR s t (u + 1) else cntR s t u
def tmsR (s : Int) : List (List Int) → Nat → Nat
  | [], u => u
  | l :: t, u => tmsR s t (cntR s l u)
def dayR : List (List Int) → Nat → Nat
  | [], d => d
  | l :: t, _ => dayR t l.length
def barsE (c : Int) (zss : List (List Int)) (s : Int) : Bool := decide ((tmsR s zss 0 : Int) < zss.length + dayR zss 0 - c)
/-- a corner as an argument: the number of streets, and lists. -/
abbrev begV (c : Int) (a : Option Addr) (n cap : Nat) : Value := .agg #[.int .i64 c, .slice a n cap]
set_option maxRecDepth 100000 in
set_option maxHeartbeats 4000000 in
theorem bars_any (c : Int) (a : Option Addr) (cap : Nat) (zss : List (List Int)) (s : Int) (w : World) (hL : LstAt w a zss) (hl : zss.length ≤ 5) (hd : ∀ k, k < zss.length → (lth zss k).length ≤ 5) (hc1 : 1 ≤ c) (hc5 : c ≤ 5) :
    Calls Try.prog 92 #[begV c a zss.length cap, .int .i64 s] w fun e w' => e = .returned (.bool (barsE c zss s)) ∧ Fut w w' := by
  have HL := Lib.hid hL
  have HD := Lib.hid hd
  have hlx : (zss.length : Int) ≤ 5 := by omega
  unfold barsE
  clear hL hd
  generalize hT : tmsR s zss 0 = T at *
  generalize hD : dayR zss 0 = D at *
  have HT := Lib.hid hT
  have HDD := Lib.hid hD
  clear hT hD
  go_enter Try.func92, Try.ntmps92
  go_wp2_with fail
  have F0 : Fut w (w.alloc (.cells #[.int .i64 c, .slice a zss.length cap] 83)) := Fut.alloc _ _
  have b0 : (w.alloc (.cells #[.int .i64 c, .slice a zss.length cap] 83)).cell? ⟨w.heap.size, 0, none⟩ = some (.int .i64 c) := by simp [go_sem]
  have b1 : (w.alloc (.cells #[.int .i64 c, .slice a zss.length cap] 83)).cell? ⟨w.heap.size, 1, none⟩ = some (.slice a zss.length cap) := by simp [go_sem]
  generalize w.alloc (.cells #[.int .i64 c, .slice a zss.length cap] 83) = W1 at *
  generalize w.heap.size = B at *
  have HF := Lib.hid F0
  clear F0
  go_loopw [5, 6, 14] (fun tv dv iv wr => ∃ k u d : Nat, k ≤ zss.length ∧ tv = .int .i64 u ∧ dv = .int .i64 d ∧ iv = .int .i64 k ∧ u ≤ 5 * k ∧ d ≤ 5 ∧ Hid (tmsR s (zss.drop k) u = T) ∧ Hid (dayR (zss.drop k) d = D) ∧ wr = W1) (fun _ _ iv _ => zss.length - (intOf iv).toNat)
  case atStart => exact ⟨0, 0, 0, Nat.zero_le _, rfl, rfl, rfl, by omega, by omega, HT, HDD, rfl⟩
  case round =>
    obtain ⟨k, u, d, hk, rfl, rfl, rfl, hu, hd, HO, HP, rfl⟩ := hrel
    by_cases hlt : k < zss.length
    · have hkx : (k : Int) < zss.length := by omega
      obtain ⟨bb, off, l, lc, ea, hbb, d1, hI⟩ := (HL.out.fut HF.out) k hlt
      subst ea
      have hdr := lth_drop zss k hlt
      rw [hdr] at HO HP
      have hz5 := HD.out k hlt
      generalize lth zss k = zs at *
      have HI := Lib.hid hI
      unfold tmsR at HO
      unfold dayR at HP
      clear hdr hI
      generalize hV : cntR s zs u = V at *
      have HV := Lib.hid hV
      clear hV
      go_wp2_with fail
      go_loopw [5, 22] (fun tv iv wq => ∃ j v : Nat, j ≤ zs.length ∧ tv = .int .i64 v ∧ iv = .int .i64 j ∧ v ≤ 5 * k + j ∧ Hid (cntR s (zs.drop j) v = V) ∧ wq = wr) (fun _ iv _ => zs.length - (intOf iv).toNat)
      case atStart => exact ⟨0, u, Nat.zero_le _, rfl, rfl, by omega, HV, rfl⟩
      case round =>
        obtain ⟨j, v, hj, rfl, rfl, hv, HQ, rfl⟩ := hrel
        by_cases hjl : j < zs.length
        · have hjx : (j : Int) < zs.length := by omega
          obtain ⟨b1', off1, ea1, hb1', e1⟩ := HI.out j hjl
          subst ea1
          have hdr := nth_drop zs j hjl
          rw [hdr] at HQ
          generalize nth zs j = z at *
          unfold cntR at HQ
          clear hdr
          by_cases hq : z = s
          · rw [if_pos hq] at HQ
            go_wp2
            go_round
            case rel => exact ⟨j + 1, v + 1, by omega, by go_num, by go_num, by omega, HQ, trivial⟩
            case measure => simp [intOf]; omega
          · rw [if_neg hq] at HQ
            go_wp2
            go_round
            case rel => exact ⟨j + 1, v, by omega, rfl, by go_num, by omega, HQ, trivial⟩
            case measure => simp [intOf]; omega
        · obtain rfl : j = zs.length := by omega
          rw [List.drop_of_length_le (Nat.le_refl _)] at HQ
          have hV : v = V := HQ.out
          subst hV
          go_wp2
          go_round
          case rel => exact ⟨k + 1, v, zs.length, by omega, rfl, rfl, by go_num, by omega, by omega, HO, HP, trivial⟩
          case measure => simp [intOf]; omega
    · obtain rfl : k = zss.length := by omega
      rw [List.drop_of_length_le (Nat.le_refl _)] at HO HP
      have hT : u = T := HO.out
      have hD : d = D := HP.out
      subst hT
      subst hD
      go_wp2
      go_ret
      exact ⟨rfl, HF.out⟩
/-- what is known of a place of a board. -/
def knF (zss : List (List Int)) (k d : Nat) : Int := if k < zss.length ∧ d < (lth zss k).length then nth (lth zss k) d else -1
theorem rows_bars (v : Value) (x : Value) (w : World) : Calls Try.prog 195 #[v, x] w fun e w' => e = .returned (.bool false) ∧ w = w' := by
  go_enter Try.func195, Try.ntmps195
  go_wp2
  go_ret
  exact ⟨rfl, rfl⟩
theorem rows_street (a : Option Addr) (cap : Nat) (zss : List (List Int)) (k d : Nat) (w : World) (hL : LstAt w a zss) (hl : zss.length ≤ 1000) (hd : k < zss.length → d < (lth zss k).length) (hz : k < zss.length → (lth zss k).length ≤ 1000) :
    Calls Try.prog 196 #[.slice a zss.length cap, .int .i64 k, .int .i64 d] w fun e w' => e = .returned (.int .i64 (knF zss k d)) ∧ w = w' := by
  unfold knF
  by_cases hk : k < zss.length
  · have hdk := hd hk
    have hzk := hz hk
    rw [if_pos ⟨hk, hdk⟩]
    obtain ⟨bb, off, l, lc, ea, hbb, d1, hI⟩ := hL k hk
    subst ea
    obtain ⟨b1, off1, ea1, hb1, e1⟩ := hI d hdk
    subst ea1
    have hkx : (k : Int) < zss.length := by omega
    have hdx : (d : Int) < (lth zss k).length := by omega
    have hlx : (zss.length : Int) ≤ 1000 := by omega
    have hzx : ((lth zss k).length : Int) ≤ 1000 := by omega
    generalize nth (lth zss k) d = z at *
    generalize (lth zss k).length = n at *
    clear hI hL hd hz
    go_enter Try.func196, Try.ntmps196
    go_wp2
    go_ret
    exact ⟨rfl, rfl⟩
  · rw [if_neg (fun q => hk q.1)]
    clear hL hd hz
    go_enter Try.func196, Try.ntmps196
    go_wp2
    go_ret
    exact ⟨rfl, rfl⟩
set_option maxRecDepth 100000 in
theorem beg_street (c : Int) (a : Option Addr) (cap : Nat) (zss : List (List Int)) (k d : Nat) (w : World) (hL : LstAt w a zss) (hl : zss.length ≤ 1000) (hz : k < zss.length → (lth zss k).length ≤ 1000) :
    Calls Try.prog 197 #[begV c a zss.length cap, .int .i64 k, .int .i64 d] w fun e w' => e = .returned (.int .i64 (knF zss k d)) ∧ Fut w w' := by
  have F0 : Fut w (w.alloc (.cells #[.int .i64 c, .slice a zss.length cap] 83)) := Fut.alloc _ _
  have b0 : (w.alloc (.cells #[.int .i64 c, .slice a zss.length cap] 83)).cell? ⟨w.heap.size, 0, none⟩ = some (.int .i64 c) := by simp [go_sem]
  have b1 : (w.alloc (.cells #[.int .i64 c, .slice a zss.length cap] 83)).cell? ⟨w.heap.size, 1, none⟩ = some (.slice a zss.length cap) := by simp [go_sem]
  unfold knF
  by_cases hk : k < zss.length
  · have hzk := hz hk
    obtain ⟨bb, off, l, lc, ea, hbb, d1, hI⟩ := (hL.fut F0) k hk
    subst ea
    have hkx : (k : Int) < zss.length := by omega
    have hlx : (zss.length : Int) ≤ 1000 := by omega
    have hzx : ((lth zss k).length : Int) ≤ 1000 := by omega
    by_cases hdk : d < (lth zss k).length
    · rw [if_pos ⟨hk, hdk⟩]
      obtain ⟨b2, off1, ea1, hb1, e1⟩ := hI d hdk
      subst ea1
      have hdx : (d : Int) < (lth zss k).length := by omega
      generalize nth (lth zss k) d = z at *
      generalize (lth zss k).length = n at *
      clear hI hL hz
      go_enter Try.func197, Try.ntmps197
      go_wp2
      go_ret
      exact ⟨rfl, F0⟩
    · rw [if_neg (fun q => hdk q.2)]
      have hdx : ¬ (d : Int) < (lth zss k).length := by omega
      generalize (lth zss k).length = n at *
      clear hI hL hz
      go_enter Try.func197, Try.ntmps197
      go_wp2
      go_ret
      exact ⟨rfl, F0⟩
  · rw [if_neg (fun q => hk q.1)]
    clear hL hz
    go_enter Try.func197, Try.ntmps197
    go_wp2
    go_ret
    exact ⟨rfl, F0⟩
end Go.Proofs.Ytpgifeaejjjjnaa
