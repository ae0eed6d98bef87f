/- isOn, lists: isOn_any lists_id -/
import Derived.Test.YtflllkamdihfaaaLU
namespace Go.Proofs.Ytflllkamdihfaaa
open Go.RowKit Go.Sort
/-- isOn's question to one way. -/
theorem onLit_any (a : Option Addr) (cap : Nat) (zs : List Int) (s : Int) (S : Nat) (w : World) (hA : IntsAt w a zs) (hl : zs.length ≤ 1000)
    (hS : w.cell? ⟨S, 0, none⟩ = some (.int .i64 s)) :
    Calls Try.prog 136 #[.slice a zs.length cap, .pointer (some ⟨S, 0, none⟩)] w fun e w' => e = .returned (.bool (zs.contains s)) ∧ Fut w w' := by
  have HCT := Lib.hid (contains_any a cap zs s w hA hl)
  generalize zs.contains s = b at *
  clear hA
  go_enter Try.func136, Try.ntmps136
  go_wp2_with fail
  refine HCT.out.mono ?_
  rintro _ _ ⟨rfl, rfl⟩
  go_wp2_with fail
  go_ret
  exact ⟨rfl, Fut.rfl⟩
/-- does one of the ways hold s? -/
def onL (zss : List (List Int)) (s : Int) : Bool := zss.any fun l => l.contains s
theorem onL_cons (l : List Int) (zss : List (List Int)) (s : Int) : onL (l :: zss) s = (l.contains s || onL zss s) := rfl
theorem onIndex (a : Option Addr) (cap : Nat) (zss : List (List Int)) (s : Int) (S : Nat) (w : World) (hL : LstAt w a zss) (hd : ∀ k, k < zss.length → (lth zss k).length ≤ 1000) (hl : zss.length ≤ 1000)
    (hS : w.cell? ⟨S, 0, none⟩ = some (.int .i64 s)) (hSz : S < w.heap.size) :
    Calls Try.prog 137 #[.slice a zss.length cap, .func (.func 136) #[] #[.pointer (some ⟨S, 0, none⟩)]] w fun e w' => ∃ r : Int, e = .returned (.int .i64 r) ∧ decide (0 ≤ r) = onL zss s ∧ Fut w w' := by
  have HL := Lib.hid hL
  have HLIT := Lib.hid (fun (l : Option Addr) (lc : Nat) zs (W : World) (hI : IntsAt W l zs) (hz : zs.length ≤ 1000) (F : Fut w W) => onLit_any l lc zs s S W hI hz ((RowKit.Below.cell F (p := ⟨S, 0, none⟩) hSz).trans hS))
  have HD := Lib.hid hd
  have hlx : (zss.length : Int) ≤ 1000 := by omega
  clear hL hS hSz hd
  generalize hE : onL zss s = E at *
  have HE := Lib.hid hE
  clear hE
  go_enter Try.func137, Try.ntmps137
  go_wp2_with fail
  go_loopw [8] (fun iv wr => ∃ k : Nat, k ≤ zss.length ∧ iv = .int .i64 k ∧ Hid (onL (zss.drop k) s = E) ∧ Hid (Fut w wr)) (fun iv _ => zss.length - (intOf iv).toNat)
  case atStart => exact ⟨0, Nat.zero_le _, rfl, HE, Lib.hid Fut.rfl⟩
  case round =>
    obtain ⟨k, hk, rfl, HO, HF⟩ := hrel
    by_cases hlt : k < zss.length
    · have hkx : (k : Int) < zss.length := by omega
      obtain ⟨bb, off, l, lc, ea, hbb, d1, hI⟩ := (HL.out.fut HF.out) k hlt
      subst ea
      have hd := lth_drop zss k hlt
      rw [hd, onL_cons] at HO
      have HC := Lib.hid (HLIT.out l lc (lth zss k) wr hI (HD.out k hlt) HF.out)
      generalize lth zss k = zs at *
      clear hd hI
      cases hq : zs.contains s
      · rw [hq] at HC HO
        rw [Bool.false_or] at HO
        clear hq
        go_wp2_with fail
        refine HC.out.mono ?_
        rintro _ w3 ⟨rfl, F⟩
        have HF3 := Lib.hid (HF.out.trans F)
        clear F
        go_wp2
        go_round
        case rel => exact ⟨k + 1, by omega, by go_num, HO, HF3⟩
        case measure => simp [intOf]; omega
      · rw [hq] at HC HO
        rw [Bool.true_or] at HO
        have hE : E = true := HO.out.symm
        subst hE
        clear hq
        go_wp2_with fail
        refine HC.out.mono ?_
        rintro _ w3 ⟨rfl, F⟩
        have HF3 := Lib.hid (HF.out.trans F)
        clear F
        go_wp2
        go_ret
        exact ⟨_, rfl, by simp, HF3.out⟩
    · obtain rfl : k = zss.length := by omega
      rw [List.drop_of_length_le (Nat.le_refl _)] at HO
      have hE : E = false := HO.out.symm
      subst hE
      go_wp2
      go_ret
      exact ⟨_, rfl, by simp, HF.out⟩
theorem onContains (a : Option Addr) (cap : Nat) (zss : List (List Int)) (s : Int) (S : Nat) (w : World) (hL : LstAt w a zss) (hd : ∀ k, k < zss.length → (lth zss k).length ≤ 1000) (hl : zss.length ≤ 1000)
    (hS : w.cell? ⟨S, 0, none⟩ = some (.int .i64 s)) (hSz : S < w.heap.size) :
    Calls Try.prog 135 #[.slice a zss.length cap, .func (.func 136) #[] #[.pointer (some ⟨S, 0, none⟩)]] w fun e w' => e = .returned (.bool (onL zss s)) ∧ Fut w w' := by
  have H := Lib.hid (onIndex a cap zss s S w hL hd hl hS hSz)
  clear hL hS hSz hd
  generalize onL zss s = E at *
  go_enter Try.func135, Try.ntmps135
  go_wp2_with fail
  refine H.out.mono ?_
  rintro _ w3 ⟨r, rfl, hr, F⟩
  have HR := Lib.hid hr
  have HF := Lib.hid F
  clear hr F
  go_wp2
  go_ret
  exact ⟨retb HR.out, HF.out⟩
theorem isOn_any (a : Option Addr) (cap : Nat) (zss : List (List Int)) (s : Int) (w : World) (hL : LstAt w a zss) (hd : ∀ k, k < zss.length → (lth zss k).length ≤ 1000) (hl : zss.length ≤ 1000) :
    Calls Try.prog 133 #[.slice a zss.length cap, .int .i64 s] w fun e w' => e = .returned (.bool (onL zss s)) ∧ Fut w w' := by
  have F2 : Fut w (w.alloc (.cells #[.int .i64 s] 3)) := Fut.alloc _ _
  have H := Lib.hid (onContains a cap zss s w.heap.size (w.alloc (.cells #[.int .i64 s] 3)) (hL.fut F2) hd hl (by simp) (by simp))
  have HF := Lib.hid F2
  clear hL hd F2
  generalize onL zss s = E at *
  go_enter Try.func133, Try.ntmps133
  go_wp2_with fail
  refine H.out.mono ?_
  rintro _ w3 ⟨rfl, F⟩
  have HF3 := Lib.hid (HF.out.trans F)
  clear F
  go_wp2
  go_ret
  exact ⟨rfl, HF3.out⟩
theorem lists_id (v : Value) (w : World) : Calls Try.prog 66 #[v] w fun e w' => e = .returned v ∧ w = w' := by
  go_enter Try.func66, Try.ntmps66
  go_wp2
  go_ret
  exact ⟨rfl, rfl⟩
end Go.Proofs.Ytflllkamdihfaaa
