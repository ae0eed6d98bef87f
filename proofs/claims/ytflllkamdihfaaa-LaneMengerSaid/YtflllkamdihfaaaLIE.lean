/- LaneMenger's closures 53 52 103 51 -/
import Derived.Test.YtflllkamdihfaaaLNE
import Derived.Test.YtflllkamdihfaaaLHF
import Derived.Test.YtflllkamdihfaaaLNA
import Derived.Test.YtflllkamdihfaaaLMC
namespace Go.Proofs.Ytflllkamdihfaaa
open Go.RowKit Go.Sort
def anyU (us : List Nat) (b : Nat) : Bool := us.any fun u => (u &&& b) == 0
def unt (us : List Nat) (k : Nat) : Nat := us[k]?.getD 0
theorem unt_drop (us : List Nat) (k : Nat) (hk : k < us.length) : us.drop k = unt us k :: us.drop (k + 1) := by
  unfold unt
  rw [List.getElem?_eq_getElem hk]
  exact List.drop_eq_getElem_cons hk
theorem anyU_cons (u : Nat) (us : List Nat) (b : Nat) : anyU (u :: us) b = ((u &&& b) == 0 || anyU us b) := rfl
/-- sets that can be read. -/
def UAt (w : World) (aa : Option Addr) (us : List Nat) : Prop := ∀ k, k < us.length → ∃ g, aa = some ⟨g, 0, none⟩ ∧ g < w.heap.size ∧ w.cell? ⟨g, k, none⟩ = some (.int .u32 (unt us k : Nat))
theorem UAt.fut {w W : World} {aa : Option Addr} {us : List Nat} (h : UAt w aa us) (F : Fut w W) : UAt W aa us := fun k hk => by
  obtain ⟨g, e, h1, h2⟩ := h k hk
  exact ⟨g, e, Nat.lt_of_lt_of_le h1 (RowKit.Below.size F), (RowKit.Below.cell F (p := ⟨g, k, none⟩) h1).trans h2⟩
set_option maxRecDepth 100000 in
set_option maxHeartbeats 2000000 in
/-- bars' question to one way. -/
theorem mnLit_any (u : Nat) (hu : u < 65536) (la : Option Addr) (lc : Nat) (L : List Int) (B : Nat) (w : World) (hI : IntsAt w la L) (hl : L.length ≤ 1000) (hL : ∀ x ∈ L, 0 ≤ x ∧ x < 16) (hB : w.cell? ⟨B, 0, none⟩ = some (.slice la L.length lc)) :
    Calls Try.prog 53 #[.int .u32 (u : Nat), .pointer (some ⟨B, 0, none⟩)] w fun e w' => e = .returned (.bool ((u &&& bsN L) == 0)) ∧ Fut w w' := by
  have HBT := Lib.hid (bits_any la lc L w hI hl hL)
  have hbl := bs_lt hL
  have HAND : Hid (bits BinOp.and IntKind.u32 ((u : Nat) : Int) ((bsN L : Nat) : Int) = ((u &&& bsN L : Nat) : Int)) := Lib.hid (u32_and_nat _ _ (by omega) (by omega))
  have HBE : Hid ((((u &&& bsN L : Nat) : Int) == 0) = ((u &&& bsN L) == 0)) := Lib.hid (by
    rw [Bool.eq_iff_iff, beq_iff_eq, beq_iff_eq]; omega)
  clear hI hL hbl
  generalize bsN L = b at *
  generalize hE : ((u &&& b) == 0) = E at *
  clear hE
  go_enter Try.func53, Try.ntmps53
  go_wp2_with fail
  refine HBT.out.mono ?_
  rintro _ _ ⟨rfl, rfl⟩
  go_wp2_with fail
  go_ret
  exact ⟨retb (by rw [HAND.out, HBE.out]), Fut.rfl⟩
set_option maxRecDepth 100000 in
set_option maxHeartbeats 2000000 in
theorem mnIndex (aa : Option Addr) (ac : Nat) (us : List Nat) (hus : ∀ u ∈ us, u < 65536) (hul : us.length ≤ 1000000) (la : Option Addr) (lc : Nat) (L : List Int) (B : Nat) (w : World) (hU : UAt w aa us) (hI : IntsAt w la L) (hl : L.length ≤ 1000) (hL : ∀ x ∈ L, 0 ≤ x ∧ x < 16) (hB : w.cell? ⟨B, 0, none⟩ = some (.slice la L.length lc)) :
    Calls Try.prog 103 #[.slice aa us.length ac, .func (.func 53) #[] #[.pointer (some ⟨B, 0, none⟩)]] w fun e w' => ∃ r : Int, e = .returned (.int .i64 r) ∧ decide (0 ≤ r) = anyU us (bsN L) ∧ Fut w w' := by
  have hBz := World.block_lt_of_cell? _ _ hB
  have HU := Lib.hid hU
  have HLIT := Lib.hid (fun (u : Nat) (hu : u < 65536) (W : World) (F : Fut w W) => mnLit_any u hu la lc L B W (hI.fut F) hl hL ((RowKit.Below.cell F (p := ⟨B, 0, none⟩) hBz).trans hB))
  have HUS : Hid (∀ k, k < us.length → unt us k < 65536) := Lib.hid (fun k hk => hus _ (by unfold unt; rw [List.getElem?_eq_getElem hk]; exact List.getElem_mem hk))
  have hlx : (us.length : Int) ≤ 1000000 := by omega
  clear hU hI hL hB hus
  generalize hE : anyU us (bsN L) = E at *
  have HE : Hid (anyU (us.drop 0) (bsN L) = E) := Lib.hid hE
  clear hE
  generalize bsN L = b at *
  go_enter Try.func103, Try.ntmps103
  go_wp2_with fail
  go_loopw [8] (fun iv wr => ∃ k : Nat, k ≤ us.length ∧ iv = .int .i64 k ∧ Hid (anyU (us.drop k) b = E) ∧ Hid (Fut w wr)) (fun iv _ => us.length - (intOf iv).toNat)
  case atStart => exact ⟨0, Nat.zero_le _, rfl, HE, Lib.hid Fut.rfl⟩
  case round =>
    obtain ⟨k, hk, rfl, HO, HF⟩ := hrel
    by_cases hlt : k < us.length
    · have hkx : (k : Int) < us.length := by omega
      obtain ⟨g, rfl, hg, d1⟩ := (HU.out.fut HF.out) k hlt
      rw [unt_drop us k hlt, anyU_cons] at HO
      have HC := Lib.hid (HLIT.out (unt us k) (HUS.out k hlt) wr HF.out)
      generalize unt us k = u at *
      cases hq : ((u &&& b) == 0)
      · rw [hq] at HC HO
        rw [Bool.false_or] at HO
        clear hq
        go_wp2_with fail
        refine HC.out.mono ?_
        rintro _ w3 ⟨rfl, F⟩
        have HF3 := Lib.hid (HF.out.trans F)
        clear F
        go_wp2
        go_round
        case rel => exact ⟨k + 1, by omega, by go_num, HO, HF3⟩
        case measure => simp [intOf]; omega
      · rw [hq] at HC HO
        rw [Bool.true_or] at HO
        have hE : E = true := HO.out.symm
        subst hE
        clear hq
        go_wp2_with fail
        refine HC.out.mono ?_
        rintro _ w3 ⟨rfl, F⟩
        have HF3 := Lib.hid (HF.out.trans F)
        clear F
        go_wp2
        go_ret
        exact ⟨_, rfl, by simp, HF3.out⟩
    · obtain rfl : k = us.length := by omega
      rw [List.drop_of_length_le (Nat.le_refl _)] at HO
      have hE : E = false := HO.out.symm
      subst hE
      go_wp2
      go_ret
      exact ⟨_, rfl, by simp, HF.out⟩
set_option maxRecDepth 100000 in
set_option maxHeartbeats 2000000 in
theorem mnContains (aa : Option Addr) (ac : Nat) (us : List Nat) (hus : ∀ u ∈ us, u < 65536) (hul : us.length ≤ 1000000) (la : Option Addr) (lc : Nat) (L : List Int) (B : Nat) (w : World) (hU : UAt w aa us) (hI : IntsAt w la L) (hl : L.length ≤ 1000) (hL : ∀ x ∈ L, 0 ≤ x ∧ x < 16) (hB : w.cell? ⟨B, 0, none⟩ = some (.slice la L.length lc)) :
    Calls Try.prog 52 #[.slice aa us.length ac, .func (.func 53) #[] #[.pointer (some ⟨B, 0, none⟩)]] w fun e w' => e = .returned (.bool (anyU us (bsN L))) ∧ Fut w w' := by
  have H := Lib.hid (mnIndex aa ac us hus hul la lc L B w hU hI hl hL hB)
  clear hU hI hL hB hus
  generalize anyU us (bsN L) = E at *
  go_enter Try.func52, Try.ntmps52
  go_wp2_with fail
  refine H.out.mono ?_
  rintro _ w3 ⟨r, rfl, hr, F⟩
  have HR := Lib.hid hr
  have HF := Lib.hid F
  clear hr F
  go_wp2
  go_ret
  exact ⟨retb HR.out, HF.out⟩
set_option maxRecDepth 100000 in
set_option maxHeartbeats 2000000 in
/-- LaneMenger's closure bars. -/
theorem mnBars (Bk Ba n : Nat) (_hn : n ≤ 3) (aa : Option Addr) (ac : Nat) (us : List Nat) (hus : ∀ u ∈ us, u < 65536) (hul : us.length ≤ 1000000) (la : Option Addr) (lc : Nat) (L : List Int) (w : World) (hU : UAt w aa us) (hI : IntsAt w la L) (hl : L.length ≤ 2) (hL : ∀ x ∈ L, 0 ≤ x ∧ x < 16) (hk : w.heap[Bk]? = some (.cells #[.int .i64 (n : Nat)] 3)) (ha : w.heap[Ba]? = some (.cells #[.slice aa us.length ac] 75)) :
    Calls Try.prog 51 #[.slice la L.length lc, .pointer (some ⟨Bk, 0, none⟩), .pointer (some ⟨Ba, 0, none⟩)] w fun e w' => e = .returned (.bool (decide (L.length < n) && !anyU us (bsN L))) ∧ Fut w w' := by
  have F1 : Fut w (w.alloc (.cells #[.slice la L.length lc] 22)) := Fut.alloc _ _
  have HC := Lib.hid (mnContains aa ac us hus hul la lc L w.heap.size (w.alloc (.cells #[.slice la L.length lc] 22)) (hU.fut F1) (hI.fut F1) (by omega) hL (cell_new _ _ _))
  have HF := Lib.hid F1
  have c1 := cell_of1 (heap_fut hk F1)
  have c2 := cell_of1 (heap_fut ha F1)
  have c3 := cell_new w (.slice la L.length lc) 22
  have hlx : (L.length : Int) ≤ 2 := by omega
  clear hU hI hL hus hk ha F1
  generalize anyU us (bsN L) = E at *
  by_cases hln : L.length < n
  · have hlnx : (L.length : Int) < n := by omega
    rw [decide_eq_true hln, Bool.true_and]
    go_enter Try.func51, Try.ntmps51
    go_wp2_with fail
    refine HC.out.mono ?_
    rintro _ w3 ⟨rfl, F⟩
    have HF3 := Lib.hid (HF.out.trans F)
    clear F c1 c2 c3
    go_wp2_with fail
    go_ret
    exact ⟨rfl, HF3.out⟩
  · have hlnx : ¬ (L.length : Int) < n := by omega
    rw [decide_eq_false hln, Bool.false_and]
    go_enter Try.func51, Try.ntmps51
    go_wp2_with fail
    go_ret
    exact ⟨rfl, HF.out⟩
end Go.Proofs.Ytflllkamdihfaaa
