/- LaneMenger's closure try 54 -/
import Derived.Test.YtflllkamdihfaaaLIE
import Derived.Test.YtflllkamdihfaaaLID
import Derived.Test.YtflllkamdihfaaaLNE
import Derived.Test.YtflllkamdihfaaaLNA
import Derived.Test.YtflllkamdihfaaaLMC
namespace Go.Proofs.Ytflllkamdihfaaa
open Go.RowKit Go.Sort
abbrev Zd (Bf Bw : Nat) : Nat → Prop := fun q => q = Bf ∨ q = Bw
/-- what bars reads. -/
structure MnE (Z : Nat → Prop) (Bk Ba Bb n : Nat) (aa : Option Addr) (ac : Nat) (us : List Nat) (w : World) : Prop where
  k : ∀ W, But Z w W → W.heap[Bk]? = some (.cells #[.int .i64 (n : Nat)] 3)
  a : ∀ W, But Z w W → W.heap[Ba]? = some (.cells #[.slice aa us.length ac] 75)
  b : ∀ W, But Z w W → W.heap[Bb]? = some (.cells #[.func (.func 51) #[] #[.pointer (some ⟨Bk, 0, none⟩), .pointer (some ⟨Ba, 0, none⟩)]] 80)
  u : ∀ W, But Z w W → UAt W aa us
theorem MnE.but {Z : Nat → Prop} {Bk Ba Bb n : Nat} {aa : Option Addr} {ac : Nat} {us : List Nat} {w W : World} (h : MnE Z Bk Ba Bb n aa ac us w) (b : But Z w W) : MnE Z Bk Ba Bb n aa ac us W :=
  ⟨fun W' b' => h.k W' (b.trans b'), fun W' b' => h.a W' (b.trans b'), fun W' b' => h.b W' (b.trans b'), fun W' b' => h.u W' (b.trans b')⟩
/-- what try's cells hold when these lists are tried. -/
structure TrI (Bf Bw : Nat) (p : List Int → Bool) (P : List (List Int)) (w : World) : Prop where
  f : w.heap[Bf]? = some (.cells #[.bool (P.find? p).isSome] 4)
  x : ∃ wa wc, w.heap[Bw]? = some (.cells #[.slice wa ((P.find? p).getD []).length wc] 22) ∧ ∀ W, But (Zd Bf Bw) w W → IntsAt W wa ((P.find? p).getD [])
theorem TrI.fut {Bf Bw : Nat} {p : List Int → Bool} {P : List (List Int)} {w w' : World} (h : TrI Bf Bw p P w) (F : Fut w w') : TrI Bf Bw p P w' := by
  obtain ⟨wa, wc, h1, h2⟩ := h.x
  exact ⟨heap_fut h.f F, wa, wc, heap_fut h1 F, fun W b => h2 W ((But.of_below F).trans b)⟩
set_option maxRecDepth 100000 in
set_option maxHeartbeats 2000000 in
/-- LaneMenger's closure try. -/
theorem mnTry {Bf Bw Bk Ba Bb n : Nat} (hne : Bf ≠ Bw) (hn : n ≤ 3) {aa : Option Addr} {ac : Nat} {us : List Nat} (hus : ∀ u ∈ us, u < 65536) (hul : us.length ≤ 1000000) {p : List Int → Bool} {P : List (List Int)} {w : World} (hE : MnE (Zd Bf Bw) Bk Ba Bb n aa ac us w) (hT : TrI Bf Bw p P w) (la : Option Addr) (lc : Nat) (L : List Int) (hl : L.length ≤ 2) (hL : ∀ x ∈ L, 0 ≤ x ∧ x < 16) (hI : ∀ W, But (Zd Bf Bw) w W → IntsAt W la L) (hp : p L = (decide (L.length < n) && !anyU us (bsN L))) :
    Calls Try.prog 54 #[.slice la L.length lc, .pointer (some ⟨Bf, 0, none⟩), .pointer (some ⟨Bb, 0, none⟩), .pointer (some ⟨Bw, 0, none⟩)] w fun e w' => e = .returned (.tuple #[]) ∧ But (Zd Bf Bw) w w' ∧ TrI Bf Bw p (P ++ [L]) w' := by
  have hfs := find_snoc p P L
  have HT := Lib.hid hT
  have c1 := cell_of1 hT.f
  have HI := Lib.hid hI
  cases hq : (P.find? p).isSome
  · rw [hq] at c1 hfs
    simp only [Bool.false_eq_true, if_false] at hfs
    have HC := Lib.hid (mnBars Bk Ba n hn aa ac us hus hul la lc L w (hE.u w (But.refl _ _)) (hI w (But.refl _ _)) hl hL (hE.k w (But.refl _ _)) (hE.a w (But.refl _ _)))
    rw [← hp] at HC
    have c2 := cell_of1 (hE.b w (But.refl _ _))
    have HE := Lib.hid hE
    clear hT hI hE hp hL hus
    cases hpl : p L
    · rw [hpl] at HC hfs
      have hn2 : P.find? p = none := by rw [← Option.not_isSome_iff_eq_none, hq]; simp
      have HR : Hid (∀ W, Fut w W → TrI Bf Bw p (P ++ [L]) W) := Lib.hid (fun W F => by
        have h := HT.out.fut F
        refine ⟨?_, ?_⟩
        · rw [hfs]; have := h.f; rw [hn2] at this; exact this
        · rw [hfs]; have := h.x; rw [hn2] at this; exact this)
      clear hfs hq hpl hn2
      go_enter Try.func54, Try.ntmps54
      go_wp2_with fail
      refine HC.out.mono ?_
      rintro _ w3 ⟨rfl, F⟩
      have HF3 := Lib.hid F
      clear F c1 c2
      go_wp2_with fail
      refine bodyPost_end (results_none rfl _ _ _) rfl ?_
      exact ⟨rfl, But.of_below HF3.out, HR.out _ HF3.out⟩
    · rw [hpl] at HC hfs
      simp only [if_true] at hfs
      have HFS := Lib.hid hfs
      clear hfs hq hpl
      go_enter Try.func54, Try.ntmps54
      go_wp2_with fail
      refine HC.out.mono ?_
      rintro _ w3 ⟨rfl, F⟩
      have HF3 := Lib.hid F
      have HX3 : Hid (∃ v, w3.heap[Bw]? = some (.cells #[v] 22)) := Lib.hid (by obtain ⟨wa, wc, h1, _⟩ := (HT.out.fut F).x; exact ⟨_, h1⟩)
      have HF4 := Lib.hid (HT.out.fut F).f
      clear F c1 c2
      obtain ⟨v, hv⟩ := HX3.out
      have c1 := cell_of1 hv
      have f1 := froz_of1 hv
      have k1 := set_of1 (.slice la L.length lc) hv
      have kf := heap_kept HF4.out (set_grown w3 Bw 0 (.slice la L.length lc)) (fun e => hne (Option.some.inj e).symm)
      have c2 := cell_of1 kf
      have f2 := froz_of1 kf
      have k2 := set_of1 (.bool true) kf
      have k3 := heap_kept k1 (set_grown (w3.setCell ⟨Bw, 0, none⟩ (.slice la L.length lc)) Bf 0 (.bool true)) (fun e => hne (Option.some.inj e))
      have hB : But (Zd Bf Bw) w ((w3.setCell ⟨Bw, 0, none⟩ (.slice la L.length lc)).setCell ⟨Bf, 0, none⟩ (.bool true)) := ((But.of_below HF3.out).setCell (.inl (.inr rfl)) _).setCell (.inl (.inl rfl)) _
      have HK2 := Lib.hid k2
      have HK3 := Lib.hid k3
      have HB := Lib.hid hB
      clear k1 kf k2 k3 hB hv
      go_wp2_with fail
      refine bodyPost_end (results_none rfl _ _ _) rfl ?_
      refine ⟨rfl, HB.out, ?_, la, lc, ?_, fun W b => ?_⟩
      · rw [HFS.out]; exact HK2.out
      · rw [HFS.out]; exact HK3.out
      · rw [HFS.out]; exact HI.out W (HB.out.trans b)
  · rw [hq] at c1 hfs
    simp only [if_true] at hfs
    have HFS := Lib.hid hfs
    clear hfs hq hT hE hp hL hus hI
    go_enter Try.func54, Try.ntmps54
    go_wp2_with fail
    refine bodyPost_end (results_none rfl _ _ _) rfl ?_
    refine ⟨rfl, But.refl _ _, ?_, ?_⟩
    · rw [HFS.out]; exact HT.out.f
    · rw [HFS.out]; exact HT.out.x
end Go.Proofs.Ytflllkamdihfaaa
