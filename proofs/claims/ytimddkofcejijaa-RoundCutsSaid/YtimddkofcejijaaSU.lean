/- Layer 2: the reference's lists. -/
import Derived.Test.YtimddkofcejijaaSUD
import Derived.Laws.AppendOwnNone
import Derived.Deep.AppendLies
namespace Go.Proofs.Ytimddkofcejijaa
open Go.RowKit Go.Sort
set_option maxRecDepth 100000 in
set_option maxHeartbeats 4000000 in
theorem lists_own (d : Nat) : ∀ (n f : Nat) (ba : Option Addr) (bc : Nat) (begun : List Int) (w : World), n ≤ 9 → f + d = n → begun.length ≤ f → ((begun = [] ∧ f = 0 ∧ ba = none ∧ bc = 0) ∨ (0 < begun.length ∧ nth begun (begun.length - 1) + 1 = (f : Int))) → Owns w 0 (.slice ba begun.length bc) begun →
    Calls Try.prog 81 #[.int .i64 n, .slice ba begun.length bc] w fun e w' => ∃ v, e = .returned v ∧ OwnX w' w.heap.size v ((allF d f).map (begun ++ ·)) ∧ Fut w w' := by
  induction d using Nat.strongRecOn with
  | ind d ih =>
    intro n f ba bc begun w hn hfd hlb hfr hO
    have IH := Lib.hid ih
    have HO := Lib.hid hO
    have hnx : (n : Int) ≤ 9 := by omega
    have hfx : (f : Int) ≤ 9 := by omega
    have hbx : (begun.length : Int) ≤ 9 := by omega
    obtain ⟨i0, hi0, hz0, hz1, hz2⟩ := info_parts info3
    obtain ⟨i1, hi1, hy0, hy1, hy2⟩ := info_parts info25
    have HR0 : Hid ([begun] ++ ((allF (n - f) f).tail).map (begun ++ ·) = (allF d f).map (begun ++ ·)) := Lib.hid (by
      rw [show n - f = d by omega]
      conv => rhs; rw [allF_head]
      simp)
    have HRL : Hid (((allF d f).map (begun ++ ·)).length ≤ 512) := Lib.hid (by
      rw [List.length_map, allF_len]
      exact Nat.le_trans (Nat.pow_le_pow_right (by decide) (show d ≤ 9 by omega)) (by decide))
    clear ih hO
    generalize (allF d f).map (begun ++ ·) = R at *
    have hcase : (∃ k, begun.length = k + 1) ∨ begun.length = 0 := by cases begun <;> simp
    go_enter Try.func81, Try.ntmps81
    go_upto_region 3 with fail
    have hX : OwnX (w.alloc (.cells #[.slice ba begun.length bc] 25)) w.heap.size (.slice (some ⟨w.heap.size, 0, none⟩) 1 1) [begun] := OwnX.one HO.out
    have hF : Fut w (w.alloc (.cells #[.slice ba begun.length bc] 25)) := Fut.alloc _ _
    have hO1 := HO.out.fut hF
    generalize w.alloc (.cells #[.slice ba begun.length bc] 25) = W1 at *
    have HX := Lib.hid hX
    have HF := Lib.hid hF
    have HO1 := Lib.hid hO1
    clear hX hF hO1
    go_upto_if 12 with fail
    go_cut [6] from 12 to 19 (fun s6 wx => s6 = .int .i64 f ∧ wx = W1)
    case first =>
      rcases hfr with ⟨rfl, rfl, rfl, rfl⟩ | ⟨hp, hl⟩
      · go_wp2_with fail
        go_meet
        exact ⟨rfl, rfl⟩
      · have hpx : (0 : Int) < begun.length := by omega
        obtain ⟨a', c', e, hI⟩ := HO1.out.ints
        simp only [Value.slice.injEq] at e
        obtain ⟨rfl, _, rfl⟩ := e
        obtain ⟨b, off, rfl, hb, c1⟩ := hI (begun.length - 1) (by omega)
        have hc1 : W1.cell? ⟨b, off + (begun.length - 1), none⟩ = some (.int .i64 ((f : Int) - 1)) := by rw [c1]; congr 2; omega
        obtain ⟨k, hk⟩ : ∃ k, begun.length = k + 1 := ⟨begun.length - 1, by omega⟩
        rw [hk, Nat.add_sub_cancel] at hc1
        have hw1 : IntKind.i64.wrap ((begun.length : Int) - 1) = (k : Int) := by rw [IntWalk.i64_in _ ⟨by omega, by omega⟩]; omega
        clear c1 hI hl
        go_wp2_with fail
        go_meet
        exact ⟨rfl, rfl⟩
    case rest =>
      obtain ⟨rfl, rfl⟩ := hcut
      go_wp2_with fail
      go_loopw [5, 7] (fun ov iv wx => ∃ (i : Nat) (acc : List (List Int)), f ≤ i ∧ i ≤ n ∧ iv = .int .i64 i ∧ Hid (OwnX wx w.heap.size ov acc) ∧ Hid (Fut w wx) ∧ Hid (acc ++ ((allF (n - i) i).tail).map (begun ++ ·) = R)) (fun _ iv _ => n - (intOf iv).toNat)
      case atStart => exact ⟨f, [begun], Nat.le_refl _, by omega, rfl, HX, HF, HR0⟩
      case round =>
        clear HX
        obtain ⟨i, acc, hfi, hin, rfl, HOX, HFX, HRR⟩ := hrel
        by_cases hlt : i < n
        · have hix : (i : Int) < n := by omega
          obtain ⟨k, hk⟩ : ∃ k, n - i = k + 1 := ⟨n - i - 1, by omega⟩
          have HRS : Hid (acc ++ (allF k (i + 1)).map ((begun ++ [(i : Int)]) ++ ·) ++ ((allF (n - (i + 1)) (i + 1)).tail).map (begun ++ ·) = R) := Lib.hid (by
            rw [← HRR.out, hk, show n - (i + 1) = k by omega, List.append_assoc]
            refine congrArg _ ?_
            show _ = ((allF k (i + 1)).map ((i : Int) :: ·) ++ (allF k (i + 1)).tail).map (begun ++ ·)
            rw [List.map_append, List.map_map]
            refine congrArg (· ++ _) (List.map_congr_left fun l _ => ?_)
            show begun ++ [(i : Int)] ++ l = begun ++ ((i : Int) :: l)
            simp)
          have hkn : k ≤ 8 := by omega
          have hik : i + 1 + k = n := by omega
          have HIH := Lib.hid (IH.out k (by omega) n (i + 1))
          have hrl : ((allF k (i + 1)).map ((begun ++ [(i : Int)]) ++ ·)).length = 2 ^ k := by rw [List.length_map, allF_len]
          have hal : acc.length ≤ 512 := by
            have := HRL.out
            rw [← HRR.out, List.length_append] at this
            omega
          have hk2 : 2 ^ k ≤ 256 := Nat.le_trans (Nat.pow_le_pow_right (by decide) hkn) (by decide)
          have hk3 : 0 < 2 ^ k := Nat.two_pow_pos k
          rw [← hrl] at hk2 hk3
          clear hrl
          generalize hRes : (allF k (i + 1)).map ((begun ++ [(i : Int)]) ++ ·) = Res at *
          have HRes := Lib.hid hRes
          clear hRes HRR hk IH
          obtain ⟨vals, hrow, hel⟩ := HOX.out
          have HROW := Lib.hid hrow
          have HEL := Lib.hid hel
          clear hrow hel
          have hOB := HO.out.fut HFX.out
          have HOB := Lib.hid hOB
          clear hOB
          rcases hfr with ⟨rfl, rfl, rfl, rfl⟩ | ⟨hp, hl⟩
          · have HW : ((wr.alloc (.cells #[] 3)).alloc (.cells #[.int .i64 (i : Int)] 3)).ownsRow wr.heap.size 3 1 (.slice (some ⟨wr.heap.size, 0, none⟩) 0 0) 0 [] := World.ownsRow.alloc (World.ownsRow_lit (base := wr.heap.size) (e := 3) (size := 1) wr #[] 0 (Nat.le_refl _) (by unfold maxLen; omega) rfl) _
            have FW : Fut wr ((wr.alloc (.cells #[] 3)).alloc (.cells #[.int .i64 (i : Int)] 3)) := (Fut.alloc _ _).trans (Fut.alloc _ _)
            go_wp2_with (at_builtin; refine wpList_append_lies _ rfl _ _ 25 rfl wr.heap.size 3 i0 (.int .i64 0) 1 8 Try.underlying25 hi0 hz0 hz1 hz2 rfl (by decide) _ 0 [] rfl HW ⟨wr.heap.size + 1, 0, none⟩ 1 1 [.int .i64 (i : Int)] rfl rfl (cell_one (by simp [go_sem])) (by simp [Value.oneCell']) (by omega) (by unfold maxLen; omega) (by omega) (RowKit.Below.size FW) _ rfl ?_)
            intro g6 c6 w6 hown6 hgrow6 _ hg6
            have hO6 : Owns w6 0 (.slice (some ⟨g6, 0, none⟩) ([] ++ [(i : Int)]).length c6) ([] ++ [(i : Int)]) := by
              refine Owns.base (B := wr.heap.size) ?_ (Nat.zero_le _)
              unfold Owns
              simpa using hown6
            have F6 : Fut wr w6 := RowKit.Below.grown FW hgrow6 (RowKit.Below.size FW) fun q hq => (World.ownsRow.lt HW q hq).1
            have hcall := HIH.out (some ⟨g6, 0, none⟩) c6 ([] ++ [(i : Int)]) w6 hn (by omega) (by first | (simp; done) | (simp; omega)) (Or.inr ⟨by simp, by rw [nth_eq]; simp⟩) hO6
            rw [HRes.out] at hcall
            have HCALL := Lib.hid hcall
            clear hown6 hgrow6 hO6 hcall hg6 HW FW
            go_wp2_with fail
            refine HCALL.out.mono ?_
            rintro _ w7 ⟨v7, rfl, hX7, F7⟩
            obtain ⟨g7, c7, vals7, rfl, hv7, hc7, hel7⟩ := hX7.take (by omega)
            have F27 : Fut wr w7 := F6.trans F7
            have HROW7 := Lib.hid (row_fut HROW.out F27)
            have HEL7 := Lib.hid (HEL.out.fut F27)
            have HELN := Lib.hid hel7
            have HFW7 := Lib.hid (HFX.out.trans F27)
            have HC7 := Lib.hid hc7
            have hs7 := RowKit.Below.size HFW7.out
            clear hX7 F7 F6 hc7 hel7 F27 HCALL HROW HEL
            go_wp2_with (at_builtin; refine wpList_append_lies _ rfl _ _ 45 rfl w.heap.size 25 i1 (.slice none 0 0) 1 24 Try.underlying45 hi1 hy0 hy1 hy2 rfl (by decide) _ acc.length vals rfl HROW7.out ⟨g7, 0, none⟩ Res.length c7 vals7 rfl (by omega) HC7.out HELN.out.cells (by omega) (by unfold maxLen; omega) (by omega) hs7 _ rfl ?_)
            intro g8 c8 w8 hown8 hgrow8 _ _
            have HX8 : Hid (OwnX w8 w.heap.size (.slice (some ⟨g8, 0, none⟩) (acc.length + Res.length) c8) (acc ++ Res)) := Lib.hid ⟨vals ++ vals7, by rw [List.length_append]; exact hown8, HEL7.out.cat HELN.out HROW7.out hgrow8⟩
            have HF8 : Hid (Fut w w8) := Lib.hid (RowKit.Below.grown HFW7.out hgrow8 hs7 fun q hq => (World.ownsRow.lt HROW7.out q hq).1)
            clear hown8 hgrow8 HROW7 HEL7 HELN HC7 HFW7 hs7 hv7
            go_wp2
            go_roundw
            case rel => first | exact ⟨i + 1, acc ++ Res, by omega, by omega, by go_num, HX8, HF8, HRS⟩ | ((repeat apply Exists.intro); refine ⟨⟨i + 1, acc ++ Res, by omega, by omega, ?_, HX8, HF8, HRS⟩, rfl⟩; go_num)
            case measure => simp [intOf]; omega
          · obtain ⟨a', c', e, hI⟩ := HOB.out.ints
            simp only [Value.slice.injEq] at e
            obtain ⟨rfl, _, rfl⟩ := e
            obtain ⟨b, off, rfl, hb, _⟩ := hI 0 hp
            have HNW : ∀ j u, (begun.map (Value.int .i64))[j]? = some u → (wr.alloc (.cells #[] 3)).cell? ((⟨b, off, none⟩ : Addr).add j) = some u := fun j u hj => by
              have hjl : j < begun.length := by simpa using (List.getElem?_eq_some_iff.1 hj).1
              obtain ⟨b', off', e, hb', c1⟩ := (hI.fut (Fut.alloc wr (.cells #[] 3))) j hjl
              simp at e
              obtain ⟨rfl, rfl⟩ := e
              rw [Addr.add_lit, c1, ← hj, nth_eq, List.getElem?_map, List.getElem?_eq_getElem hjl]; rfl
            have HW0 : (wr.alloc (.cells #[] 3)).ownsRow wr.heap.size 3 1 (.slice (some ⟨wr.heap.size, 0, none⟩) 0 0) 0 [] := World.ownsRow_lit (base := wr.heap.size) (e := 3) (size := 1) wr #[] 0 (Nat.le_refl _) (by unfold maxLen; omega) rfl
            have FW0 : Fut wr (wr.alloc (.cells #[] 3)) := Fut.alloc _ _
            go_wp2_with (at_builtin; refine wpList_append_lies _ rfl _ _ 25 rfl wr.heap.size 3 i0 (.int .i64 0) 1 8 Try.underlying25 hi0 hz0 hz1 hz2 rfl (by decide) _ 0 [] rfl HW0 ⟨b, off, none⟩ begun.length bc (begun.map (.int .i64)) rfl (by simp) HNW (by intro u hu; obtain ⟨z, _, rfl⟩ := List.mem_map.1 hu; rfl) hp (by unfold maxLen; omega) (by omega) (RowKit.Below.size FW0) _ rfl ?_)
            intro g5 c5 w5 hown5 hgrow5 _ hg5
            have F5 : Fut wr w5 := RowKit.Below.grown FW0 hgrow5 (RowKit.Below.size FW0) fun q hq => (World.ownsRow.lt HW0 q hq).1
            have HW : (w5.alloc (.cells #[.int .i64 (i : Int)] 3)).ownsRow wr.heap.size 3 1 (.slice (some ⟨g5, 0, none⟩) begun.length c5) begun.length (begun.map (Value.int .i64)) := World.ownsRow.alloc hown5 _
            have FW : Fut wr (w5.alloc (.cells #[.int .i64 (i : Int)] 3)) := F5.trans (Fut.alloc _ _)
            clear HNW HW0 FW0 hown5 hgrow5 hg5 F5 hI hb
            go_wp2_with (at_builtin; refine wpList_append_lies _ rfl _ _ 25 rfl wr.heap.size 3 i0 (.int .i64 0) 1 8 Try.underlying25 hi0 hz0 hz1 hz2 rfl (by decide) _ begun.length (begun.map (Value.int .i64)) rfl HW ⟨w5.heap.size, 0, none⟩ 1 1 [.int .i64 (i : Int)] rfl rfl (cell_one (by simp [go_sem])) (by simp [Value.oneCell']) (by omega) (by unfold maxLen; omega) (by omega) (RowKit.Below.size FW) _ rfl ?_)
            intro g6 c6 w6 hown6 hgrow6 _ hg6
            have hO6 : Owns w6 0 (.slice (some ⟨g6, 0, none⟩) (begun ++ [(i : Int)]).length c6) (begun ++ [(i : Int)]) := by
              refine Owns.base (B := wr.heap.size) ?_ (Nat.zero_le _)
              unfold Owns
              simpa using hown6
            have F6 : Fut wr w6 := RowKit.Below.grown FW hgrow6 (RowKit.Below.size FW) fun q hq => (World.ownsRow.lt HW q hq).1
            have hcall := HIH.out (some ⟨g6, 0, none⟩) c6 (begun ++ [(i : Int)]) w6 hn (by omega) (by first | (simp; done) | (simp; omega)) (Or.inr ⟨by simp, by rw [nth_eq]; simp⟩) hO6
            rw [show (begun ++ [(i : Int)]).length = begun.length + 1 by simp, HRes.out] at hcall
            have HCALL := Lib.hid hcall
            clear hown6 hgrow6 hO6 hcall hg6 HW FW
            go_wp2_with fail
            refine HCALL.out.mono ?_
            rintro _ w7 ⟨v7, rfl, hX7, F7⟩
            obtain ⟨g7, c7, vals7, rfl, hv7, hc7, hel7⟩ := hX7.take (by omega)
            have F27 : Fut wr w7 := F6.trans F7
            have HROW7 := Lib.hid (row_fut HROW.out F27)
            have HEL7 := Lib.hid (HEL.out.fut F27)
            have HELN := Lib.hid hel7
            have HFW7 := Lib.hid (HFX.out.trans F27)
            have HC7 := Lib.hid hc7
            have hs7 := RowKit.Below.size HFW7.out
            clear hX7 F7 F6 hc7 hel7 F27 HCALL HROW HEL
            go_wp2_with (at_builtin; refine wpList_append_lies _ rfl _ _ 45 rfl w.heap.size 25 i1 (.slice none 0 0) 1 24 Try.underlying45 hi1 hy0 hy1 hy2 rfl (by decide) _ acc.length vals rfl HROW7.out ⟨g7, 0, none⟩ Res.length c7 vals7 rfl (by omega) HC7.out HELN.out.cells (by omega) (by unfold maxLen; omega) (by omega) hs7 _ rfl ?_)
            intro g8 c8 w8 hown8 hgrow8 _ _
            have HX8 : Hid (OwnX w8 w.heap.size (.slice (some ⟨g8, 0, none⟩) (acc.length + Res.length) c8) (acc ++ Res)) := Lib.hid ⟨vals ++ vals7, by rw [List.length_append]; exact hown8, HEL7.out.cat HELN.out HROW7.out hgrow8⟩
            have HF8 : Hid (Fut w w8) := Lib.hid (RowKit.Below.grown HFW7.out hgrow8 hs7 fun q hq => (World.ownsRow.lt HROW7.out q hq).1)
            clear hown8 hgrow8 HROW7 HEL7 HELN HC7 HFW7 hs7 hv7
            go_wp2
            go_roundw
            case rel => first | exact ⟨i + 1, acc ++ Res, by omega, by omega, by go_num, HX8, HF8, HRS⟩ | ((repeat apply Exists.intro); refine ⟨⟨i + 1, acc ++ Res, by omega, by omega, ?_, HX8, HF8, HRS⟩, rfl⟩; go_num)
            case measure => simp [intOf]; omega
        · obtain rfl : i = n := by omega
          have hacc : acc = R := by
            have := HRR.out
            rw [Nat.sub_self] at this
            simpa [allF] using this
          subst hacc
          go_wp2
          go_ret
          exact ⟨_, rfl, HOX.out, HFX.out⟩
end Go.Proofs.Ytimddkofcejijaa
