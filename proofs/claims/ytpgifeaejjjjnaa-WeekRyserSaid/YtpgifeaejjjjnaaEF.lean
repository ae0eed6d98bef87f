/- The reference's copied 116: copied_any -/
import Derived.Test.YtpgifeaejjjjnaaEE
import Derived.Test.YtpgifeaejjjjnaaCQ
namespace Go.Proofs.Ytpgifeaejjjjnaa
open Go.RowKit Go.Sort
set_option maxRecDepth 100000 in
set_option maxHeartbeats 4000000 in
/-- lists copied, one by one. -/
theorem copied_any (a : Option Addr) (cap : Nat) (zss : List (List Int)) (w : World) (hL : LstC w a zss) (hl : zss.length ≤ 5) (hz : ∀ k, k < zss.length → 1 ≤ (lth zss k).length ∧ (lth zss k).length ≤ 5) :
    Calls Try.prog 116 #[.slice a zss.length cap] w fun e w' => ∃ v, e = .returned v ∧ OwnX w' w.heap.size v zss ∧ Fut w w' := by
  obtain ⟨i0, hi0, hz0, hz1, hz2⟩ := info_parts info3
  obtain ⟨i1, hi1, hy0, hy1, hy2⟩ := info_parts info28
  have HL := Lib.hid hL
  have HZ := Lib.hid hz
  have hlx : (zss.length : Int) ≤ 5 := by omega
  clear hL hz
  go_enter Try.func116, Try.ntmps116
  go_wp2_with fail
  go_loopw [3, 4] (fun ov iv wx => ∃ i : Nat, i ≤ zss.length ∧ iv = .int .i64 i ∧ Hid (OwnX wx w.heap.size ov (zss.take i)) ∧ Hid (Fut w wx)) (fun _ iv _ => zss.length - (intOf iv).toNat)
  case atStart => exact ⟨0, Nat.zero_le _, rfl, Lib.hid (OwnX.nil _ _), Lib.hid Fut.rfl⟩
  case round =>
    obtain ⟨i, hin, rfl, HOX, HFX⟩ := hrel
    by_cases hlt : i < zss.length
    · have hix : (i : Int) < zss.length := by omega
      obtain ⟨bb, off, l, lc, ea, hbb, d1, hlc, hcc, hI⟩ := (HL.out.fut HFX.out) i hlt
      subst ea
      obtain ⟨z1, z5⟩ := HZ.out i hlt
      have HTK : Hid (zss.take (i + 1) = zss.take i ++ [lth zss i]) := Lib.hid (by
        rw [List.take_succ_eq_append_getElem hlt, lth_eq, List.getElem?_eq_getElem hlt]; rfl)
      have hal : (zss.take i).length ≤ 5 := by rw [List.length_take]; omega
      generalize zss.take i = acc at *
      generalize lth zss i = row at *
      obtain ⟨ad, rfl⟩ : ∃ ad, l = some ad := by
        obtain ⟨b, off, e, _⟩ := hI 0 (by omega)
        exact ⟨_, e⟩
      have HNW : Hid (∀ j u, (row.map (Value.int .i64))[j]? = some u → (wr.alloc (.cells #[] 3)).cell? (ad.add j) = some u) := Lib.hid (fun j u hj => by
        obtain ⟨b, off, e, _⟩ := hI 0 (by omega)
        simp at e
        subst e
        rw [Addr.add_lit]
        exact ints_news (hI.fut (Fut.alloc _ _)) j u hj)
      obtain ⟨vals, hrow, hel⟩ := HOX.out
      have HROW := Lib.hid hrow
      have HEL := Lib.hid hel
      have HBW : Hid (w.heap.size ≤ wr.heap.size) := Lib.hid (RowKit.Below.size HFX.out)
      have HW0 : (wr.alloc (.cells #[] 3)).ownsRow wr.heap.size 3 1 (.slice (some ⟨wr.heap.size, 0, none⟩) 0 0) 0 [] := World.ownsRow_lit (base := wr.heap.size) (e := 3) (size := 1) wr #[] 0 (Nat.le_refl _) (by unfold maxLen; omega) rfl
      have FW0 : Fut wr (wr.alloc (.cells #[] 3)) := Fut.alloc _ _
      clear hrow hel hI
      go_wp2_with (at_builtin; refine wpList_append_own _ rfl _ _ 28 rfl wr.heap.size 3 i0 (.int .i64 0) 1 8 Try.underlying28 hi0 hz0 hz1 hz2 rfl (by decide) _ 0 [] rfl HW0 ad row.length lc (row.map (.int .i64)) rfl (by simp) HNW.out (by intro u hu; obtain ⟨z, _, rfl⟩ := List.mem_map.1 hu; rfl) (by unfold maxLen; omega) (by omega) (RowKit.Below.size FW0) ?_)
      intro v5 w5 hown5 hgrow5 hnil5
      have F5 : Fut wr w5 := RowKit.Below.grown FW0 hgrow5 (RowKit.Below.size FW0) fun q hq => (World.ownsRow.lt HW0 q hq).1
      obtain ⟨g5, c5, rfl⟩ : ∃ g5 c5, v5 = .slice (some ⟨g5, 0, none⟩) row.length c5 := by
        rcases hown5.2 with ⟨e, _⟩ | ⟨g, c, _, e, _⟩
        · exact (hnil5 e).elim
        · exact ⟨g, c, e⟩
      have HOR : Hid (Owns w5 0 (.slice (some ⟨g5, 0, none⟩) row.length c5) row) := Lib.hid (by
        refine Owns.base (B := wr.heap.size) ?_ (Nat.zero_le _)
        unfold Owns
        simpa using hown5)
      have HF5 := Lib.hid F5
      have HFW := Lib.hid (HFX.out.trans F5)
      have HR5 := Lib.hid (row_fut HROW.out F5)
      have HE5 := Lib.hid (HEL.out.fut F5)
      have HB5 : Hid (w.heap.size ≤ w5.heap.size) := Lib.hid (RowKit.Below.size HFW.out)
      clear HNW HW0 FW0 hown5 hgrow5 F5 hnil5 HROW HEL
      go_wp2_with (at_builtin; refine wpList_append_lies _ rfl _ _ 22 rfl w.heap.size 28 i1 (.slice none 0 0) 1 24 Try.underlying22 hi1 hy0 hy1 hy2 rfl (by decide) _ acc.length vals rfl (row_fut HR5.out (Fut.alloc _ _)) ⟨w5.heap.size, 0, none⟩ 1 1 [.slice (some ⟨g5, 0, none⟩) row.length c5] rfl rfl (cell_one (by simp [go_sem])) (by simp [Value.oneCell']) (by omega) (by unfold maxLen; omega) (by omega) (Nat.le_trans HB5.out (RowKit.Below.size (Fut.alloc w5 _))) _ rfl ?_)
      intro g8 c8 w8 hown8 hgrow8 _ _
      have HX8 : Hid (OwnX w8 w.heap.size (.slice (some ⟨g8, 0, none⟩) (acc.length + 1) c8) (acc ++ [row])) := Lib.hid (OwnX.app (row_fut HR5.out (Fut.alloc _ _)) (HE5.out.fut (Fut.alloc _ _)) (HOR.out.fut (Fut.alloc _ _)) hown8 hgrow8)
      have HF8 : Hid (Fut w w8) := Lib.hid (RowKit.Below.grown (HFW.out.trans (Fut.alloc w5 (.cells #[.slice (some ⟨g5, 0, none⟩) row.length c5] 28))) hgrow8 (RowKit.Below.size (HFW.out.trans (Fut.alloc w5 (.cells #[.slice (some ⟨g5, 0, none⟩) row.length c5] 28)))) fun q hq => (World.ownsRow.lt HR5.out q hq).1)
      clear hown8 hgrow8
      go_wp2
      go_round
      case rel => exact ⟨i + 1, by omega, by go_num, by rw [HTK.out]; exact HX8, HF8⟩
      case measure => simp [intOf]; omega
    · obtain rfl : i = zss.length := by omega
      go_wp2
      go_ret
      exact ⟨_, rfl, by have h := HOX.out; rw [List.take_length] at h; exact h, HFX.out⟩
end Go.Proofs.Ytpgifeaejjjjnaa
