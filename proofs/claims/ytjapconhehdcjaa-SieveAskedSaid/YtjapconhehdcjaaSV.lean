/- asked -/
import Derived.Test.YtjapconhehdcjaaSU
import Derived.Deep.DeepCutAuto
import Derived.Deep.AppendLies
namespace Go.Proofs.Ytjapconhehdcjaa
open Go.RowKit Go.Sort
/-- the sieves that lead to a kind, from a span on. -/
def askI (k : Int) : Int → Int → List Int → List Int
  | _, _, [] => []
  | x, y, s :: zs => if x ≤ s ∧ s < y then s :: (if k ≤ s then askI k x s zs else askI k (s + 1) y zs) else askI k x y zs
theorem askI_in {k x y : Int} {zs : List Int} {i : Nat} (hi : i < zs.length) {s : Int} (hs : nth zs i = s) (h : x ≤ s ∧ s < y) : askI k x y (zs.drop i) = s :: (if k ≤ s then askI k x s (zs.drop (i + 1)) else askI k (s + 1) y (zs.drop (i + 1))) := by
  rw [nth_drop zs i hi, askI, hs, if_pos h]
theorem askI_out {k x y : Int} {zs : List Int} {i : Nat} (hi : i < zs.length) {s : Int} (hs : nth zs i = s) (h : ¬ (x ≤ s ∧ s < y)) : askI k x y (zs.drop i) = askI k x y (zs.drop (i + 1)) := by
  rw [nth_drop zs i hi, askI, hs, if_neg h]
set_option maxRecDepth 100000 in
set_option maxHeartbeats 4000000 in
theorem asked_any (n : Nat) (hn1 : 1 ≤ n) (hn : n ≤ 8) (a : Option Addr) (cap : Nat) (zs : List Int) (k : Int) (w : World) (hA : IntsAt w a zs) (hl : zs.length ≤ 1000) :
    Calls Try.prog 79 #[.int .i64 (n : Nat), .slice a zs.length cap, .int .i64 k] w fun e w' => ∃ v, e = .returned v ∧ Owns w' w.heap.size v (askI k 0 ((n : Int) - 1) zs) ∧ Fut w w' := by
  obtain ⟨i0, hi0, hz0, hz1, hz2⟩ := info_parts info3
  have HAL := Lib.hid (allOf_any n (by omega) w)
  have HIN := Lib.hid (fun W (h : Fut w W) => hA.fut h)
  have hlx : (zs.length : Int) ≤ 1000 := by omega
  obtain ⟨m, hm⟩ : ∃ m : Int, m = (n : Int) - 1 := ⟨_, rfl⟩
  rw [← hm] at HAL ⊢
  have hmb : 0 ≤ m ∧ m ≤ 100 := by omega
  clear hA hm
  go_enter Try.func79, Try.ntmps79
  go_wp2_with fail
  refine HAL.out.mono ?_
  rintro _ w1 ⟨rfl, F1⟩
  go_upto_region 3 with fail
  obtain ⟨H, hH⟩ : ∃ H, H = w1.heap.size := ⟨_, rfl⟩
  obtain ⟨w2, hw2⟩ : ∃ w2, w2 = w1.alloc (Obj.cells #[Value.int .i64 0, Value.int .i64 m] 69) := ⟨_, rfl⟩
  have HB2 : Hid (w2.heap[H]? = some (.cells #[.int .i64 0, .int .i64 m] 69)) := Lib.hid (by rw [hH, hw2]; exact World.alloc_heap_new w1 _)
  have HF2 : Hid (Fut w w2) := Lib.hid (F1.trans (by rw [hw2]; exact Fut.alloc _ _))
  have HZ2 : Hid (w2.heap.size = H + 1 ∧ w.heap.size ≤ H) := Lib.hid ⟨by rw [hw2, World.size_alloc, hH], by rw [hH]; exact RowKit.Below.size F1⟩
  rw [← hw2, ← hH]
  clear hw2 hH F1 HAL
  go_wp2_with fail
  go_loopw [7, 15] (fun lv iv wr => ∃ (i : Nat) (oa : Option Addr) (q oc : Nat) (x y : Int) (acc : List Int), i ≤ zs.length ∧ iv = .int .i64 (i : Nat) ∧ lv = .slice oa q oc ∧ (0 ≤ x ∧ x ≤ 100 ∧ y ≤ 100) ∧ Hid (q = acc.length ∧ q ≤ i ∧ Owns wr (H + 1) (.slice oa q oc) acc) ∧ Hid (wr.heap[H]? = some (.cells #[.int .i64 x, .int .i64 y] 69)) ∧ Hid (acc ++ askI k x y (zs.drop i) = askI k 0 m zs) ∧ Hid (Fut w wr) ∧ Hid (H + 1 ≤ wr.heap.size)) (fun _ iv _ => zs.length - (intOf iv).toNat)
  case atStart => exact ⟨0, none, 0, 0, 0, m, [], by omega, rfl, rfl, ⟨by omega, by omega, by omega⟩, Lib.hid ⟨rfl, Nat.le_refl _, World.ownsRow_nil _ _ _ _⟩, HB2, Lib.hid (by simp), HF2, Lib.hid (by have := HZ2.out; omega)⟩
  case round =>
    obtain ⟨i, oa, q, oc, x, y, acc, hi, rfl, rfl, hxy, HO, HBX, HP, HF, HZ⟩ := hrel
    by_cases hil : i < zs.length
    · have hix : (i : Int) < zs.length := by omega
      obtain ⟨b, o, rfl, hb, c⟩ := HIN.out wr HF.out i hil
      obtain ⟨c0, c1, _⟩ := two_cell HBX.out
      have hwi : IntKind.i64.wrap ((i : Int) + 1) = ((i + 1 : Nat) : Int) := by rw [IntWalk.i64_in _ ⟨by omega, by omega⟩]; omega
      obtain ⟨s, hs⟩ : ∃ s, nth zs i = s := ⟨_, rfl⟩
      have HS := Lib.hid hs
      rw [hs] at c
      have HIL := Lib.hid hil
      clear hs
      by_cases hin : x ≤ s ∧ s < y
      · have HDV : Hid (∀ W, Calls Try.prog 98 #[spV x y, .int .i64 s] W fun e w' => e = .returned (.bool true) ∧ Fut W w') := Lib.hid (fun W => by have h := isDiv_any x y s W; rw [decide_eq_true hin] at h; exact h)
        have HN := Lib.hid (askI_in (k := k) hil HS.out hin)
        obtain ⟨x', y', hx', hb', hn'⟩ : ∃ x' y', (if k ≤ s then spV x s else spV (s + 1) y) = spV x' y' ∧ (0 ≤ x' ∧ x' ≤ 100 ∧ y' ≤ 100) ∧ (if k ≤ s then askI k x s (zs.drop (i + 1)) else askI k (s + 1) y (zs.drop (i + 1))) = askI k x' y' (zs.drop (i + 1)) := by
          by_cases hk : k ≤ s
          · exact ⟨x, s, by rw [if_pos hk], ⟨by omega, by omega, by omega⟩, by rw [if_pos hk]⟩
          · exact ⟨s + 1, y, by rw [if_neg hk], ⟨by omega, by omega, by omega⟩, by rw [if_neg hk]⟩
        have HPW : Hid (∀ W, Calls Try.prog 99 #[spV x y, .int .i64 k, .int .i64 s] W fun e w' => e = .returned (spV x' y') ∧ Fut W w') := Lib.hid (fun W => by have h := partWith_any x y k s ⟨by omega, by omega⟩ W; rw [hx'] at h; exact h)
        rw [hn'] at HN
        have hq : q ≤ 1000 := by have := HO.out.2.1; omega
        clear hx' hn' hil
        go_wp2_with fail
        refine (HDV.out _).mono ?_
        rintro _ w3 ⟨rfl, F3⟩
        have FA : Fut w3 (w3.alloc (.cells #[.int .i64 s] 3)) := Fut.alloc _ _
        have HOW : Hid ((w3.alloc (.cells #[.int .i64 s] 3)).ownsRow (H + 1) 3 1 (.slice oa q oc) q (acc.map (Value.int .i64))) := Lib.hid (by have h := HO.out.2.2.fut (F3.trans FA); unfold Owns at h; rwa [← HO.out.1] at h)
        have HBA := Lib.hid (heap_fut HBX.out (F3.trans FA))
        have HFA := Lib.hid (HF.out.trans (F3.trans FA))
        have HZA : Hid (H + 1 ≤ (w3.alloc (.cells #[.int .i64 s] 3)).heap.size) := Lib.hid (Nat.le_trans HZ.out (RowKit.Below.size (F3.trans FA)))
        have HQ := Lib.hid (And.intro HO.out.1 HO.out.2.1)
        clear FA F3 HO HBX HF HZ c0 c1 c
        go_wp2_with (at_builtin; refine wpList_append_lies _ rfl _ _ 22 rfl (H + 1) 3 i0 (.int .i64 0) 1 8 Try.underlying22 hi0 hz0 hz1 hz2 rfl (by decide) (.slice oa q oc) q (acc.map (Value.int .i64)) rfl HOW.out ⟨w3.heap.size, 0, none⟩ 1 1 [.int .i64 s] rfl rfl (cell_one (by simp [go_sem])) (by simp [Value.oneCell']) (by omega) (by unfold maxLen; omega) (by omega) HZA.out _ rfl ?_)
        intro g8 c8 w8 hown8 hgrow8 hat8 _
        have HX8 : Hid (Owns w8 (H + 1) (.slice (some ⟨g8, 0, none⟩) (q + 1) c8) (acc ++ [s])) := Lib.hid (by
          unfold Owns
          rw [List.length_append, ← HQ.out.1, List.map_append]; exact hown8)
        have HF8 : Hid (Fut w w8) := Lib.hid (fut_own HFA.out hgrow8 (fun q hq => by have := (World.ownsRow.lt HOW.out q hq).1; have := HZ2.out.2; omega))
        have HB8 := Lib.hid (heap_kept HBA.out hgrow8 (fun e => by have := (World.ownsRow.lt HOW.out _ e).1; omega))
        have HZ8 : Hid (H + 1 ≤ w8.heap.size) := Lib.hid (Nat.le_trans HZA.out hgrow8.size)
        clear hown8 hgrow8 hat8 HOW HFA HZA HBA
        obtain ⟨c0, c1, _⟩ := two_cell HB8.out
        go_wp2_with fail
        refine (HPW.out _).mono ?_
        rintro _ w9 ⟨rfl, F9⟩
        have hB9 := heap_fut HB8.out F9
        obtain ⟨⟨y1, y2⟩, ⟨y3, y4⟩, y5⟩ := set2_both (.int .i64 x') (.int .i64 y') hB9
        have HB9 := Lib.hid y5
        have HX9 := Lib.hid (((HX8.out.fut F9).kept (set_grown w9 H 0 (.int .i64 x')) (own_ge (HX8.out.fut F9) (Nat.lt_succ_self H))))
        have HX10 := Lib.hid (HX9.out.kept (set_grown (w9.setCell ⟨H, 0, none⟩ (.int .i64 x')) H 1 (.int .i64 y')) (own_ge HX9.out (Nat.lt_succ_self H)))
        have HF10 : Hid (Fut w ((w9.setCell ⟨H, 0, none⟩ (.int .i64 x')).setCell ⟨H, 1, none⟩ (.int .i64 y'))) := Lib.hid (RowKit.Below.setCell (p := ⟨H, 1, none⟩) (RowKit.Below.setCell (p := ⟨H, 0, none⟩) (HF8.out.trans F9) HZ2.out.2 _) HZ2.out.2 _)
        have HZ10 : Hid (H + 1 ≤ ((w9.setCell ⟨H, 0, none⟩ (.int .i64 x')).setCell ⟨H, 1, none⟩ (.int .i64 y')).heap.size) := Lib.hid (by have := HZ8.out; have := RowKit.Below.size F9; simp; omega)
        have HP10 : Hid ((acc ++ [s]) ++ askI k x' y' (zs.drop (i + 1)) = askI k 0 m zs) := Lib.hid (by rw [← HP.out, HN.out]; simp)
        have HQ10 : Hid (q + 1 = (acc ++ [s]).length ∧ q + 1 ≤ i + 1 ∧ Owns ((w9.setCell ⟨H, 0, none⟩ (.int .i64 x')).setCell ⟨H, 1, none⟩ (.int .i64 y')) (H + 1) (.slice (some ⟨g8, 0, none⟩) (q + 1) c8) (acc ++ [s])) := Lib.hid ⟨by rw [List.length_append, ← HQ.out.1]; rfl, by have := HQ.out.2; omega, HX10.out⟩
        clear hB9 y5 F9 c0 c1
        go_wp2_with fail
        go_roundw
        case rel => first
          | exact ⟨i + 1, _, _, c8, x', y', acc ++ [s], HIL.out, rfl, rfl, hb', HQ10, HB9, HP10, HF10, HZ10⟩
          | ((repeat apply Exists.intro); exact ⟨⟨i + 1, _, _, c8, x', y', acc ++ [s], HIL.out, rfl, rfl, hb', HQ10, HB9, HP10, HF10, HZ10⟩, rfl⟩)
        case measure => have := HIL.out; simp [intOf]; omega
      · have HDV : Hid (∀ W, Calls Try.prog 98 #[spV x y, .int .i64 s] W fun e w' => e = .returned (.bool false) ∧ Fut W w') := Lib.hid (fun W => by have h := isDiv_any x y s W; rw [decide_eq_false hin] at h; exact h)
        have HN := Lib.hid (askI_out (k := k) hil HS.out hin)
        clear hil hin
        go_wp2_with fail
        refine (HDV.out _).mono ?_
        rintro _ w3 ⟨rfl, F3⟩
        have HO3 : Hid (q = acc.length ∧ q ≤ i + 1 ∧ Owns w3 (H + 1) (.slice oa q oc) acc) := Lib.hid ⟨HO.out.1, by have := HO.out.2.1; omega, HO.out.2.2.fut F3⟩
        have HB3 := Lib.hid (heap_fut HBX.out F3)
        have HF3 := Lib.hid (HF.out.trans F3)
        have HZ3 : Hid (H + 1 ≤ w3.heap.size) := Lib.hid (Nat.le_trans HZ.out (RowKit.Below.size F3))
        have HP3 : Hid (acc ++ askI k x y (zs.drop (i + 1)) = askI k 0 m zs) := Lib.hid (by rw [← HP.out, HN.out])
        clear F3 c0 c1 c
        go_wp2_with fail
        go_roundw
        case rel => first
          | exact ⟨i + 1, _, _, oc, x, y, acc, HIL.out, rfl, rfl, hxy, HO3, HB3, HP3, HF3, HZ3⟩
          | ((repeat apply Exists.intro); exact ⟨⟨i + 1, _, _, oc, x, y, acc, HIL.out, rfl, rfl, hxy, HO3, HB3, HP3, HF3, HZ3⟩, rfl⟩)
        case measure => have := HIL.out; simp [intOf]; omega
    · obtain rfl : i = zs.length := by omega
      have HE : Hid (acc = askI k 0 m zs) := Lib.hid (by have h := HP.out; rw [List.drop_length, askI, List.append_nil] at h; exact h)
      go_wp2_with fail
      go_ret
      exact ⟨_, rfl, by rw [← HE.out, ]; have h := HO.out.2.2.base (B' := w.heap.size) (by have := HZ2.out.2; omega); exact h, HF.out⟩
end Go.Proofs.Ytjapconhehdcjaa
