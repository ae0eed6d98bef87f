/- Layer 1: what spread returns. -/
import Derived.Test.YtdnbdaegahcoeaaSpreadA
import Derived.Test.YtdnbdaegahcoeaaGarmA
namespace Go.Proofs.Ytdnbdaegahcoeaa
open Go.RowKit Go.Sort
abbrev ag32 (a b c d e : Int) : Value := .agg #[.int .u32 a, .int .u32 b, .int .u32 c, .int .u32 d, .int .u32 e]
theorem sp_out_map (zs ys : List Int) (x : Int) (j : Nat) : (outF zs ys x (j + 1)).map (Value.int .i64) = (outF zs ys x j).map (Value.int .i64) ++ [.int .i64 (pickF zs ys x j)] := by
  rw [outF_succ, List.map_append]; rfl
set_option maxRecDepth 100000 in
set_option maxHeartbeats 1000000 in
theorem spread_any (x : Int) (l : Option Addr) (cap : Nat) (zs ys : List Int) (a b c d e : Int) (w : World) (h : Full5 x zs) (hys : ys = [a, b, c, d, e]) (hy : ∀ j, 0 ≤ nth ys j ∧ nth ys j ≤ 4294967295) (hA : IntsAt w l zs) :
    Calls Try.prog 41 #[.int .i64 x, .slice l zs.length cap, ag32 a b c d e] w fun t w' => ∃ v, t = .returned v ∧ Owns w' w.heap.size v (outF zs ys x zs.length) ∧ RowKit.Below w.heap.size w w' := by
  obtain ⟨i0, hi, hz0, hz1, hz2⟩ := info_parts info3
  have hsum := full_sum h
  have hx := h.2.2.2
  have h1 := h.1
  have h5 := h.2.1
  obtain ⟨bl, off, rfl, hbl, hcell⟩ := hA.addr (by omega)
  have HS := Lib.hid (fun (w1 : World) (hb : Fut w w1) => refsum_any (some ⟨bl, off, none⟩) cap zs w1 (full_small h) (hA.fut hb))
  have hCC : ∀ w1, RowKit.Below (w.heap.size + 1) (w.alloc (.cells #[.int .u32 a, .int .u32 b, .int .u32 c, .int .u32 d, .int .u32 e] 42)) w1 → ∀ j, j < zs.length → w1.cell? ⟨w.heap.size, j, none⟩ = some (.int .u32 (nth ys j)) ∧ w1.cell? ⟨bl, off + j, none⟩ = some (.int .i64 (nth zs j)) := by
    intro w1 hb j hj
    refine ⟨?_, ?_⟩
    · rw [hb.cell (p := ⟨w.heap.size, j, none⟩) (by simp), World.cell?_alloc_at _ _ _ _ rfl, hys]
      match j, (show j < 5 by omega) with
      | 0, _ => rfl
      | 1, _ => rfl
      | 2, _ => rfl
      | 3, _ => rfl
      | 4, _ => rfl
    · rw [hb.cell (p := ⟨bl, off + j, none⟩) (by dsimp only; omega), ← hcell j hj]
      exact (RowKit.Below.alloc (RowKit.Below.refl _ _) (Nat.le_refl _) _).cell (p := ⟨bl, off + j, none⟩) hbl
  have HC := Lib.hid hCC
  have HB := Lib.hid (left_bd zs ys x (fun k => (full_nth h k).1) hx.1 hx.2)
  have HP := Lib.hid (pickF_bd zs ys x (fun k => (full_nth h k).1) hx.1 hx.2)
  have HR := Lib.hid (fun j hj => restF_succ zs j hj)
  have HN := Lib.hid (full_nth h)
  have HY := Lib.hid hy
  have hr0 : restF zs 0 = 120 * zs.sum := by simp [restF]
  have HR0 := Lib.hid hr0
  have HRb : Hid (∀ j, j ≤ zs.length → restF zs j ≤ 120 * zs.sum) := Lib.hid (fun j hj => by rw [← hr0]; exact restF_pos zs (fun k => (full_nth h k).1) j hj 0 (by omega))
  clear hr0 h hy hA hcell hys hCC
  go_enter Try.func41, Try.ntmps41
  go_wp2_with (go_at_call 44; refine (HS.out _ (Fut.alloc _ _)).mono ?_; rintro e w' ⟨rfl, rfl⟩)
  go_loopw [7, 8, 9, 22] (fun lf rs v i wr => ∃ j : Nat, j ≤ zs.length ∧ i = .int .i64 j ∧ lf = .int .i64 (leftF zs ys x j) ∧ rs = .int .i64 (restF zs j) ∧ wr.ownsRow (w.heap.size + 1) 3 1 v j ((outF zs ys x j).map (Value.int .i64)) ∧ RowKit.Below (w.heap.size + 1) (w.alloc (.cells #[.int .u32 a, .int .u32 b, .int .u32 c, .int .u32 d, .int .u32 e] 42)) wr)
    (fun _ _ _ i _ => zs.length - (intOf i).toNat)
  case atStart => exact ⟨0, Nat.zero_le _, rfl, rfl, by rw [HR0.out], World.ownsRow_nil _ _ _ _, RowKit.Below.refl _ _⟩
  case round =>
    obtain ⟨j, hj, rfl, rfl, rfl, hown, hnx⟩ := hrel
    by_cases hlt : j < zs.length
    · obtain ⟨p1, p2⟩ := HC.out _ hnx j hlt
      have hb := HB.out j hj
      have hn := HN.out j
      have hyj := HY.out j
      have hsz := hnx.size
      simp at hsz
      have hpp := HP.out j hlt
      have hrr := HR.out j hlt
      have hrb := HRb.out j hj
      have hrb2 := HB.out (j + 1) (by omega)
      rw [hrr] at hpp hrb2
      have HM := Lib.hid (sp_out_map zs ys x j)
      have HL1 : Hid (leftF zs ys x (j + 1) = leftF zs ys x j - pickF zs ys x j) := Lib.hid rfl
      have HP1 : Hid (pickF zs ys x j = pick (leftF zs ys x j) (restF zs j - 120 * nth zs j) (120 * nth zs j) (nth ys j)) := Lib.hid (by unfold pickF; rw [hrr])
      have HRR := Lib.hid hrr
      clear hrr HC HB HP HR HN HY HRb HS
      generalize leftF zs ys x j = L at *
      generalize restF zs j = S at *
      generalize nth zs j = z at *
      generalize nth ys j = y at *
      generalize pickF zs ys x j = P at *
      have hjx : (j : Int) < zs.length := by omega
      obtain ⟨q1, q2, q3⟩ := hpp
      obtain ⟨b1, b2⟩ := hb
      obtain ⟨n1, n2⟩ := hn
      obtain ⟨y1, y2⟩ := hyj
      obtain ⟨t1, t2⟩ := hrb2
      obtain ⟨s1, s2⟩ := hsum
      have r0 : 0 ≤ S - 120 * z := by omega
      have r1 : S ≤ 600000 := by omega
      have l1 : L ≤ 600000 := by omega
      have e1 : P = max 0 (L - (S - 120 * z)) + y % (min L (120 * z) - max 0 (L - (S - 120 * z)) + 1) := HP1.out
      have e2 : leftF zs ys x (j + 1) = L - P := HL1.out
      have x1 : 0 ≤ max 0 (L - (S - 120 * z)) + y % (min L (120 * z) - max 0 (L - (S - 120 * z)) + 1) := by rw [← e1]; exact q1
      have x2 : max 0 (L - (S - 120 * z)) + y % (min L (120 * z) - max 0 (L - (S - 120 * z)) + 1) ≤ 120000 := by rw [← e1]; omega
      have x3 : 0 ≤ L - (max 0 (L - (S - 120 * z)) + y % (min L (120 * z) - max 0 (L - (S - 120 * z)) + 1)) := by rw [← e1]; omega
      clear e1 e2
      go_wp2_with (first
        | (at_builtin; refine wpList_append_own _ rfl _ _ 22 rfl (w.heap.size + 1) 3 i0 (.int .i64 0) 1 8 Try.underlying22 hi hz0 hz1 hz2 rfl (by decide) _ _ _ rfl (hown.alloc _) ⟨wr.heap.size, 0, none⟩ 1 1 [.int .i64 (max 0 (L - (S - 120 * z)) + y % (min L (120 * z) - max 0 (L - (S - 120 * z)) + 1))] rfl rfl ?c1 ?c2 ?c3 ?c4 ?c5 ?_)
        | go_in)
      case c1 =>
        intro i u hj
        match i, hj with
        | 0, hj => simp at hj; subst hj; simp [Addr.add]
      case c2 => intro u hu; simp at hu; subst hu; rfl
      case c3 => unfold maxLen; omega
      case c4 => omega
      case c5 => simp; omega
      · intro v' w1 hown' hgrow _
        have HO : Hid (w1.ownsRow (w.heap.size + 1) 3 1 v' (j + 1) ((outF zs ys x (j + 1)).map (Value.int .i64))) := Lib.hid (by rw [HM.out, HP1.out]; unfold pick; simpa using hown')
        have HB : Hid (RowKit.Below (w.heap.size + 1) (w.alloc (.cells #[.int .u32 a, .int .u32 b, .int .u32 c, .int .u32 d, .int .u32 e] 42)) w1) := Lib.hid ((hnx.alloc (by omega) _).grown hgrow (by simp; omega) (fun i hi => by have := (hown.lt i hi).1; omega))
        clear hown' hgrow hown hnx p1 p2
        go_wp2
        go_roundw
        case rel => exact ⟨j + 1, by omega, by go_num, by rw [HL1.out, HP1.out]; rfl, by rw [HRR.out], HO.out, HB.out⟩
        case measure => simp [intOf]; omega
    · obtain rfl : j = zs.length := by omega
      have hO : Owns wr (w.heap.size + 1) u9 (outF zs ys x zs.length) := by
        unfold Owns; rw [outF_len]; exact hown
      have hB : RowKit.Below w.heap.size w wr := ((RowKit.Below.refl _ _).alloc (Nat.le_refl _) _).trans (hnx.mono (by omega))
      clear hown hnx HC HB HP HR HN HY HRb HS
      go_wp2
      go_ret
      exact ⟨_, rfl, hO.base (by omega), hB⟩
end Go.Proofs.Ytdnbdaegahcoeaa
