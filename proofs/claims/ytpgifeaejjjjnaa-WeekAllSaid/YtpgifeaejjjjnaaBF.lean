/- Layer 3: Round. -/
import Derived.Test.YtpgifeaejjjjnaaBE
namespace Go.Proofs.Ytpgifeaejjjjnaa
open Go.RowKit Go.Sort
/-- a grid, whole: lists of one's own. -/
def OwnG (w : World) (B : Nat) (v : Value) (m n : Nat) (f : Nat → Nat → Int) : Prop := ∃ g bl, v = .slice (some ⟨g, 0, none⟩) m m ∧ Grid w B g m n bl m f
def rndF (n : Nat) (i j : Nat) : Int := (((i + j) % n : Nat) : Int)
theorem round_no (c : Int) (h : sizeE c 0 ≠ 0) (w : World) : Calls Try.prog 32 #[.int .i64 c] w fun e w' => e = .returned (.tuple #[.slice none 0 0, .int .i64 (sizeE c 0)]) ∧ w = w' := by
  have HS := Lib.hid (size_any c none 0 0 w)
  generalize sizeE c 0 = E at *
  go_enter Try.func32, Try.ntmps32
  go_wp2_with fail
  refine HS.out.mono ?_
  rintro _ _ ⟨rfl, rfl⟩
  go_wp2
  go_ret2
  exact ⟨rfl, rfl⟩
set_option maxRecDepth 100000 in
set_option maxHeartbeats 4000000 in
theorem round_any (n : Nat) (h1 : 1 ≤ n) (h5 : n ≤ 5) (w : World) : Calls Try.prog 32 #[.int .i64 n] w fun e w' => ∃ v, e = .returned (.tuple #[v, .int .i64 0]) ∧ OwnG w' w.heap.size v n n (rndF n) ∧ Fut w w' := by
  have hs : sizeE (n : Int) 0 = 0 := by unfold sizeE; rw [if_neg (by omega), if_neg (by omega)]
  have HS := Lib.hid (size_any n none 0 0 w)
  rw [hs] at HS
  have hmk1 := fun W => mk_row n (by omega) W
  have hmk2 := fun W => mk_rows n (by omega) W
  clear hs
  go_enter Try.func32, Try.ntmps32
  go_wp2_with fail
  refine HS.out.mono ?_
  rintro _ w1 ⟨rfl, rfl⟩
  go_wp2_with fail
  have hG0 := Grid.made w n n
  have F1 : RowKit.Below w.heap.size w (w.alloc (.cells (madeCells #[Value.slice none 0 0] n) 28)) := Fut.alloc _ _
  generalize w.alloc (.cells (madeCells #[Value.slice none 0 0] n) 28) = W1 at *
  generalize hB : w.heap.size = g at *
  have HF0 := Lib.hid F1
  have HG0 := Lib.hid hG0
  have HBB := Lib.hid hB
  clear hG0 F1 hmk2 hB
  go_loopw [17] (fun iv wr => ∃ (k : Nat) (bl : Nat → Nat), k ≤ n ∧ iv = .int .i64 k ∧ Hid (Grid wr g g n n bl k (rndF n)) ∧ Hid (RowKit.Below g w wr)) (fun iv _ => n - (intOf iv).toNat)
  case atStart => exact ⟨0, fun _ => 0, Nat.zero_le _, rfl, Lib.hid (HG0.out.congr fun i j hi => absurd hi (Nat.not_lt_zero i)), HF0⟩
  case round =>
    obtain ⟨k, bl, hk, rfl, HG, HF⟩ := hrel
    by_cases hlt : k < n
    · have hkx : (k : Int) < n := by omega
      have hGo := HG.out.outer
      have o1 : wr.cell? ⟨g, k, none⟩ = some (.slice none 0 0) := by rw [hGo.cell hlt, if_neg (Nat.lt_irrefl _)]
      have o2 : wr.frozen? ⟨g, k, none⟩ = false := hGo.frozen k
      have o3 : g < wr.heap.size := hGo.lt
      have hGR := HG.out.row.congr (f' := fun i j => if i = k then 0 else rndF n i j) (fun i j _ _ => rfl)
      have hBR : RowKit.Below g w ((wr.alloc (.cells (madeCells #[Value.int .i64 0] n) 3)).setCell ⟨g, k, none⟩ (.slice (some ⟨wr.heap.size, 0, none⟩) n n)) := (HF.out.alloc (Nat.le_of_lt o3) _).setCell (Nat.le_refl _) _
      clear hGo HG HF
      rw [World.setCell_alloc_past _ _ _ _ o3] at hGR hBR
      go_upto_region 9 with fail
      generalize (wr.setCell ⟨g, k, none⟩ (.slice (some ⟨wr.heap.size, 0, none⟩) n n)).alloc (.cells (madeCells #[Value.int .i64 0] n) 3) = W2 at *
      have hb2 : (fun i => if i = k then wr.heap.size else bl i) k = wr.heap.size := by simp
      generalize (fun i => if i = k then wr.heap.size else bl i) = bl2 at *
      generalize wr.heap.size = b at *
      have HG2 := Lib.hid hGR
      have HB2 := Lib.hid hBR
      have HBL := Lib.hid hb2
      have g0 := hGR.cell (Nat.lt_succ_self k) hlt
      rw [hb2] at g0
      clear hGR hBR o1 o2 o3 bl hb2
      go_wp2_with fail
      clear g0
      go_loopw [30] (fun iv wr => ∃ d : Nat, d ≤ n ∧ iv = .int .i64 d ∧ Hid (Grid wr g g n n bl2 (k + 1) (fun i j => if i = k then (if j < d then rndF n i j else 0) else rndF n i j)) ∧ Hid (RowKit.Below g w wr)) (fun iv _ => n - (intOf iv).toNat)
      case atStart => exact ⟨0, Nat.zero_le _, rfl, Lib.hid (HG2.out.congr fun i j _ _ => by
        by_cases e : i = k
        · rw [if_pos e, if_pos e, if_neg (Nat.not_lt_zero j)]
        · rw [if_neg e, if_neg e]), HB2⟩
      case round =>
        obtain ⟨d, hdn, rfl, HG3, HB3⟩ := hrel
        by_cases hdl : d < n
        · have hdx : (d : Int) < n := by omega
          have hn0 : ((n : Int) == 0) = false := by rw [beq_eq_false_iff_ne]; omega
          have hrem : ((k : Int) + (d : Int)).tmod (n : Int) = rndF n k d := by
            unfold rndF
            rw [Int.tmod_eq_emod_of_nonneg (by omega), Int.natCast_emod, Int.natCast_add]
          have hn1 : ¬ n = 0 := by omega
          have hn2 : ¬ (n : Int) = 0 := by omega
          have hwr1 : IntKind.i64.wrap ((k : Int) + (d : Int)) = (k : Int) + (d : Int) := IntWalk.i64_in _ ⟨by omega, by omega⟩
          have hr0 : 0 ≤ rndF n k d ∧ rndF n k d < n := by
            unfold rndF
            have := Nat.mod_lt (k + d) (show 0 < n by omega)
            omega
          obtain ⟨hr1, hr2⟩ := hr0
          have hwr2 : IntKind.i64.wrap (rndF n k d) = rndF n k d := IntWalk.i64_in _ ⟨by omega, by omega⟩
          generalize hRD : rndF n k d = rd at *
          have HRD := Lib.hid hRD
          clear hRD
          have g1 := HG3.out.cell (Nat.lt_succ_self k) hlt
          have g2 := HG3.out.at (Nat.lt_succ_self k) hdl
          have g3 : wr.frozen? ⟨bl2 k, d, none⟩ = false := (HG3.out.inner k (Nat.lt_succ_self k)).frozen d
          rw [HBL.out] at g1 g2 g3
          go_upto_region 12 with fail
          go_still_tail 11, (by kernel_rfl)
          have HGd := Lib.hid (HG3.out.fut (Fut.drewN wr 1))
          have HBd := Lib.hid (RowKit.Below.drew HB3.out)
          change wpList _ _ _ _ _ wr.drew
          change Hid (Grid wr.drew _ _ _ _ _ _ _) at HGd
          generalize wr.drew = w2 at *
          clear g1 g2 g3 HG3 HB3
          have g2 := HGd.out.at (Nat.lt_succ_self k) hdl
          have g3 : w2.frozen? ⟨bl2 k, d, none⟩ = false := (HGd.out.inner k (Nat.lt_succ_self k)).frozen d
          have HP := Lib.hid (HGd.out.put (Nat.lt_succ_self k) d rd)
          have hgb : g ≤ bl2 k := by have := HGd.out.above k (Nat.lt_succ_self k); omega
          have HB4 : Hid (RowKit.Below g w (w2.setCell ⟨bl2 k, d, none⟩ (.int .i64 rd))) := Lib.hid (HBd.out.setCell hgb _)
          have HP2 : Hid (Grid (w2.setCell ⟨bl2 k, d, none⟩ (.int .i64 rd)) g g n n bl2 (k + 1) (fun i j => if i = k then (if j < d + 1 then rndF n i j else 0) else rndF n i j)) := Lib.hid (HP.out.congr fun i j _ _ => by
            by_cases ei : i = k
            · rw [if_pos ei, if_pos ei]
              by_cases ej : j = d
              · rw [if_pos ⟨ei, ej⟩, if_pos (by omega), ei, ej]; exact HRD.out.symm
              · rw [if_neg (fun q => ej q.2)]
                by_cases e3 : j < d
                · rw [if_pos e3, if_pos (by omega)]
                · rw [if_neg e3, if_neg (by omega)]
            · rw [if_neg (fun q => ei q.1), if_neg ei, if_neg ei])
          rw [HBL.out] at g2 g3 HB4 HP2
          clear HP HGd HBd hwr1 hwr2 hrem
          go_wp2
          go_round
          case rel => exact ⟨d + 1, by omega, by go_num, HP2, HB4⟩
          case measure => simp [intOf]; omega
        · obtain rfl : d = n := by omega
          have HG4 := Lib.hid (HG3.out.congr (f' := rndF d) (fun i j _ hj => by
            by_cases ei : i = k
            · rw [if_pos ei, if_pos hj]
            · rw [if_neg ei]))
          clear HG3
          go_wp2
          go_round
          case rel => exact ⟨k + 1, bl2, by omega, by go_num, HG4, HB3⟩
          case measure => simp [intOf]; omega
    · obtain rfl : k = n := by omega
      go_wp2
      go_ret2
      exact ⟨_, rfl, ⟨g, bl, rfl, by rw [HBB.out]; exact HG.out⟩, by unfold Fut; rw [HBB.out]; exact HF.out⟩
end Go.Proofs.Ytpgifeaejjjjnaa
