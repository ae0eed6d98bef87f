/- Layer 3: laid, the board a search begins with. -/
import Derived.Test.YtpgifeaejjjjnaaBJ
namespace Go.Proofs.Ytpgifeaejjjjnaa
open Go.RowKit Go.Sort
theorem mk_board (n : Nat) (h : n ≤ 1000) (W : World) : (Instr.makeSlice 116 (.int .i64 n) (.int .i64 n)).run Try.prog W = .ok (.slice (some ⟨W.heap.size, 0, none⟩) n n) (W.alloc (.cells (madeCells #[.slice none 0 0] n) 28)) :=
  run_make_row' 116 28 (.slice none 0 0) 24 Try.underlying116 info28 rfl .i64 .i64 n (by omega) (by omega) W
theorem same_fut {f : FuncId} {args : Array Value} {w : World} {P : Ending → Prop} (h : Calls Try.prog f args w fun e w' => P e ∧ w = w') : Calls Try.prog f args w fun e w' => P e ∧ Fut w w' :=
  h.mono fun _ _ ⟨he, hw⟩ => ⟨he, hw ▸ Fut.rfl⟩
set_option maxRecDepth 100000 in
set_option maxHeartbeats 4000000 in
theorem laid_beg (n : Nat) (h1 : 1 ≤ n) (h5 : n ≤ 5) (a : Option Addr) (cap : Nat) (zss : List (List Int)) (w : World) (hL : LstAt w a zss) (hl : zss.length ≤ 5) (hz : ∀ k, k < zss.length → (lth zss k).length ≤ 1000) :
    Calls Try.prog 119 #[.int .i64 n, .iface 83 (begV n a zss.length cap)] w fun e w' => ∃ v, e = .returned v ∧ OwnG w' w.heap.size v n n (knF zss) ∧ Fut w w' := by
  have HST := Lib.hid (fun (k d : Nat) (W : World) (F : Fut w W) (h1 : k < n) (h2 : d < n) => beg_street (n : Int) a cap zss k d W (hL.fut F) (by omega) (hz k))
  have hms : ∀ W, (method 284 83 (begV n a zss.length cap) "breeze/week.street").run Try.prog W = .ok (197, (begV n a zss.length cap)) W := fun _ => by kernel_rfl
  have hmk1 := fun W => mk_row n (by omega) W
  have hmk2 := fun W => mk_board n (by omega) W
  have hnx : (n : Int) ≤ 5 := by omega
  clear hL hz
  generalize knF zss = kn at *
  go_enter Try.func119, Try.ntmps119
  go_wp2_with fail
  have hG0 := Grid.made w n n
  have F1 : RowKit.Below w.heap.size w (w.alloc (.cells (madeCells #[Value.slice none 0 0] n) 28)) := Fut.alloc _ _
  generalize w.alloc (.cells (madeCells #[Value.slice none 0 0] n) 28) = W1 at *
  generalize hB : w.heap.size = g at *
  have HF0 := Lib.hid F1
  have HG0 := Lib.hid hG0
  have HBB := Lib.hid hB
  clear hG0 F1 hmk2 hB
  go_loopw [12] (fun iv wr => ∃ (k : Nat) (bl : Nat → Nat), k ≤ n ∧ iv = .int .i64 k ∧ Hid (Grid wr g g n n bl k kn) ∧ Hid (RowKit.Below g w wr)) (fun iv _ => n - (intOf iv).toNat)
  case atStart => exact ⟨0, fun _ => 0, Nat.zero_le _, rfl, Lib.hid (HG0.out.congr fun i j hi => absurd hi (Nat.not_lt_zero i)), HF0⟩
  case round =>
    obtain ⟨k, bl, hk, rfl, HG, HF⟩ := hrel
    by_cases hlt : k < n
    · have hkx : (k : Int) < n := by omega
      have hGo := HG.out.outer
      have o1 : wr.cell? ⟨g, k, none⟩ = some (.slice none 0 0) := by rw [hGo.cell hlt, if_neg (Nat.lt_irrefl _)]
      have o2 : wr.frozen? ⟨g, k, none⟩ = false := hGo.frozen k
      have o3 : g < wr.heap.size := hGo.lt
      have hGR := HG.out.row.congr (f' := fun i j => if i = k then 0 else kn i j) (fun i j _ _ => rfl)
      have hBR : RowKit.Below g w ((wr.alloc (.cells (madeCells #[Value.int .i64 0] n) 3)).setCell ⟨g, k, none⟩ (.slice (some ⟨wr.heap.size, 0, none⟩) n n)) := (HF.out.alloc (Nat.le_of_lt o3) _).setCell (Nat.le_refl _) _
      clear hGo HG HF
      rw [World.setCell_alloc_past _ _ _ _ o3] at hGR hBR
      go_upto_region 6 with fail
      generalize (wr.setCell ⟨g, k, none⟩ (.slice (some ⟨wr.heap.size, 0, none⟩) n n)).alloc (.cells (madeCells #[Value.int .i64 0] n) 3) = W2 at *
      have hb2 : (fun i => if i = k then wr.heap.size else bl i) k = wr.heap.size := by simp
      generalize (fun i => if i = k then wr.heap.size else bl i) = bl2 at *
      generalize wr.heap.size = b at *
      have HG2 := Lib.hid hGR
      have HB2 := Lib.hid hBR
      have HBL := Lib.hid hb2
      have g0 := hGR.cell (Nat.lt_succ_self k) hlt
      rw [hb2] at g0
      clear hGR hBR o1 o2 o3 bl hb2
      go_wp2_with fail
      clear g0
      go_loopw [25] (fun iv wr => ∃ d : Nat, d ≤ n ∧ iv = .int .i64 d ∧ Hid (Grid wr g g n n bl2 (k + 1) (fun i j => if i = k then (if j < d then kn i j else 0) else kn i j)) ∧ Hid (RowKit.Below g w wr)) (fun iv _ => n - (intOf iv).toNat)
      case atStart => exact ⟨0, Nat.zero_le _, rfl, Lib.hid (HG2.out.congr fun i j _ _ => by
        by_cases e : i = k
        · rw [if_pos e, if_pos e, if_neg (Nat.not_lt_zero j)]
        · rw [if_neg e, if_neg e]), HB2⟩
      case round =>
        obtain ⟨d, hdn, rfl, HG3, HB3⟩ := hrel
        by_cases hdl : d < n
        · have hdx : (d : Int) < n := by omega
          have HFw : Hid (Fut w wr) := Lib.hid (by unfold Fut; rw [HBB.out]; exact HB3.out)
          have HSS := Lib.hid (fun W F => HST.out k d W F hlt hdl)
          have g1 := HG3.out.cell (Nat.lt_succ_self k) hlt
          have g2 := HG3.out.at (Nat.lt_succ_self k) hdl
          have g3 : wr.frozen? ⟨bl2 k, d, none⟩ = false := (HG3.out.inner k (Nat.lt_succ_self k)).frozen d
          have hgb : g ≤ bl2 k := by have := HG3.out.above k (Nat.lt_succ_self k); omega
          have hgz := HG3.out.outer.lt
          have hbz := (HG3.out.inner k (Nat.lt_succ_self k)).lt
          rw [HBL.out] at g1 g2 g3 hgb hbz
          have hgl := HG3.out.above k (Nat.lt_succ_self k)
          rw [HBL.out] at hgl
          have hn1 : ¬ g = b := by omega
          have hn2 : ¬ b = g := by omega
          go_upto_region 9 with fail
          go_region_held3 (fun w' => w'.cell? ⟨g, k, none⟩ = some (.slice (some ⟨b, 0, none⟩) n n)) (first | assumption | simp [go_sem, *]) (first | (go_at_call 197; refine (HSS.out _ (HFw.out.trans (Fut.drewN wr 1))).mono ?_; rintro _ w5 ⟨rfl, F5⟩; have q1 : w5.cell? ⟨g, k, none⟩ = some (.slice (some ⟨b, 0, none⟩) n n) := ((RowKit.Below.cell F5 (p := ⟨g, k, none⟩) hgz).trans g1); have q2 : w5.cell? ⟨b, d, none⟩ = some (.int .i64 _) := ((RowKit.Below.cell F5 (p := ⟨b, d, none⟩) hbz).trans g2); have q3 : w5.frozen? ⟨b, d, none⟩ = false := ((RowKit.Below.frozen F5 (p := ⟨b, d, none⟩) hbz).trans g3)))
          have hGw : Grid w5 g g n n bl2 (k + 1) (fun i j => if i = k then (if j < d then kn i j else 0) else kn i j) := (HG3.out.fut (Fut.drewN wr 1)).fut F5
          have hBw : RowKit.Below g w w5 := (RowKit.Below.drew HB3.out).trans (RowKit.Below.mono F5 (by show g ≤ wr.heap.size; omega))
          have HP := Lib.hid (hGw.put (Nat.lt_succ_self k) d (kn k d))
          have HB4 : Hid (RowKit.Below g w (w5.setCell ⟨bl2 k, d, none⟩ (.int .i64 (kn k d)))) := Lib.hid (hBw.setCell (by rw [HBL.out]; exact hgb) _)
          have HP2 : Hid (Grid (w5.setCell ⟨bl2 k, d, none⟩ (.int .i64 (kn k d))) g g n n bl2 (k + 1) (fun i j => if i = k then (if j < d + 1 then kn i j else 0) else kn i j)) := Lib.hid (HP.out.congr fun i j _ _ => by
            by_cases ei : i = k
            · rw [if_pos ei, if_pos ei]
              by_cases ej : j = d
              · rw [if_pos ⟨ei, ej⟩, if_pos (by omega), ei, ej]
              · rw [if_neg (fun q => ej q.2)]
                by_cases e3 : j < d
                · rw [if_pos e3, if_pos (by omega)]
                · rw [if_neg e3, if_neg (by omega)]
            · rw [if_neg (fun q => ei q.1), if_neg ei, if_neg ei])
          rw [HBL.out] at HB4 HP2
          clear HP hGw hBw HG3 HB3 q1 q2 q3 g1 g2 g3
          generalize w5.setCell ⟨b, d, none⟩ (.int .i64 (kn k d)) = w6 at *
          go_wp2
          go_round
          case rel => exact ⟨d + 1, by omega, by go_num, HP2, HB4⟩
          case measure => simp [intOf]; omega
        · obtain rfl : d = n := by omega
          have HG4 := Lib.hid (HG3.out.congr (f' := kn) (fun i j _ hj => by
            by_cases ei : i = k
            · rw [if_pos ei, if_pos hj]
            · rw [if_neg ei]))
          clear HG3
          go_wp2
          go_round
          case rel => exact ⟨k + 1, bl2, by omega, by go_num, HG4, HB3⟩
          case measure => simp [intOf]; omega
    · obtain rfl : k = n := by omega
      go_wp2
      go_ret
      exact ⟨_, rfl, ⟨g, bl, rfl, by rw [HBB.out]; exact HG.out⟩, by unfold Fut; rw [HBB.out]; exact HF.out⟩
set_option maxRecDepth 100000 in
set_option maxHeartbeats 4000000 in
theorem laid_rows (n : Nat) (h1 : 1 ≤ n) (h5 : n ≤ 5) (a : Option Addr) (cap : Nat) (zss : List (List Int)) (w : World) (hL : LstAt w a zss) (hl : zss.length ≤ 5) (hz : ∀ k, k < zss.length → (lth zss k).length ≤ 1000) (hr : ∀ k, k < zss.length → n ≤ (lth zss k).length) :
    Calls Try.prog 119 #[.int .i64 n, .iface 79 (.slice a zss.length cap)] w fun e w' => ∃ v, e = .returned v ∧ OwnG w' w.heap.size v n n (knF zss) ∧ Fut w w' := by
  have HST := Lib.hid (fun (k d : Nat) (W : World) (F : Fut w W) (h1 : k < n) (h2 : d < n) => same_fut (rows_street a cap zss k d W (hL.fut F) (by omega) (fun h => Nat.lt_of_lt_of_le h2 (hr k h)) (hz k)))
  have hms : ∀ W, (method 284 79 (.slice a zss.length cap) "breeze/week.street").run Try.prog W = .ok (196, (.slice a zss.length cap)) W := fun _ => by kernel_rfl
  have hmk1 := fun W => mk_row n (by omega) W
  have hmk2 := fun W => mk_board n (by omega) W
  have hnx : (n : Int) ≤ 5 := by omega
  clear hL hz hr
  generalize knF zss = kn at *
  go_enter Try.func119, Try.ntmps119
  go_wp2_with fail
  have hG0 := Grid.made w n n
  have F1 : RowKit.Below w.heap.size w (w.alloc (.cells (madeCells #[Value.slice none 0 0] n) 28)) := Fut.alloc _ _
  generalize w.alloc (.cells (madeCells #[Value.slice none 0 0] n) 28) = W1 at *
  generalize hB : w.heap.size = g at *
  have HF0 := Lib.hid F1
  have HG0 := Lib.hid hG0
  have HBB := Lib.hid hB
  clear hG0 F1 hmk2 hB
  go_loopw [12] (fun iv wr => ∃ (k : Nat) (bl : Nat → Nat), k ≤ n ∧ iv = .int .i64 k ∧ Hid (Grid wr g g n n bl k kn) ∧ Hid (RowKit.Below g w wr)) (fun iv _ => n - (intOf iv).toNat)
  case atStart => exact ⟨0, fun _ => 0, Nat.zero_le _, rfl, Lib.hid (HG0.out.congr fun i j hi => absurd hi (Nat.not_lt_zero i)), HF0⟩
  case round =>
    obtain ⟨k, bl, hk, rfl, HG, HF⟩ := hrel
    by_cases hlt : k < n
    · have hkx : (k : Int) < n := by omega
      have hGo := HG.out.outer
      have o1 : wr.cell? ⟨g, k, none⟩ = some (.slice none 0 0) := by rw [hGo.cell hlt, if_neg (Nat.lt_irrefl _)]
      have o2 : wr.frozen? ⟨g, k, none⟩ = false := hGo.frozen k
      have o3 : g < wr.heap.size := hGo.lt
      have hGR := HG.out.row.congr (f' := fun i j => if i = k then 0 else kn i j) (fun i j _ _ => rfl)
      have hBR : RowKit.Below g w ((wr.alloc (.cells (madeCells #[Value.int .i64 0] n) 3)).setCell ⟨g, k, none⟩ (.slice (some ⟨wr.heap.size, 0, none⟩) n n)) := (HF.out.alloc (Nat.le_of_lt o3) _).setCell (Nat.le_refl _) _
      clear hGo HG HF
      rw [World.setCell_alloc_past _ _ _ _ o3] at hGR hBR
      go_upto_region 6 with fail
      generalize (wr.setCell ⟨g, k, none⟩ (.slice (some ⟨wr.heap.size, 0, none⟩) n n)).alloc (.cells (madeCells #[Value.int .i64 0] n) 3) = W2 at *
      have hb2 : (fun i => if i = k then wr.heap.size else bl i) k = wr.heap.size := by simp
      generalize (fun i => if i = k then wr.heap.size else bl i) = bl2 at *
      generalize wr.heap.size = b at *
      have HG2 := Lib.hid hGR
      have HB2 := Lib.hid hBR
      have HBL := Lib.hid hb2
      have g0 := hGR.cell (Nat.lt_succ_self k) hlt
      rw [hb2] at g0
      clear hGR hBR o1 o2 o3 bl hb2
      go_wp2_with fail
      clear g0
      go_loopw [25] (fun iv wr => ∃ d : Nat, d ≤ n ∧ iv = .int .i64 d ∧ Hid (Grid wr g g n n bl2 (k + 1) (fun i j => if i = k then (if j < d then kn i j else 0) else kn i j)) ∧ Hid (RowKit.Below g w wr)) (fun iv _ => n - (intOf iv).toNat)
      case atStart => exact ⟨0, Nat.zero_le _, rfl, Lib.hid (HG2.out.congr fun i j _ _ => by
        by_cases e : i = k
        · rw [if_pos e, if_pos e, if_neg (Nat.not_lt_zero j)]
        · rw [if_neg e, if_neg e]), HB2⟩
      case round =>
        obtain ⟨d, hdn, rfl, HG3, HB3⟩ := hrel
        by_cases hdl : d < n
        · have hdx : (d : Int) < n := by omega
          have HFw : Hid (Fut w wr) := Lib.hid (by unfold Fut; rw [HBB.out]; exact HB3.out)
          have HSS := Lib.hid (fun W F => HST.out k d W F hlt hdl)
          have g1 := HG3.out.cell (Nat.lt_succ_self k) hlt
          have g2 := HG3.out.at (Nat.lt_succ_self k) hdl
          have g3 : wr.frozen? ⟨bl2 k, d, none⟩ = false := (HG3.out.inner k (Nat.lt_succ_self k)).frozen d
          have hgb : g ≤ bl2 k := by have := HG3.out.above k (Nat.lt_succ_self k); omega
          have hgz := HG3.out.outer.lt
          have hbz := (HG3.out.inner k (Nat.lt_succ_self k)).lt
          rw [HBL.out] at g1 g2 g3 hgb hbz
          have hgl := HG3.out.above k (Nat.lt_succ_self k)
          rw [HBL.out] at hgl
          have hn1 : ¬ g = b := by omega
          have hn2 : ¬ b = g := by omega
          go_upto_region 9 with fail
          go_region_held3 (fun w' => w'.cell? ⟨g, k, none⟩ = some (.slice (some ⟨b, 0, none⟩) n n)) (first | assumption | simp [go_sem, *]) (first | (go_at_call 196; refine (HSS.out _ (HFw.out.trans (Fut.drewN wr 1))).mono ?_; rintro _ w5 ⟨rfl, F5⟩; have q1 : w5.cell? ⟨g, k, none⟩ = some (.slice (some ⟨b, 0, none⟩) n n) := ((RowKit.Below.cell F5 (p := ⟨g, k, none⟩) hgz).trans g1); have q2 : w5.cell? ⟨b, d, none⟩ = some (.int .i64 _) := ((RowKit.Below.cell F5 (p := ⟨b, d, none⟩) hbz).trans g2); have q3 : w5.frozen? ⟨b, d, none⟩ = false := ((RowKit.Below.frozen F5 (p := ⟨b, d, none⟩) hbz).trans g3)))
          have hGw : Grid w5 g g n n bl2 (k + 1) (fun i j => if i = k then (if j < d then kn i j else 0) else kn i j) := (HG3.out.fut (Fut.drewN wr 1)).fut F5
          have hBw : RowKit.Below g w w5 := (RowKit.Below.drew HB3.out).trans (RowKit.Below.mono F5 (by show g ≤ wr.heap.size; omega))
          have HP := Lib.hid (hGw.put (Nat.lt_succ_self k) d (kn k d))
          have HB4 : Hid (RowKit.Below g w (w5.setCell ⟨bl2 k, d, none⟩ (.int .i64 (kn k d)))) := Lib.hid (hBw.setCell (by rw [HBL.out]; exact hgb) _)
          have HP2 : Hid (Grid (w5.setCell ⟨bl2 k, d, none⟩ (.int .i64 (kn k d))) g g n n bl2 (k + 1) (fun i j => if i = k then (if j < d + 1 then kn i j else 0) else kn i j)) := Lib.hid (HP.out.congr fun i j _ _ => by
            by_cases ei : i = k
            · rw [if_pos ei, if_pos ei]
              by_cases ej : j = d
              · rw [if_pos ⟨ei, ej⟩, if_pos (by omega), ei, ej]
              · rw [if_neg (fun q => ej q.2)]
                by_cases e3 : j < d
                · rw [if_pos e3, if_pos (by omega)]
                · rw [if_neg e3, if_neg (by omega)]
            · rw [if_neg (fun q => ei q.1), if_neg ei, if_neg ei])
          rw [HBL.out] at HB4 HP2
          clear HP hGw hBw HG3 HB3 q1 q2 q3 g1 g2 g3
          generalize w5.setCell ⟨b, d, none⟩ (.int .i64 (kn k d)) = w6 at *
          go_wp2
          go_round
          case rel => exact ⟨d + 1, by omega, by go_num, HP2, HB4⟩
          case measure => simp [intOf]; omega
        · obtain rfl : d = n := by omega
          have HG4 := Lib.hid (HG3.out.congr (f' := kn) (fun i j _ hj => by
            by_cases ei : i = k
            · rw [if_pos ei, if_pos hj]
            · rw [if_neg ei]))
          clear HG3
          go_wp2
          go_round
          case rel => exact ⟨k + 1, bl2, by omega, by go_num, HG4, HB3⟩
          case measure => simp [intOf]; omega
    · obtain rfl : k = n := by omega
      go_wp2
      go_ret
      exact ⟨_, rfl, ⟨g, bl, rfl, by rw [HBB.out]; exact HG.out⟩, by unfold Fut; rw [HBB.out]; exact HF.out⟩
end Go.Proofs.Ytpgifeaejjjjnaa
