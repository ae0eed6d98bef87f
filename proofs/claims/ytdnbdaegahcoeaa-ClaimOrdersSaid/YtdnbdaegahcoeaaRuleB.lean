/- Layer 1: the reference's levels, multiples and differences. -/
import Derived.Test.YtdnbdaegahcoeaaRefB
import Derived.Test.YtdnbdaegahcoeaaBestA
import Derived.Deep.AppendLies
import Derived.OwnWalk
import Derived.StillTactics
namespace Go.Proofs.Ytdnbdaegahcoeaa
open Go.RowKit Go.Sort
/-- the sum at a level, of the first k bounds. -/
theorem min_take (L : Int) (bs : List Int) (k : Nat) (hk : k < bs.length) : ((bs.map (min L ·)).take (k + 1)).sum = ((bs.map (min L ·)).take k).sum + min L (nth bs k) := by
  rw [take_succ' _ k (by simpa using hk), sum_snoc, nth_eq, nth_eq, List.getElem?_map, List.getElem?_eq_getElem hk]; rfl
theorem min_nth (L : Int) (bs : List Int) (k : Nat) (hk : k < bs.length) : nth (bs.map (min L ·)) k = min L (nth bs k) := by
  rw [nth_eq, nth_eq, List.getElem?_map, List.getElem?_eq_getElem hk]; rfl
set_option maxRecDepth 100000 in
theorem reach_any (L : Int) (a : Option Addr) (cap : Nat) (bs : List Int) (w : World) (hL : 0 ≤ L ∧ L ≤ 1000001) (hl : bs.length ≤ 5) (hb : ∀ k, k < bs.length → 0 ≤ nth bs k ∧ nth bs k ≤ 1000000) (hA : IntsAt w a bs) :
    Calls Try.prog 84 #[.int .i64 L, .slice a bs.length cap] w fun e w' => e = .returned (.int .i64 (bs.map (min L ·)).sum) ∧ w = w' := by
  have HT := Lib.hid (take_sumB 1000000 (by decide) (bs.map (min L ·)) (fun k hk => by
    rw [List.length_map] at hk
    rw [min_nth L bs k hk]
    have := hb k hk; omega))
  have HM := Lib.hid (min_take L bs)
  have hlen : (bs.map (min L ·)).length = bs.length := by simp
  have HLEN := Lib.hid hlen
  have HB := Lib.hid hb
  clear hlen hb
  generalize hms : bs.map (min L ·) = ms at *
  clear hms
  go_enter Try.func84, Try.ntmps84
  go_wp2
  go_loop [5, 6] (fun s i => ∃ k : Nat, k ≤ bs.length ∧ i = .int .i64 k ∧ s = .int .i64 (ms.take k).sum) (fun _ i => bs.length - (intOf i).toNat)
  case atStart => exact ⟨0, Nat.zero_le _, rfl, rfl⟩
  case round =>
    obtain ⟨k, hk, rfl, rfl⟩ := hrel
    have hs := HT.out k (by rw [HLEN.out]; exact hk)
    by_cases hlt : k < bs.length
    · obtain ⟨b, off, rfl, hbl, hcell⟩ := hA k hlt
      have H2 := Lib.hid (HM.out k hlt)
      have hbk := HB.out k hlt
      have hkx : (k : Int) < bs.length := by omega
      clear hA
      generalize nth bs k = y at *
      go_wp2
      go_round
      case rel => exact ⟨k + 1, by omega, by go_num, by rw [H2.out]⟩
      case measure => simp [intOf]; omega
    · obtain rfl : k = bs.length := by omega
      have e : ms.take bs.length = ms := by rw [← HLEN.out, List.take_length]
      rw [e] at hs ⊢
      clear hA e
      go_wp2
      go_ret
      exact ⟨rfl, rfl⟩
/-- a level that gives out as much is as good. -/
theorem min_same (bs : List Int) (L M : Int) (h : L ≤ M) (hs : (bs.map (min M ·)).sum ≤ (bs.map (min L ·)).sum) : bs.map (min L ·) = bs.map (min M ·) := by
  induction bs with
  | nil => rfl
  | cons b bs ih =>
    have hm : ∀ l : List Int, (l.map (min L ·)).sum ≤ (l.map (min M ·)).sum := by
      intro l
      induction l with
      | nil => simp
      | cons c l ih => simp only [List.map_cons, List.sum_cons]; omega
    have h1 := hm bs
    simp only [List.map_cons, List.sum_cons] at hs ⊢
    have e := ih (by omega)
    rw [e]
    congr 1
    omega
set_option maxRecDepth 100000 in
set_option maxHeartbeats 1000000 in
theorem capped_any (T M : Int) (a : Option Addr) (cap : Nat) (bs : List Int) (w : World) (hM : 0 ≤ M ∧ M ≤ 1000000) (hT : T = (bs.map (min M ·)).sum) (hl : bs.length ≤ 5) (h0 : 0 < bs.length) (hb : ∀ k, k < bs.length → 0 ≤ nth bs k ∧ nth bs k ≤ 1000000) (hA : IntsAt w a bs) :
    Calls Try.prog 63 #[.int .i64 T, .slice a bs.length cap] w fun e w' => ∃ v, e = .returned v ∧ Owns w' w.heap.size v (bs.map (min M ·)) ∧ RowKit.Below w.heap.size w w' := by
  obtain ⟨i0, hi, hz0, hz1, hz2⟩ := info_parts info3
  obtain ⟨bl, off, rfl, hbl, hcell⟩ := hA.addr h0
  have HC := Lib.hid hcell
  have HB := Lib.hid hb
  have HR := Lib.hid (fun (L : Int) (hL : 0 ≤ L ∧ L ≤ 1000001) => reach_any L (some ⟨bl, off, none⟩) cap bs w hL hl hb hA)
  have HS := Lib.hid (fun (L : Int) (h : L ≤ M) (hs : (bs.map (min M ·)).sum ≤ (bs.map (min L ·)).sum) => min_same bs L M h hs)
  have HT := Lib.hid hT
  have hl' : (bs.length : Int) ≤ 5 := by omega
  clear hcell hb hA hT
  go_enter Try.func63, Try.ntmps63
  go_wp2_with fail
  go_loop [5] (fun lv => ∃ L : Int, 0 ≤ L ∧ L ≤ M ∧ lv = .int .i64 L) (fun lv => (M + 1 - intOf lv).toNat)
  case atStart => exact ⟨0, by omega, hM.1, rfl⟩
  case round =>
    obtain ⟨L, hL0, hLM, rfl⟩ := hrel
    have HRL := Lib.hid (HR.out L ⟨hL0, by omega⟩)
    by_cases hlt : (bs.map (min L ·)).sum < T
    · have hne : L < M := by
        rcases Int.lt_or_le L M with h | h
        · exact h
        · have e : L = M := by omega
          rw [e, ← HT.out] at hlt
          omega
      generalize (bs.map (min L ·)).sum = S at *
      go_wp2_with fail
      refine HRL.out.mono ?_
      rintro _ _ ⟨rfl, rfl⟩
      go_wp2
      go_round
      case rel => exact ⟨L + 1, by omega, by omega, rfl⟩
      case measure => simp [intOf]; omega
    · have HE := Lib.hid (HS.out L hLM (by rw [← HT.out]; omega))
      have HMN := Lib.hid (min_nth L bs)
      have HTK : Hid (∀ j, j < bs.length → ((bs.map (min L ·)).take (j + 1)).map (Value.int .i64) = ((bs.map (min L ·)).take j).map (Value.int .i64) ++ [.int .i64 (min L (nth bs j))]) := Lib.hid fun j hj => by
        rw [take_succ' _ j (by simpa using hj), min_nth L bs j hj, List.map_append]; rfl
      generalize hS : (bs.map (min L ·)).sum = S at *
      clear hS
      have hlen : (bs.map (min L ·)).length = bs.length := by simp
      have HLEN := Lib.hid hlen
      clear hlen
      generalize bs.map (min L ·) = ms at *
      go_wp2_with fail
      refine HRL.out.mono ?_
      rintro _ _ ⟨rfl, rfl⟩
      go_wp2_with fail
      go_loopw [6, 7] (fun v iv wr => ∃ j : Nat, j ≤ bs.length ∧ iv = .int .i64 j ∧ wr.ownsRow w.heap.size 3 1 v j ((ms.take j).map (Value.int .i64)) ∧ Fut w wr) (fun _ iv _ => bs.length - (intOf iv).toNat)
      case atStart => exact ⟨0, Nat.zero_le _, rfl, World.ownsRow_nil _ _ _ _, Fut.rfl⟩
      case round =>
        obtain ⟨j, hj, rfl, hown, hnx⟩ := hrel
        by_cases hjt : j < bs.length
        · have hcx : wr.cell? ⟨bl, off + j, none⟩ = some (.int .i64 (nth bs j)) := (RowKit.Below.cell hnx (p := ⟨bl, off + j, none⟩) hbl).trans (HC.out j hjt)
          have hbj := HB.out j hjt
          have HD := Lib.hid (HTK.out j hjt)
          have hsz := RowKit.Below.size hnx
          have hjx : (j : Int) < bs.length := by omega
          generalize nth bs j = y at *
          have HX := Lib.hid hnx
          clear hnx
          go_wp2_with (first
            | (at_builtin; refine wpList_append_own _ rfl _ _ 22 rfl w.heap.size 3 i0 (.int .i64 0) 1 8 Try.underlying22 hi hz0 hz1 hz2 rfl (by decide) _ _ _ rfl (hown.alloc _) ⟨wr.heap.size, 0, none⟩ 1 1 [.int .i64 (min L y)] rfl rfl ?c1 ?c2 ?c3 ?c4 ?c5 ?_)
            | go_in)
          case c1 =>
            intro i u hj
            match i, hj with
            | 0, hj => simp at hj; subst hj; simp [Addr.add]
          case c2 => intro u hu; simp at hu; subst hu; rfl
          case c3 => unfold maxLen; omega
          case c4 => omega
          case c5 => simp; omega
          · intro v' w1 hown' hgrow _
            have HO : Hid (w1.ownsRow w.heap.size 3 1 v' (j + 1) ((ms.take (j + 1)).map (Value.int .i64))) := Lib.hid (by rw [HD.out]; simpa using hown')
            have HBX : Hid (Fut w w1) := Lib.hid ((RowKit.Below.alloc HX.out (by omega) _).grown hgrow (by simp; omega) (fun i hi => by have := (hown.lt i hi).1; omega))
            clear hown' hgrow hown hcx HD
            go_wp2
            go_roundw
            case rel => exact ⟨j + 1, by omega, by go_num, HO.out, HBX.out⟩
            case measure => simp [intOf]; omega
        · obtain rfl : j = bs.length := by omega
          have hO : Owns wr w.heap.size u6 ms := by
            rw [← HLEN.out, List.take_length] at hown
            exact hown
          rw [HE.out] at hO
          have hB : RowKit.Below w.heap.size w wr := hnx
          clear hown hnx HC HB HR HS
          go_wp2
          go_ret
          exact ⟨_, rfl, hO, hB⟩
theorem map_snoc (f : Int → Int) (bs : List Int) (j : Nat) (hj : j < bs.length) : ((bs.map f).take (j + 1)).map (Value.int .i64) = ((bs.map f).take j).map (Value.int .i64) ++ [.int .i64 (f (nth bs j))] := by
  rw [take_succ' _ j (by simpa using hj), List.map_append, nth_eq, nth_eq, List.getElem?_map, List.getElem?_eq_getElem hj]; rfl
set_option maxRecDepth 100000 in
set_option maxHeartbeats 1000000 in
theorem times_any (m : Int) (a : Option Addr) (cap : Nat) (bs : List Int) (w : World) (hm : 0 ≤ m ∧ m ≤ 120) (hl : bs.length ≤ 5) (h0 : 0 < bs.length) (hb : ∀ k, 0 ≤ nth bs k ∧ nth bs k ≤ 1000) (hA : IntsAt w a bs) :
    Calls Try.prog 61 #[.slice a bs.length cap, .int .i64 m] w fun e w' => ∃ v, e = .returned v ∧ Owns w' w.heap.size v (bs.map (m * ·)) ∧ RowKit.Below w.heap.size w w' := by
  obtain ⟨i0, hi, hz0, hz1, hz2⟩ := info_parts info3
  obtain ⟨bl, off, rfl, hbl, hcell⟩ := hA.addr h0
  have HC := Lib.hid hcell
  have HB := Lib.hid hb
  have hl' : (bs.length : Int) ≤ 5 := by omega
  have HTK := Lib.hid (map_snoc (m * ·) bs)
  have hlen : (bs.map (m * ·)).length = bs.length := by simp
  have HLEN := Lib.hid hlen
  clear hcell hb hA hlen
  generalize hms : bs.map (m * ·) = ms at *
  clear hms
  go_enter Try.func61, Try.ntmps61
  go_wp2_with fail
  go_loopw [5, 6] (fun v iv wr => ∃ j : Nat, j ≤ bs.length ∧ iv = .int .i64 j ∧ wr.ownsRow w.heap.size 3 1 v j ((ms.take j).map (Value.int .i64)) ∧ Fut w wr) (fun _ iv _ => bs.length - (intOf iv).toNat)
  case atStart => exact ⟨0, Nat.zero_le _, rfl, World.ownsRow_nil _ _ _ _, Fut.rfl⟩
  case round =>
    obtain ⟨j, hj, rfl, hown, hnx⟩ := hrel
    by_cases hjt : j < bs.length
    · have hcx : wr.cell? ⟨bl, off + j, none⟩ = some (.int .i64 (nth bs j)) := (RowKit.Below.cell hnx (p := ⟨bl, off + j, none⟩) hbl).trans (HC.out j hjt)
      have hbj := HB.out j
      have HD := Lib.hid (HTK.out j hjt)
      have hsz := RowKit.Below.size hnx
      have hjx : (j : Int) < bs.length := by omega
      generalize nth bs j = y at *
      have hp0 : 0 ≤ m * y := Int.mul_nonneg hm.1 hbj.1
      have hp1 : m * y ≤ 120 * 1000 := Int.mul_le_mul hm.2 hbj.2 hbj.1 (by omega)
      have HX := Lib.hid hnx
      clear hnx
      go_wp2_with (first
        | (at_builtin; refine wpList_append_own _ rfl _ _ 22 rfl w.heap.size 3 i0 (.int .i64 0) 1 8 Try.underlying22 hi hz0 hz1 hz2 rfl (by decide) _ _ _ rfl (hown.alloc _) ⟨wr.heap.size, 0, none⟩ 1 1 [.int .i64 (m * y)] rfl rfl ?c1 ?c2 ?c3 ?c4 ?c5 ?_)
        | go_in)
      case c1 =>
        intro i u hj
        match i, hj with
        | 0, hj => simp at hj; subst hj; simp [Addr.add]
      case c2 => intro u hu; simp at hu; subst hu; rfl
      case c3 => unfold maxLen; omega
      case c4 => omega
      case c5 => simp; omega
      · intro v' w1 hown' hgrow _
        have HO : Hid (w1.ownsRow w.heap.size 3 1 v' (j + 1) ((ms.take (j + 1)).map (Value.int .i64))) := Lib.hid (by rw [HD.out]; simpa using hown')
        have HBX : Hid (Fut w w1) := Lib.hid ((RowKit.Below.alloc HX.out (by omega) _).grown hgrow (by simp; omega) (fun i hi => by have := (hown.lt i hi).1; omega))
        clear hown' hgrow hown hcx HD hp0 hp1
        go_wp2
        go_roundw
        case rel => exact ⟨j + 1, by omega, by go_num, HO.out, HBX.out⟩
        case measure => simp [intOf]; omega
    · obtain rfl : j = bs.length := by omega
      have hO : Owns wr w.heap.size u5 ms := by
        unfold Owns
        rw [← HLEN.out, List.take_length] at hown
        exact hown
      have hB : RowKit.Below w.heap.size w wr := hnx
      clear hown hnx HC HB
      go_wp2
      go_ret
      exact ⟨_, rfl, hO, hB⟩
/-- the differences of two lists. -/
def subL (xs ys : List Int) : List Int := (List.range xs.length).map fun i => nth xs i - nth ys i
theorem sub_len (xs ys : List Int) : (subL xs ys).length = xs.length := by simp [subL]
theorem sub_nth (xs ys : List Int) (i : Nat) (h : i < xs.length) : nth (subL xs ys) i = nth xs i - nth ys i := by
  rw [nth_eq]; simp [subL, h]
theorem sub_snoc (xs ys : List Int) (j : Nat) (hj : j < xs.length) : ((subL xs ys).take (j + 1)).map (Value.int .i64) = ((subL xs ys).take j).map (Value.int .i64) ++ [.int .i64 (nth xs j - nth ys j)] := by
  rw [take_succ' _ j (by rw [sub_len]; exact hj), List.map_append, sub_nth xs ys j hj]; rfl
set_option maxRecDepth 100000 in
set_option maxHeartbeats 1000000 in
theorem less_any (a c : Option Addr) (cap dap n : Nat) (xs ys : List Int) (w : World) (hx : xs.length = n) (hy : ys.length = n) (hl : n ≤ 5) (h0 : 0 < n) (hbx : ∀ k, k < n → 0 ≤ nth xs k ∧ nth xs k ≤ 1000000) (hby : ∀ k, k < n → 0 ≤ nth ys k ∧ nth ys k ≤ 1000000) (hA : IntsAt w a xs) (hC : IntsAt w c ys) :
    Calls Try.prog 64 #[.slice a n cap, .slice c n dap] w fun e w' => ∃ v, e = .returned v ∧ Owns w' w.heap.size v (subL xs ys) ∧ RowKit.Below w.heap.size w w' := by
  obtain ⟨i0, hi, hz0, hz1, hz2⟩ := info_parts info3
  obtain ⟨bl, off, rfl, hbl, hcell⟩ := hA.addr (by omega)
  obtain ⟨bc, ofc, rfl, hbc, hcc⟩ := hC.addr (by omega)
  have HX := Lib.hid hcell
  have HY := Lib.hid hcc
  have HBX := Lib.hid hbx
  have HBY := Lib.hid hby
  have HLX := Lib.hid hx
  have HLY := Lib.hid hy
  have hl' : (n : Int) ≤ 5 := by omega
  have HTK := Lib.hid (sub_snoc xs ys)
  have HLEN := Lib.hid (sub_len xs ys)
  clear hcell hcc hbx hby hA hC hx hy
  generalize hms : subL xs ys = ms at *
  clear hms
  go_enter Try.func64, Try.ntmps64
  go_wp2_with fail
  go_loopw [5, 6] (fun v iv wr => ∃ j : Nat, j ≤ n ∧ iv = .int .i64 j ∧ wr.ownsRow w.heap.size 3 1 v j ((ms.take j).map (Value.int .i64)) ∧ Fut w wr) (fun _ iv _ => n - (intOf iv).toNat)
  case atStart => exact ⟨0, Nat.zero_le _, rfl, World.ownsRow_nil _ _ _ _, Fut.rfl⟩
  case round =>
    obtain ⟨j, hj, rfl, hown, hnx⟩ := hrel
    by_cases hjt : j < n
    · have hcx : wr.cell? ⟨bl, off + j, none⟩ = some (.int .i64 (nth xs j)) := (RowKit.Below.cell hnx (p := ⟨bl, off + j, none⟩) hbl).trans (HX.out j (by rw [HLX.out]; exact hjt))
      have hcy : wr.cell? ⟨bc, ofc + j, none⟩ = some (.int .i64 (nth ys j)) := (RowKit.Below.cell hnx (p := ⟨bc, ofc + j, none⟩) hbc).trans (HY.out j (by rw [HLY.out]; exact hjt))
      obtain ⟨x0, x1⟩ := HBX.out j hjt
      obtain ⟨y0, y1⟩ := HBY.out j hjt
      have HD := Lib.hid (HTK.out j (by rw [HLX.out]; exact hjt))
      have hsz := RowKit.Below.size hnx
      have hjx : (j : Int) < n := by omega
      generalize nth xs j = p at *
      generalize nth ys j = q at *
      have HN := Lib.hid hnx
      have w1 : IntKind.i64.wrap (p - q) = p - q := IntWalk.i64_in _ ⟨by omega, by omega⟩
      have ag : u5.ownBlock ≠ some bl := fun e => by have := (hown.lt _ e).1; omega
      have ac : u5.ownBlock ≠ some bc := fun e => by have := (hown.lt _ e).1; omega
      have lb : bl < wr.heap.size := World.block_lt_of_cell? wr _ hcx
      have lc : bc < wr.heap.size := World.block_lt_of_cell? wr _ hcy
      have hlt : ∀ i, u5.ownBlock = some i → w.heap.size ≤ i := fun i hi => (hown.lt i hi).1
      clear hnx
      go_wp2_with fail
      go_region_held3 (fun w' => w'.cell? ⟨bl, off + j, none⟩ = some (.int .i64 p) ∧ w'.cell? ⟨bc, ofc + j, none⟩ = some (.int .i64 q))
        (first
          | go_keep
          | (go_split_ands
             refine ⟨?_, ?_⟩
             · (rw [hgrow.cell_far _ (by simp; omega) (Ne.symm ag)]; assumption)
             · (rw [hgrow.cell_far _ (by simp; omega) (Ne.symm ac)]; assumption)))
        ((refine step_append_lies _ (by rfl) _ _ _ (by rfl) w.heap.size 3 i0 _ 1 8 Try.underlying22 hi hz0 hz1 hz2 rfl (by omega) u5 j ((ms.take j).map (Value.int .i64)) (by rfl) ((hown.alloc _).drew)
            ⟨wr.heap.size, 0, none⟩ 1 1 [.int .i64 (p - q)] (by rfl) (by rfl) (World.news_of_block (cs := #[.int .i64 (p - q)]) (t := 3) (fr := (0, 0)) (heap_alloc_new wr _)) (by simp [Value.oneCell'])
            (by omega) (by unfold maxLen; omega) (by omega) (by simp; omega) (wr.heap.size + 1) (by simp) ?_; intro gg cap' w1' hown1 hgrow hat hlt'))
      have HO : Hid (w1'.ownsRow w.heap.size 3 1 (.slice (some ⟨gg, 0, none⟩) (j + 1) cap') (j + 1) ((ms.take (j + 1)).map (Value.int .i64))) := Lib.hid (by rw [HD.out]; exact hown1)
      have HBX2 : Hid (Fut w w1') := Lib.hid (RowKit.Below.grown (below_drewN (RowKit.Below.alloc HN.out (by omega) (.cells #[.int .i64 (p - q)] 3)) 1) hgrow (by simp; omega) hlt)
      clear hown1 hgrow hown hcx hcy HD w1 hat
      go_wp2
      go_roundw
      case rel => exact ⟨j + 1, by omega, by go_num, HO.out, HBX2.out⟩
      case measure => simp [intOf]; omega
    · obtain rfl : j = n := by omega
      have hO : Owns wr w.heap.size u5 ms := by
        have e : ms.length = j := by rw [HLEN.out, HLX.out]
        unfold Owns
        rw [← e, List.take_length] at hown
        exact hown
      have hB : RowKit.Below w.heap.size w wr := hnx
      clear hown hnx
      go_wp2
      go_ret
      exact ⟨_, rfl, hO, hB⟩
end Go.Proofs.Ytdnbdaegahcoeaa
