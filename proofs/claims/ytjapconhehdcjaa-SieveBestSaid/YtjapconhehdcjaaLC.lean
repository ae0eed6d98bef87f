/- the base of stage 5: appends, joined lists, cells (carried over from stage 4) -/
import Derived.Test.YtjapconhehdcjaaLB
import Derived.Laws.ResultCell
import Derived.Deep.LoopGhost
namespace Go.Proofs.Ytjapconhehdcjaa
open Go.RowKit Go.Sort
theorem run_append_zeros (ty : TypeId) (n : Nat) (h0 : 0 < n) (hn : n ≤ 100000) (w : World) :
    (Builtin.append_ #[22, 3] ty #[.slice none 0 0, .int .i64 (n : Int)]).run Try.prog w = .ok (.slice (some ⟨w.heap.size, 0, none⟩) n (grownCap w n 0 3)) (w.drew.alloc (.cells (Builtin.zeroCells #[.int .i64 0] n ++ Builtin.zeroCells #[.int .i64 0] (grownCap w n 0 3 - n)) 3)) := by
  obtain ⟨i0, hi, hz, hs, hb⟩ := info_parts info3
  have hn0 : n ≠ 0 := by omega
  have hw2 : IntKind.i64.wrap (n : Int) = n := IntWalk.i64_in _ ⟨by omega, by omega⟩
  have h1 : ¬ ((n : Int) < 0) := by omega
  have h2 : ¬ (281474976710656 < (n : Int) * 8) := by omega
  have h63' : ¬ (9223372036854775807 < (n : Int)) := by omega
  have h48' : ¬ (281474976710656 < Builtin.nextslicecap n 0 * 8) := by rw [nextslicecap_zero h0]; omega
  simp [Builtin.append_, run_underlying Try.underlying22, run_underlying Try.underlying3, sizeOf, typeInfo, zeroValue, hi, hz, hs, hb, asInt, asIntOf, hw2, h1, h2, hn0, h63', h48', Question.forced, run_firstCells_none, newRow, grownCap, Value.cells]
theorem wpList_append_zeros {w : World} {ops : Array Oper} {rest : List Oper} {o : Oper} {a : Act} {Q : Exit → Act → World → Prop} (hgd : o.guard = none) (s x : Operand)
    (ho : o.op = .call { callee := .builtin .append, args := #[s, x], argTypes := #[22, 3] }) (n : Nat) (h0 : 0 < n) (hn : n ≤ 100000) (hs : a.eval s = .slice none 0 0) (hx : a.eval x = .int .i64 (n : Int))
    (h : ∀ g c w', w'.ownsRow w.heap.size 3 1 (.slice (some ⟨g, 0, none⟩) 0 c) 0 [] → n ≤ c → Fut w w' → wpList Try.prog ops Q rest (a.put o.dst (.slice (some ⟨g, 0, none⟩) n c)) w') : wpList Try.prog ops Q (o :: rest) a w := by
  refine wpList_plain hgd fun K hK => ?_
  have hrun := run_append_zeros o.type n h0 hn w
  have hge := grownCap_ge w n 0 3
  have hle := grownCap_le_maxLen w n 0 3 (by unfold maxLen; omega)
  have hF : Fut w (w.drew.alloc (.cells (Builtin.zeroCells #[.int .i64 0] n ++ Builtin.zeroCells #[.int .i64 0] (grownCap w n 0 3 - n)) 3)) := (Fut.drewN w 1).trans (Fut.alloc _ _)
  have hzs : ∀ k, (Builtin.zeroCells #[Value.int .i64 0] k).size = k := fun k => by unfold Builtin.zeroCells; simp
  have hown : (w.drew.alloc (.cells (Builtin.zeroCells #[.int .i64 0] n ++ Builtin.zeroCells #[.int .i64 0] (grownCap w n 0 3 - n)) 3)).ownsRow w.heap.size 3 1 (.slice (some ⟨w.heap.size, 0, none⟩) 0 (grownCap w n 0 3)) 0 [] := by
    refine ⟨rfl, .inr ⟨w.heap.size, grownCap w n 0 3, _, rfl, Nat.le_refl _, World.alloc_heap_new w.drew _, Nat.zero_le _, hle, ?_, rfl⟩⟩
    rw [Array.size_append, hzs, hzs]; omega
  unfold Oper.wp
  simp [execOp, ho, resolve, invoke, builtin, hs, hx, hrun, Result.andThen]
  exact hK _ _ (h _ _ _ hown hge hF)
set_option maxRecDepth 100000 in
set_option maxHeartbeats 1000000 in
/-- slices.Grow of nil. -/
theorem grow_any (n : Nat) (hn : n ≤ 100000) (w : World) : Calls Try.prog 113 #[.slice none 0 0, .int .i64 (n : Int)] w fun e w' => ∃ v, e = .returned v ∧ Owns w' w.heap.size v [] ∧ Fut w w' := by
  have hnx : (n : Int) ≤ 100000 := by omega
  by_cases h0 : 0 < n
  · have h0x : (0 : Int) < n := by omega
    go_enter Try.func113, Try.ntmps113
    go_wp2_with (at_builtin; refine wpList_append_zeros rfl _ _ rfl n h0 hn rfl rfl ?_)
    intro g c w1 hown hnc F
    have HO : Hid (Owns w1 w.heap.size (.slice (some ⟨g, 0, none⟩) 0 c) []) := Lib.hid hown
    have HF := Lib.hid F
    have hsl := fun W => slice_toI g 0 n c 0 (Nat.zero_le _) W
    clear hown F
    go_wp2_with fail
    go_ret
    exact ⟨_, rfl, HO.out, HF.out⟩
  · obtain rfl : n = 0 := by omega
    go_enter Try.func113, Try.ntmps113
    go_wp2_with fail
    go_ret
    exact ⟨_, rfl, World.ownsRow_nil _ _ _ _, Fut.rfl⟩
theorem run_append_nothing (ty : TypeId) (B n rc : Nat) (v : Value) (xs : List Value) (w : World) (h : w.ownsRow B 3 1 v n xs) : (Builtin.append_ #[22, 22] ty #[v, .slice none 0 rc]).run Try.prog w = .ok v w := by
  obtain ⟨i0, hi, _, _, _⟩ := info_parts info3
  rcases h.2 with ⟨rfl, rfl⟩ | ⟨g, cap, cur, rfl, _, _, hnc, _⟩
  · simp [Builtin.append_, run_underlying Try.underlying22, sizeOf, typeInfo, hi, Builtin.lenOf, Builtin.firstCells]
  · simp [Builtin.append_, run_underlying Try.underlying22, sizeOf, typeInfo, hi, Builtin.lenOf, Builtin.firstCells, hnc, storeCells]
theorem wpList_append_nothing {w : World} {ops : Array Oper} {rest : List Oper} {o : Oper} {a : Act} {Q : Exit → Act → World → Prop} (hgd : o.guard = none) (s x : Operand)
    (ho : o.op = .call { callee := .builtin .append, args := #[s, x], argTypes := #[22, 22] }) (B n rc : Nat) (v : Value) (xs : List Value) (hs : a.eval s = v) (hown : w.ownsRow B 3 1 v n xs) (hx : a.eval x = .slice none 0 rc)
    (h : wpList Try.prog ops Q rest (a.put o.dst v) w) : wpList Try.prog ops Q (o :: rest) a w := by
  refine wpList_plain hgd fun K hK => ?_
  have hrun := run_append_nothing o.type B n rc v xs w hown
  unfold Oper.wp
  simp [execOp, ho, resolve, invoke, builtin, hs, hx, hrun, Result.andThen]
  exact hK _ _ h
def szN (zss : List (List Int)) (k : Nat) : Nat := ((zss.take k).map List.length).sum
theorem szN_succ (zss : List (List Int)) (k : Nat) (h : k < zss.length) : szN zss (k + 1) = szN zss k + (lth zss k).length := by
  unfold szN
  rw [List.take_succ_eq_append_getElem h, List.map_append, List.sum_append, lth_eq, List.getElem?_eq_getElem h]
  simp
theorem szN_le (zss : List (List Int)) (b : Nat) (hb : ∀ k, k < zss.length → (lth zss k).length ≤ b) : ∀ k, k ≤ zss.length → szN zss k ≤ k * b
  | 0, _ => by unfold szN; simp
  | k + 1, h => by
    rw [szN_succ _ _ (by omega), Nat.succ_mul]
    have := szN_le zss b hb k (by omega)
    have := hb k (by omega)
    omega
theorem flat_take (zss : List (List Int)) (k : Nat) (h : k < zss.length) : (zss.take (k + 1)).flatten = (zss.take k).flatten ++ lth zss k := by
  rw [List.take_succ_eq_append_getElem h, List.flatten_append, lth_eq, List.getElem?_eq_getElem h]
  simp
theorem flat_len (zss : List (List Int)) : ∀ k, k ≤ zss.length → (zss.take k).flatten.length = szN zss k
  | 0, _ => by unfold szN; simp
  | k + 1, h => by rw [flat_take _ _ (by omega), List.length_append, flat_len zss k (by omega), szN_succ _ _ (by omega)]
set_option maxRecDepth 100000 in
set_option maxHeartbeats 2000000 in
/-- slices.Concat at numbers. -/
theorem concat_any (a : Option Addr) (cap : Nat) (zss : List (List Int)) (w : World) (hL : LstAt w a zss) (hl : zss.length ≤ 100) (hz : ∀ k, k < zss.length → (lth zss k).length ≤ 1000) :
    Calls Try.prog 89 #[.slice a zss.length cap] w fun e w' => ∃ v, e = .returned v ∧ Owns w' w.heap.size v zss.flatten ∧ Fut w w' := by
  obtain ⟨i0, hi0, hz0, hz1, hz2⟩ := info_parts info3
  have HL := Lib.hid hL
  have HZ := Lib.hid hz
  have hlx : (zss.length : Int) ≤ 100 := by omega
  have hsl := szN_le zss 1000 hz
  have HSL := Lib.hid (fun k (hk : k ≤ zss.length) => show szN zss k ≤ 100000 by have := hsl k hk; omega)
  have HSS := Lib.hid (fun k (hk : k < zss.length) => szN_succ zss k hk)
  have HS0 : Hid (szN zss 0 = 0) := Lib.hid (by unfold szN; simp)
  have HFT := Lib.hid (fun k (hk : k < zss.length) => flat_take zss k hk)
  have HFL := Lib.hid (fun k (hk : k ≤ zss.length) => flat_len zss k hk)
  have HG := Lib.hid (fun W => grow_any (szN zss zss.length) (HSL.out _ (Nat.le_refl _)) W)
  clear hL hz hsl
  go_enter Try.func89, Try.ntmps89
  go_wp2_with fail
  go_loopw [3, 11] (fun sv iv wr => ∃ k : Nat, k ≤ zss.length ∧ sv = .int .i64 (szN zss k : Nat) ∧ iv = .int .i64 k ∧ wr = w) (fun _ iv _ => zss.length - (intOf iv).toNat)
  case atStart => exact ⟨0, Nat.zero_le _, by rw [HS0.out]; rfl, rfl, rfl⟩
  case round =>
    obtain ⟨k, hk, rfl, rfl, rfl⟩ := hrel
    obtain ⟨wo, hwo⟩ : ∃ wo, wo = wr := ⟨_, rfl⟩
    subst hwo
    by_cases hkl : k < zss.length
    · have hkx : (k : Int) < zss.length := by omega
      obtain ⟨bb, off, l, lc, rfl, _, c1, _⟩ := HL.out k hkl
      have h1 := HSL.out k hk
      have h2 := HZ.out k hkl
      have HN := Lib.hid (HSS.out k hkl)
      generalize lth zss k = r at *
      generalize szN zss k = sm at *
      have h1x : (sm : Int) ≤ 100000 := by omega
      have h2x : (r.length : Int) ≤ 1000 := by omega
      go_wp2_with fail
      go_round
      case rel => exact ⟨k + 1, by omega, by rw [HN.out]; go_num, by go_num, by first | rfl | trivial⟩
      case measure => simp [intOf]; omega
    · obtain rfl : zss.length = k := by omega
      go_wp2_with fail
      refine (HG.out _).mono ?_
      rintro _ w1 ⟨v, rfl, hO, F⟩
      obtain ⟨l0, c0, rfl, _⟩ := hO.ints
      have HO1 := Lib.hid hO
      have HF1 := Lib.hid F
      clear hO F HG
      go_wp2_with fail
      go_loopw [6, 27] (fun sv iv wr => ∃ (k : Nat) (l : Option Addr) (c : Nat), k ≤ zss.length ∧ sv = .slice l (zss.take k).flatten.length c ∧ iv = .int .i64 k ∧ Hid (Owns wr wo.heap.size (.slice l (zss.take k).flatten.length c) (zss.take k).flatten) ∧ Hid (Fut wo wr)) (fun _ iv _ => zss.length - (intOf iv).toNat)
      case atStart => exact ⟨0, l0, c0, Nat.zero_le _, rfl, rfl, HO1, HF1⟩
      case round =>
        obtain ⟨k, l, c, hk, rfl, rfl, HO, HF⟩ := hrel
        clear HO1 HF1
        by_cases hkl : k < zss.length
        · have hkx : (k : Int) < zss.length := by omega
          obtain ⟨bb, off, rl, rc, rfl, _, c1, hIr⟩ := (HL.out.fut HF.out) k hkl
          have h1 := HSL.out k hk
          rw [← HFL.out k hk] at h1
          have h2 := HZ.out k hkl
          have HN := Lib.hid (HFT.out k hkl)
          generalize lth zss k = r at *
          generalize (zss.take k).flatten = acc at *
          have hsz := RowKit.Below.size HF.out
          cases rl with
          | none =>
            have hr0 : r = [] := by
              cases r with
              | nil => rfl
              | cons p t => obtain ⟨b, o, e, _⟩ := hIr 0 (by simp); cases e
            subst hr0
            rw [List.append_nil] at HN
            clear hIr
            go_wp2_with (at_builtin; refine wpList_append_nothing rfl _ _ rfl wo.heap.size acc.length rc (.slice l acc.length c) (acc.map (.int .i64)) rfl HO.out rfl ?_)
            go_wp2_with fail
            go_round
            case rel => exact ⟨k + 1, l, c, by omega, by rw [HN.out], by go_num, by rw [HN.out]; exact HO, HF⟩
            case measure => simp [intOf]; omega
          | some ad =>
            have HNW : Hid (∀ j u, (r.map (Value.int .i64))[j]? = some u → wr.cell? (ad.add j) = some u) := Lib.hid (fun j u hj => by
              have hlt : j < r.length := by simpa using (List.getElem?_eq_some_iff.1 hj).1
              obtain ⟨b, o, e, _, hc⟩ := hIr j hlt
              simp only [Option.some.injEq] at e
              subst e
              rw [Addr.add_lit, hc, ← hj, nth_eq]
              simp [List.getElem?_eq_getElem hlt])
            clear hIr
            go_wp2_with (at_builtin; refine wpList_append_own _ rfl _ _ 22 rfl wo.heap.size 3 i0 (.int .i64 0) 1 8 Try.underlying22 hi0 hz0 hz1 hz2 rfl (by decide) _ acc.length (acc.map (.int .i64)) rfl HO.out ad r.length rc (r.map (.int .i64)) rfl (by simp) HNW.out (by intro u hu; obtain ⟨z, _, rfl⟩ := List.mem_map.1 hu; rfl) (by unfold maxLen; omega) (by omega) hsz ?_)
            intro v' w7 hown' hgrow _
            have hO7 : Owns w7 wo.heap.size v' (acc ++ r) := by
              unfold Owns
              rw [List.length_append, List.map_append]
              exact hown'
            have HF7 := Lib.hid (RowKit.Below.grown HF.out hgrow hsz fun q hq => (World.ownsRow.lt HO.out q hq).1)
            obtain ⟨l7, c7, rfl, _⟩ := hO7.ints
            have HO7 := Lib.hid hO7
            clear hown' hgrow hO7
            go_wp2_with fail
            go_round
            case rel => exact ⟨k + 1, l7, c7, by omega, by rw [HN.out], by go_num, by rw [HN.out]; exact HO7, HF7⟩
            case measure => simp [intOf]; omega
        · obtain rfl : zss.length = k := by omega
          rw [List.take_length] at HO
          rw [List.take_length]
          go_wp2_with fail
          go_ret
          exact ⟨_, rfl, HO.out, HF.out⟩
theorem slice_fromI (b o n cap k : Nat) (h : k ≤ n) (_h2 : n ≤ cap) (W : World) : (Instr.sliceAt 22 (.slice (some ⟨b, o, none⟩) n cap) (some (.int .i64 k)) none none).run Try.prog W = .ok (.slice (some ⟨b, offK o k cap, none⟩) (n - k) (cap - k)) W := by
  have hu : Try.prog.underlying 22 = some (.slice (Try.prog.elem 22)) := by kernel_rfl
  have hs : (sizeOf (Try.prog.elem 22)).run Try.prog W = .ok 1 W := by kernel_rfl
  rw [run_sliceAt_slice _ _ _ _ _ _ hu, run_slice_l _ _ _ _ _ hu _ _ (by omega) (by omega), hs]
  unfold offK
  simp [sliced, Result.andThen, Addr.add]
  split
  · rfl
  · split
    · subst k; rfl
    · rfl
theorem IntsAt.drop {w : World} {b o k cap : Nat} {zs : List Int} (h : IntsAt w (some ⟨b, o, none⟩) zs) (hc : zs.length ≤ cap) : IntsAt w (some ⟨b, offK o k cap, none⟩) (zs.drop k) := fun j hj => by
  rw [List.length_drop] at hj
  obtain ⟨b', o', e, h1, h2⟩ := h (k + j) (by omega)
  simp only [Option.some.injEq, Addr.mk.injEq, and_true] at e
  obtain ⟨rfl, rfl⟩ := e
  have e2 : nth (zs.drop k) j = nth zs (k + j) := by rw [nth_eq, List.getElem?_drop, nth_eq]
  rw [e2]
  refine ⟨b, offK o k cap, rfl, h1, ?_⟩
  unfold offK
  rw [if_neg (by omega), Nat.add_assoc]
  exact h2
theorem wpList_append_src {w : World} {ops : Array Oper} {rest : List Oper} {o : Oper} {a : Act} {Q : Exit → Act → World → Prop} (hgd : o.guard = none) (s x : Operand) (t : TypeId)
    (ho : o.op = .call { callee := .builtin .append, args := #[s, x], argTypes := #[t, t] })
    (base : Nat) (e : TypeId) (i : TypeInfo) (z : Value) (bytes : Nat) (ht : Try.prog.underlying t = some (.slice e)) (hi : Try.prog.info? e = some i) (hz : i.zero = some z)
    (hsize : i.size = 1) (hby : i.bytes = bytes) (hzs : z.cells.size = 1)
    (v : Value) (n : Nat) (xs : List Value) (hs : a.eval s = v) (hown : w.ownsRow base e 1 v n xs)
    (u : Value) (m : Nat) (news : List Value) (hx : a.eval x = u) (hu : (u = .slice none 0 0 ∧ m = 0 ∧ news = []) ∨ ∃ ad c, u = .slice (some ad) m c ∧ news.length = m * 1 ∧ (∀ j x, news[j]? = some x → w.cell? (ad.add j) = some x) ∧ ∀ x ∈ news, x.oneCell' = true)
    (h63 : n + m ≤ maxLen) (hbytes : (n + m) * bytes ≤ 140737488355328) (hbase : base ≤ w.heap.size)
    (h : ∀ av ac w', w'.ownsRow base e 1 (.slice av (n + m) ac) (n + m) (xs ++ news) → w.grownBy w' v.ownBlock → wpList Try.prog ops Q rest (a.put o.dst (.slice av (n + m) ac)) w') : wpList Try.prog ops Q (o :: rest) a w := by
  refine wpList_step fun K hK => ?_
  exact step_append_src hgd s x t ho base e i z bytes ht hi hz hsize hby hzs v n xs hs hown u m news hx hu h63 hbytes hbase (fun av ac w' h1 h2 => hK _ _ (h av ac w' h1 h2))
theorem row_apart {w : World} {B B' : Nat} {t t' : TypeId} {v u : Value} {n n' : Nat} {xs xs' : List Value} (ht : t ≠ t') (h : w.ownsRow B t 1 v n xs) (h' : w.ownsRow B' t' 1 u n' xs') : v.ownBlock = none ∨ v.ownBlock ≠ u.ownBlock := by
  rcases h.2 with ⟨rfl, _⟩ | ⟨g, cap, cur, rfl, _, hg, _⟩
  · exact .inl rfl
  · rcases h'.2 with ⟨rfl, _⟩ | ⟨g', cap', cur', rfl, _, hg', _⟩
    · exact .inr (by simp [Value.ownBlock])
    · refine .inr fun e => ?_
      simp [Value.ownBlock] at e
      rw [e, hg'] at hg
      simp at hg
      exact ht hg.2.symm
theorem three_cell {w : World} {B : Nat} {t : TypeId} {x y z : Value} (h : w.heap[B]? = some (.cells #[x, y, z] t)) : w.cell? ⟨B, 0, none⟩ = some x ∧ w.cell? ⟨B, 1, none⟩ = some y ∧ w.cell? ⟨B, 2, none⟩ = some z ∧ w.frozen? ⟨B, 2, none⟩ = false := by
  refine ⟨?_, ?_, ?_, ?_⟩
  · unfold World.cell?; rw [h]; rfl
  · unfold World.cell?; rw [h]; rfl
  · unfold World.cell?; rw [h]; rfl
  · unfold World.frozen?; rw [h]; rfl
theorem three_set {w : World} {B : Nat} {t : TypeId} {x y z : Value} (u : Value) (h : w.heap[B]? = some (.cells #[x, y, z] t)) : (w.setCell ⟨B, 2, none⟩ u).heap[B]? = some (.cells #[x, y, u] t) := by
  rw [setCell_eq_setRow w B 2 _ t (0, 0) u h, setRow_heap _ _ _ _ _ _ h]; rfl
theorem set_grown (w : World) (B k : Nat) (v : Value) : w.grownBy (w.setCell ⟨B, k, none⟩ v) (some B) :=
  grown_set ⟨rfl, rfl, rfl, Nat.le_refl _, fun _ _ _ => rfl⟩
theorem heap_kept {w w' : World} {row : Option Nat} {B : Nat} {o : Obj} (h : w.heap[B]? = some o) (g : w.grownBy w' row) (hne : row ≠ some B) : w'.heap[B]? = some o :=
  (g.block B (Array.getElem?_eq_some_iff.1 h).1 (fun e => hne e.symm)).trans h
theorem heap_fut {w w' : World} {B : Nat} {o : Obj} (h : w.heap[B]? = some o) (F : Fut w w') : w'.heap[B]? = some o :=
  (RowKit.Below.block F _ (Array.getElem?_eq_some_iff.1 h).1).trans h
theorem Owns.kept {w w' : World} {B : Nat} {v : Value} {L : List Int} {row : Option Nat} (h : Owns w B v L) (g : w.grownBy w' row) (hne : v.ownBlock = none ∨ v.ownBlock ≠ row) : Owns w' B v L := World.ownsRow.kept h g hne
theorem own_ge {w : World} {B : Nat} {v : Value} {L : List Int} (h : Owns w B v L) {g : Nat} (hg : g < B) : v.ownBlock = none ∨ v.ownBlock ≠ some g := .inr fun e => by
  have := (World.ownsRow.lt h g e).1
  omega
theorem own_pop {w : World} {B e n g c : Nat} {xs : List Value} (h : w.ownsRow B e 1 (.slice (some ⟨g, 0, none⟩) (n + 1) c) (n + 1) xs) : w.ownsRow B e 1 (.slice (some ⟨g, 0, none⟩) n c) n (xs.take n) := by
  have hl := h.1
  refine ⟨by rw [List.length_take]; omega, ?_⟩
  rcases h.2 with ⟨e1, e2⟩ | ⟨g', cap, cur, e1, hb, hh, hn, hm, hs, ht⟩
  · cases e1
  · cases e1
    refine .inr ⟨g, c, cur, rfl, hb, hh, by omega, hm, hs, ?_⟩
    rw [← ht, List.take_take]
    congr 1
    omega
theorem Owns.at {w : World} {B : Nat} {a : Option Addr} {n c : Nat} {zs : List Int} (h : Owns w B (.slice a n c) zs) (hn : n = zs.length) : IntsAt w a zs := by
  subst hn
  obtain ⟨_, _, e, hI⟩ := h.ints
  simp only [Value.slice.injEq, true_and] at e
  rw [e.1]; exact hI
theorem own_pos {w : World} {B n : Nat} {a : Option Addr} {cap : Nat} {L : List Int} (h : Owns w B (.slice a n cap) L) (hn : n = L.length) (h0 : 0 < n) : ∃ g c, Value.slice a n cap = .slice (some ⟨g, 0, none⟩) n c ∧ n ≤ c ∧ IntsAt w (some ⟨g, 0, none⟩) L := by
  subst hn
  rcases h.2 with ⟨_, h1⟩ | ⟨g, c, cur, e, _, _, hc, _⟩
  · omega
  · refine ⟨g, c, e, hc, ?_⟩
    rw [e] at h
    exact Owns.at h rfl
theorem two_cell {w : World} {B : Nat} {t : TypeId} {x y : Value} (h : w.heap[B]? = some (.cells #[x, y] t)) : w.cell? ⟨B, 0, none⟩ = some x ∧ w.cell? ⟨B, 1, none⟩ = some y ∧ w.frozen? ⟨B, 0, none⟩ = false ∧ w.frozen? ⟨B, 1, none⟩ = false := by
  refine ⟨?_, ?_, ?_, ?_⟩
  · unfold World.cell?; rw [h]; rfl
  · unfold World.cell?; rw [h]; rfl
  · unfold World.frozen?; rw [h]; rfl
  · unfold World.frozen?; rw [h]; rfl
theorem two_set0 {w : World} {B : Nat} {t : TypeId} {x y : Value} (u : Value) (h : w.heap[B]? = some (.cells #[x, y] t)) : (w.setCell ⟨B, 0, none⟩ u).heap[B]? = some (.cells #[u, y] t) := by
  rw [setCell_eq_setRow w B 0 _ t (0, 0) u h, setRow_heap _ _ _ _ _ _ h]; rfl
theorem two_set1 {w : World} {B : Nat} {t : TypeId} {x y : Value} (u : Value) (h : w.heap[B]? = some (.cells #[x, y] t)) : (w.setCell ⟨B, 1, none⟩ u).heap[B]? = some (.cells #[x, u] t) := by
  rw [setCell_eq_setRow w B 1 _ t (0, 0) u h, setRow_heap _ _ _ _ _ _ h]; rfl
theorem cell_of1 {w : World} {B : Nat} {t : TypeId} {x : Value} (h : w.heap[B]? = some (.cells #[x] t)) : w.cell? ⟨B, 0, none⟩ = some x := by unfold World.cell?; rw [h]; rfl
theorem froz_of1 {w : World} {B : Nat} {t : TypeId} {x : Value} (h : w.heap[B]? = some (.cells #[x] t)) : w.frozen? ⟨B, 0, none⟩ = false := by unfold World.frozen?; rw [h]; rfl
theorem set_of1 {w : World} {B : Nat} {t : TypeId} {x : Value} (u : Value) (h : w.heap[B]? = some (.cells #[x] t)) : (w.setCell ⟨B, 0, none⟩ u).heap[B]? = some (.cells #[u] t) := by
  rw [setCell_eq_setRow w B 0 _ t (0, 0) u h, setRow_heap _ _ _ _ _ _ h]; rfl
theorem one_cell {w : World} {s : Nat} {x : Value} (h : w.cell? ⟨s, 0, none⟩ = some x) : ∀ (j : Nat) (u : Value), [x][j]? = some u → w.cell? ((⟨s, 0, none⟩ : Addr).add j) = some u := fun j u hu => by
  match j, hu with
  | 0, hu => cases hu; exact h
theorem fut_none {w w' : World} (g : w.grownBy w' none) : Fut w w' := RowKit.Below.grown Fut.rfl g (Nat.le_refl _) (fun q hq => by cases hq)
theorem cell_new (w : World) (x : Value) (t : TypeId) : (w.alloc (.cells #[x] t)).cell? ⟨w.heap.size, 0, none⟩ = some x := cell_of1 (World.alloc_heap_new _ _)
theorem cell_at {w W : World} {s : Nat} {x : Value} (h : w.cell? ⟨s, 0, none⟩ = some x) (F : Fut w W) : W.cell? ⟨s, 0, none⟩ = some x := (RowKit.Below.cell F (p := ⟨s, 0, none⟩) (World.block_lt_of_cell? _ _ h)).trans h
theorem but_below {Z : Nat → Prop} {B : Nat} {a b c : World} (h : But Z a b) (k : RowKit.Below B b c) (hB : a.heap.size ≤ B) : But Z a c :=
  ⟨k.os.trans h.os, k.tape.trans h.tape, k.output.trans h.output, Nat.le_trans h.size k.size, fun i hi hz => (k.block i (Nat.lt_of_lt_of_le hi hB)).trans (h.block i hi hz)⟩
theorem below_heap {w w' : World} {B b : Nat} {o : Obj} (h : w.heap[b]? = some o) (k : RowKit.Below B w w') (hb : b < B) : w'.heap[b]? = some o := (k.block b hb).trans h
theorem but_heap {Z : Nat → Prop} {w w' : World} {b : Nat} {o : Obj} (h : w.heap[b]? = some o) (k : But Z w w') (hz : ¬ Z b) : w'.heap[b]? = some o := (k.block b (Array.getElem?_eq_some_iff.1 h).1 hz).trans h
theorem fut_own {a b c : World} {row : Option Nat} (h : Fut a b) (g : b.grownBy c row) (hr : ∀ q, row = some q → a.heap.size ≤ q) : Fut a c := RowKit.Below.grown h g (RowKit.Below.size h) hr
theorem one_ints {w : World} {s : Nat} {x : Int} (h : w.cell? ⟨s, 0, none⟩ = some (.int .i64 x)) (hs : s < w.heap.size) : IntsAt w (some ⟨s, 0, none⟩) [x] := fun j hj => by
  obtain rfl : j = 0 := by simp at hj; exact hj
  exact ⟨s, 0, rfl, hs, h⟩
end Go.Proofs.Ytjapconhehdcjaa
