/- LaneBars: lists of numbers that were appended, the families' walk of the yard (fromYard_own) -/
import Derived.Test.YtflllkamdihfaaaLBB
import Derived.Test.YtflllkamdihfaaaLBG
import Derived.Test.YtflllkamdihfaaaLCC
namespace Go.Proofs.Ytflllkamdihfaaa
open Go.RowKit Go.Sort
section
theorem metW_cons (x : Int) (a b : List Int) : metW (x :: a) b = (b.contains x || metW a b) := rfl
set_option maxRecDepth 100000 in
theorem meet_any (a c : Option Addr) (cap dap : Nat) (xs ys : List Int) (w : World) (hA : IntsAt w a xs) (hC : IntsAt w c ys) (hx : xs.length ≤ 1000) (hy : ys.length ≤ 1000) :
    Calls Try.prog 92 #[.slice a xs.length cap, .slice c ys.length dap] w fun e w' => e = .returned (.bool (metW xs ys)) ∧ w = w' := by
  have HA := Lib.hid hA
  have HH := Lib.hid (fun x => rhas_any c dap ys x w hC hy)
  have hlx : (xs.length : Int) ≤ 1000 := by omega
  obtain ⟨E, HE⟩ : ∃ E, Hid (metW xs ys = E) := ⟨_, Lib.hid rfl⟩
  rw [HE.out]
  clear hA hC
  go_enter Try.func92, Try.ntmps92
  go_wp2_with fail
  go_loop [5] (fun iv => ∃ k : Nat, k ≤ xs.length ∧ iv = .int .i64 k ∧ Hid (metW (xs.drop k) ys = E)) (fun iv => xs.length - (intOf iv).toNat)
  case atStart => exact ⟨0, Nat.zero_le _, rfl, HE⟩
  case round =>
    obtain ⟨k, hk, rfl, HO⟩ := hrel
    by_cases hlt : k < xs.length
    · have hkx : (k : Int) < xs.length := by omega
      obtain ⟨b, off, ea, hb, c1⟩ := HA.out k hlt
      subst ea
      have hd := nth_drop xs k hlt
      rw [hd, metW_cons] at HO
      have HX := Lib.hid (HH.out (nth xs k))
      generalize nth xs k = x at *
      clear hd
      cases hq : ys.contains x
      · rw [hq] at HX HO
        rw [Bool.false_or] at HO
        clear hq
        go_wp2_with fail
        refine HX.out.mono ?_
        rintro _ _ ⟨rfl, rfl⟩
        go_wp2
        go_round
        case rel => exact ⟨k + 1, by omega, by go_num, HO⟩
        case measure => simp [intOf]; omega
      · rw [hq] at HX HO
        rw [Bool.true_or] at HO
        obtain rfl : E = true := HO.out.symm
        clear hq
        go_wp2_with fail
        refine HX.out.mono ?_
        rintro _ _ ⟨rfl, rfl⟩
        go_wp2
        go_ret
        exact ⟨rfl, rfl⟩
    · obtain rfl : xs.length = k := by omega
      rw [List.drop_of_length_le (Nat.le_refl _)] at HO
      obtain rfl : E = false := HO.out.symm
      go_wp2
      go_ret
      exact ⟨rfl, rfl⟩
theorem lsB_drop (xs ys : List Int) (k : Nat) (h1 : k < xs.length) (h2 : k < ys.length) : lsB (xs.drop k) (ys.drop k) = if nth xs k = nth ys k then lsB (xs.drop (k + 1)) (ys.drop (k + 1)) else decide (nth xs k < nth ys k) := by
  rw [nth_drop xs k h1, nth_drop ys k h2]
  rfl
theorem lsB_end (xs ys : List Int) (h : ¬ (0 < xs.length ∧ 0 < ys.length)) : lsB xs ys = decide (xs.length < ys.length) := by
  cases xs with
  | nil => cases ys <;> simp [lsB]
  | cons x xs =>
    cases ys with
    | nil => simp [lsB]
    | cons y ys => simp at h
set_option maxRecDepth 100000 in
set_option maxHeartbeats 1000000 in
theorem less_any (a c : Option Addr) (cap dap : Nat) (xs ys : List Int) (w : World) (hA : IntsAt w a xs) (hC : IntsAt w c ys) (hx : xs.length ≤ 1000) (hy : ys.length ≤ 1000) :
    Calls Try.prog 83 #[.slice a xs.length cap, .slice c ys.length dap] w fun e w' => e = .returned (.bool (lsB xs ys)) ∧ Fut w w' := by
  have HA := Lib.hid hA
  have HC := Lib.hid hC
  have hlx : (xs.length : Int) ≤ 1000 := by omega
  have hly : (ys.length : Int) ≤ 1000 := by omega
  obtain ⟨E, HE⟩ : ∃ E, Hid (lsB xs ys = E) := ⟨_, Lib.hid rfl⟩
  rw [HE.out]
  clear hA hC
  go_enter Try.func83, Try.ntmps83
  go_wp2_with fail
  go_loopw [5] (fun iv wr => ∃ k : Nat, k ≤ xs.length ∧ k ≤ ys.length ∧ iv = .int .i64 k ∧ Hid (lsB (xs.drop k) (ys.drop k) = E) ∧ Hid (Fut w wr)) (fun iv _ => xs.length - (intOf iv).toNat)
  case atStart => exact ⟨0, Nat.zero_le _, Nat.zero_le _, rfl, HE, Lib.hid Fut.rfl⟩
  case round =>
    obtain ⟨k, hk, hk2, rfl, HO, HF⟩ := hrel
    by_cases hlt : k < xs.length
    · have hkx : (k : Int) < xs.length := by omega
      by_cases hlt2 : k < ys.length
      · have hky : (k : Int) < ys.length := by omega
        rw [lsB_drop xs ys k hlt hlt2] at HO
        obtain ⟨b, off, ea, hb, c1⟩ := (HA.out.fut HF.out) k hlt
        obtain ⟨b2, off2, ea2, hb2, c2⟩ := (HC.out.fut HF.out) k hlt2
        subst ea
        subst ea2
        generalize nth xs k = x at *
        generalize nth ys k = y at *
        by_cases he : x = y
        · subst he
          rw [if_pos rfl] at HO
          have hxx : (x != x) = false := by simp
          go_upto_region 4 with fail
          go_quiet (fail)
          have HF2 := Lib.hid (HF.out.trans (Fut.drewN wr nq))
          clear c1 c2
          generalize wr.drewN nq = w6 at *
          go_wp2
          go_round
          case rel => exact ⟨k + 1, by omega, by omega, by go_num, HO, HF2⟩
          case measure => simp [intOf]; omega
        · rw [if_neg he] at HO
          have hxx : (x != y) = true := by simpa using he
          go_upto_region 4 with fail
          go_quiet (fail)
          have F1 := Fut.drewN wr nq
          have HF2 := Lib.hid (HF.out.trans F1)
          have d1 := (RowKit.Below.cell F1 (p := ⟨b, off + k, none⟩) hb).trans c1
          have d2 := (RowKit.Below.cell F1 (p := ⟨b2, off2 + k, none⟩) hb2).trans c2
          clear c1 c2 F1
          generalize wr.drewN nq = w6 at *
          go_upto_region 5 with fail
          go_quiet (fail)
          have HF3 := Lib.hid (HF2.out.trans (Fut.drewN w6 nq))
          clear d1 d2
          generalize w6.drewN nq = w7 at *
          go_wp2
          go_ret
          exact ⟨retb HO.out, HF3.out⟩
      · have hky : ¬ (k : Int) < ys.length := by omega
        have hE : decide (xs.length < ys.length) = E := by
          rw [← HO.out, lsB_end _ _ (by simp; omega), decide_eq_decide, List.length_drop, List.length_drop]; omega
        go_wp2
        go_ret
        exact ⟨rfl, HF.out⟩
    · have hkx : ¬ (k : Int) < xs.length := by omega
      have hE : decide (xs.length < ys.length) = E := by
        rw [← HO.out, lsB_end _ _ (by simp; omega), decide_eq_decide, List.length_drop, List.length_drop]; omega
      go_wp2
      go_ret
      exact ⟨rfl, HF.out⟩
end
section
theorem wpList_append_src {w : World} {ops : Array Oper} {rest : List Oper} {o : Oper} {a : Act} {Q : Exit → Act → World → Prop} (hgd : o.guard = none) (s x : Operand) (t : TypeId)
    (ho : o.op = .call { callee := .builtin .append, args := #[s, x], argTypes := #[t, t] })
    (base : Nat) (e : TypeId) (i : TypeInfo) (z : Value) (bytes : Nat) (ht : Try.prog.underlying t = some (.slice e)) (hi : Try.prog.info? e = some i) (hz : i.zero = some z)
    (hsize : i.size = 1) (hby : i.bytes = bytes) (hzs : z.cells.size = 1)
    (v : Value) (n : Nat) (xs : List Value) (hs : a.eval s = v) (hown : w.ownsRow base e 1 v n xs)
    (u : Value) (m : Nat) (news : List Value) (hx : a.eval x = u) (hu : (u = .slice none 0 0 ∧ m = 0 ∧ news = []) ∨ ∃ ad c, u = .slice (some ad) m c ∧ news.length = m * 1 ∧ (∀ j x, news[j]? = some x → w.cell? (ad.add j) = some x) ∧ ∀ x ∈ news, x.oneCell' = true)
    (h63 : n + m ≤ maxLen) (hbytes : (n + m) * bytes ≤ 140737488355328) (hbase : base ≤ w.heap.size)
    (h : ∀ av ac w', w'.ownsRow base e 1 (.slice av (n + m) ac) (n + m) (xs ++ news) → w.grownBy w' v.ownBlock → wpList Try.prog ops Q rest (a.put o.dst (.slice av (n + m) ac)) w') : wpList Try.prog ops Q (o :: rest) a w := by
  refine wpList_step fun K hK => ?_
  exact step_append_src hgd s x t ho base e i z bytes ht hi hz hsize hby hzs v n xs hs hown u m news hx hu h63 hbytes hbase (fun av ac w' h1 h2 => hK _ _ (h av ac w' h1 h2))
theorem insW_at (x : List Int) : ∀ (l : List (List Int)) (k : Nat), k ≤ l.length → (∀ j, j < k → lsB (lth l j) x = true) → (k < l.length → lsB (lth l k) x = false) → insW x l = l.take k ++ x :: l.drop k
  | [], k, hk, _, _ => by
    obtain rfl : k = 0 := by simpa using hk
    rfl
  | y :: l, 0, _, _, h2 => by
    have := h2 (by simp)
    unfold insW
    rw [if_neg (by rw [show lsB y x = false from this]; simp)]; rfl
  | y :: l, k + 1, hk, h1, h2 => by
    have h0 : lsB y x = true := h1 0 (by omega)
    unfold insW
    rw [if_pos h0, insW_at x l k (by simpa using hk) (fun j hj => h1 (j + 1) (by omega)) (fun h => h2 (by simp; omega))]
    rfl
theorem fyF_snoc (st : Int → List Int) (y t : Int) : ∀ (T : List Int) (acc : List (List Int)), fyF st y (T ++ [t]) acc = insL (fyF st y T acc) (rtL st t 16 y)
  | [], _acc => rfl
  | _s :: T, _acc => fyF_snoc st y t T _
theorem fyF_take (st : Int → List Int) (y : Int) (T : List Int) (k : Nat) (h : k < T.length) : fyF st y (T.take (k + 1)) [] = insL (fyF st y (T.take k) []) (rtL st (nth T k) 16 y) := by
  rw [List.take_succ_eq_append_getElem h, fyF_snoc, nth_eq, List.getElem?_eq_getElem h]; rfl
theorem insL_take (acc R : List (List Int)) (i : Nat) (h : i < R.length) : insL acc (R.take (i + 1)) = insW (lth R i) (insL acc (R.take i)) := by
  unfold insL
  rw [List.take_succ_eq_append_getElem h, List.foldl_append, lth_eq, List.getElem?_eq_getElem h]; rfl
theorem insW_len (x : List Int) : ∀ l, (insW x l).length = l.length + 1
  | [] => rfl
  | y :: l => by
    unfold insW
    split
    · rw [List.length_cons, insW_len x l, List.length_cons]
    · simp
theorem insL_len : ∀ (R acc : List (List Int)), (insL acc R).length = acc.length + R.length
  | [], acc => by simp [insL]
  | w :: R, acc => by rw [insL_cons, insL_len R, insW_len, List.length_cons]; omega
theorem Elems.ins {w : World} {B : Nat} {vals : List Value} {L : List (List Int)} {v : Value} {x : List Int} (h : Elems w B vals L) (hv : Owns w B v x) (k : Nat) (hk : k ≤ L.length) : Elems w B (vals.take k ++ v :: vals.drop k) (L.take k ++ x :: L.drop k) := by
  obtain ⟨h1, h2⟩ := h
  refine ⟨by simp; omega, fun j hj => ?_⟩
  have hl : (vals.take k).length = k := by rw [List.length_take]; omega
  have hl2 : (L.take k).length = k := by rw [List.length_take]; omega
  rcases Nat.lt_trichotomy j k with q | q | q
  · obtain ⟨u, e, hu⟩ := h2 j (by omega)
    refine ⟨u, ?_, ?_⟩
    · rw [List.getElem?_append_left (by omega), List.getElem?_take_of_lt q]; exact e
    · rw [lth_eq, List.getElem?_append_left (by omega), List.getElem?_take_of_lt q, ← lth_eq]; exact hu
  · subst q
    refine ⟨v, ?_, ?_⟩
    · rw [List.getElem?_append_right (by omega), hl]; simp
    · rw [lth_eq, List.getElem?_append_right (by omega), hl2]; simpa using hv
  · have hj2 : j - 1 < L.length := by simp at hj; omega
    obtain ⟨u, e, hu⟩ := h2 (j - 1) hj2
    refine ⟨u, ?_, ?_⟩
    · rw [List.getElem?_append_right (by omega), hl, show j - k = (j - 1 - k) + 1 by omega, List.getElem?_cons_succ, List.getElem?_drop, show k + (j - 1 - k) = j - 1 by omega]; exact e
    · rw [lth_eq, List.getElem?_append_right (by omega), hl2, show j - k = (j - 1 - k) + 1 by omega, List.getElem?_cons_succ, List.getElem?_drop, show k + (j - 1 - k) = j - 1 by omega, ← lth_eq]; exact hu
theorem slice_toN (W : World) : (Instr.sliceAt 35 (.slice none 0 0) none (some (.int .i64 (0 : Nat))) none).run Try.prog W = .ok (.slice none 0 0) W := by kernel_rfl
theorem slice_fromN (W : World) : (Instr.sliceAt 35 (.slice none 0 0) (some (.int .i64 (0 : Nat))) none none).run Try.prog W = .ok (.slice none 0 0) W := by kernel_rfl
/-- a row of lists, cut: what comes of it as a source. -/
theorem OwnX.vals {w : World} {B : Nat} {v : Value} {L : List (List Int)} (h : OwnX w B v L) : ∃ vals, Elems w 0 vals L ∧ ((v = .slice none 0 0 ∧ L = [] ∧ vals = []) ∨ ∃ g c, v = .slice (some ⟨g, 0, none⟩) L.length c ∧ L.length ≤ c ∧ c ≤ 9223372036854775807 ∧ (∀ j x, vals[j]? = some x → w.cell? ⟨g, j, none⟩ = some x)) := by
  obtain ⟨vals, h1, h2⟩ := h
  refine ⟨vals, h2, ?_⟩
  have h1' := h1
  rcases h1.2 with ⟨rfl, h0⟩ | ⟨g, cap, cur, rfl, _, _, hn, hm, _⟩
  · have : L = [] := List.length_eq_zero_iff.1 h0
    subst this
    exact .inl ⟨rfl, rfl, List.length_eq_zero_iff.1 h2.1⟩
  · refine .inr ⟨g, cap, rfl, hn, by unfold maxLen at hm; omega, fun j x hx => ?_⟩
    have := World.ownsRow.cells h1' (g := g) rfl j x hx
    rwa [Addr.add_lit, Nat.zero_add] at this
/-- what append may take. -/
def SrcL (w : World) (u : Value) (m : Nat) (news : List Value) : Prop := (u = .slice none 0 0 ∧ m = 0 ∧ news = []) ∨ ∃ ad c, u = .slice (some ad) m c ∧ news.length = m * 1 ∧ (∀ j x, news[j]? = some x → w.cell? (ad.add j) = some x) ∧ ∀ x ∈ news, x.oneCell' = true
theorem SrcL.fut {w w' : World} {u : Value} {m : Nat} {news : List Value} (h : SrcL w u m news) (F : Fut w w') : SrcL w' u m news := by
  rcases h with h | ⟨ad, c, h1, h2, h3, h4⟩
  · exact .inl h
  · exact .inr ⟨ad, c, h1, h2, fun j x hx => (RowKit.Below.cell F (World.block_lt_of_cell? _ _ (h3 j x hx))).trans (h3 j x hx), h4⟩
theorem cut_nil (w : World) : (∀ W, (Instr.sliceAt 35 (.slice none 0 0) none (some (.int .i64 (0 : Nat))) none).run Try.prog W = .ok (.slice none 0 0) W) ∧ (∀ W, (Instr.sliceAt 35 (.slice none 0 0) (some (.int .i64 (0 : Nat))) none none).run Try.prog W = .ok (.slice none 0 0) W) ∧ SrcL w (.slice none 0 0) 0 [] :=
  ⟨slice_toN, slice_fromN, .inl ⟨rfl, rfl, rfl⟩⟩
theorem cut_to {w : World} {g c : Nat} {L : List (List Int)} {vals : List Value} (hel : Elems w 0 vals L) (hc : ∀ j x, vals[j]? = some x → w.cell? ⟨g, j, none⟩ = some x) (hlc : L.length ≤ c) (k : Nat) (hk : k ≤ L.length) :
    ∃ u, (∀ W, (Instr.sliceAt 35 (.slice (some ⟨g, 0, none⟩) L.length c) none (some (.int .i64 k)) none).run Try.prog W = .ok u W) ∧ SrcL w u k (vals.take k) :=
  ⟨_, slice_toL g 0 L.length c k (by omega), .inr ⟨_, c, rfl, by have := hel.1; simp; omega, fun j x hx => (by
    rw [Addr.add_lit, Nat.zero_add]
    refine hc j x ?_
    by_cases q : j < k
    · rwa [List.getElem?_take_of_lt q] at hx
    · rw [List.getElem?_eq_none (by simp; omega)] at hx; cases hx), fun x hx => hel.cells x (List.mem_of_mem_take hx)⟩⟩
theorem cut_from {w : World} {g c : Nat} {L : List (List Int)} {vals : List Value} (hel : Elems w 0 vals L) (hc : ∀ j x, vals[j]? = some x → w.cell? ⟨g, j, none⟩ = some x) (hlc : L.length ≤ c) (k : Nat) (hk : k ≤ L.length) :
    ∃ u, (∀ W, (Instr.sliceAt 35 (.slice (some ⟨g, 0, none⟩) L.length c) (some (.int .i64 k)) none none).run Try.prog W = .ok u W) ∧ SrcL w u (L.length - k) (vals.drop k) :=
  ⟨_, slice_fromL g 0 L.length c k hk hlc, .inr ⟨_, c - k, rfl, by have := hel.1; simp; omega, fun j x hx => (by
    rw [Addr.add_lit]
    rw [List.getElem?_drop] at hx
    have hlt : k + j < vals.length := (List.getElem?_eq_some_iff.1 hx).1
    have := hel.1
    unfold offK
    rw [if_neg (by omega), Nat.zero_add]
    exact hc _ _ hx), fun x hx => hel.cells x (List.mem_of_mem_drop hx)⟩⟩
end
section
theorem rtL_short (c m : Int) (S : List Int) (tz : Int) : ∀ (f : Nat) (k : Int), ∀ x ∈ rtL (stL c m S) tz f k, x.length ≤ f
  | 0, k, x, h => by simp [rtL] at h
  | f + 1, k, x, h => by
    unfold rtL at h
    rcases List.mem_append.1 h with h | h
    · split at h
      · obtain rfl : x = [k] := by simpa using h
        simp
      · cases h
    · obtain ⟨y, _, hw⟩ := List.mem_flatMap.1 h
      obtain ⟨z, hz, rfl⟩ := List.mem_map.1 hw
      have := rtL_short c m S tz f y z hz
      simp; omega
theorem lth_mem' {l : List (List Int)} {k : Nat} (h : k < l.length) : lth l k ∈ l := by
  rw [lth_eq, List.getElem?_eq_getElem h]; exact List.getElem_mem h
theorem mem_insL_take (acc R : List (List Int)) (i : Nat) {z : List Int} (h : z ∈ insL acc (R.take i)) : z ∈ R ∨ z ∈ acc := by
  rcases (mem_insL z _ _).1 h with h | h
  · exact .inl (List.mem_of_mem_take h)
  · exact .inr h
theorem fyF_short (c m : Int) (S : List Int) (y : Int) (T : List Int) : ∀ z ∈ fyF (stL c m S) y T [], z.length ≤ 16 := fun z hz => by
  rw [mem_fyF] at hz
  rcases hz with ⟨t, _, h⟩ | h
  · exact rtL_short c m S t 16 y z h
  · cases h
theorem fyF_le (c m : Int) (S : List Int) (y : Int) : ∀ (T : List Int) (acc : List (List Int)), (fyF (stL c m S) y T acc).length ≤ acc.length + T.length * 65535
  | [], acc => by simp [fyF]
  | t :: T, acc => by
    unfold fyF
    have h1 := fyF_le c m S y T (insL acc (rtL (stL c m S) t 16 y))
    rw [insL_len] at h1
    have h2 := rtL_le c m S t 16 y
    rw [List.length_cons, Nat.succ_mul]
    omega
set_option maxRecDepth 100000 in
set_option maxHeartbeats 8000000 in
theorem fromYard_own (r c : Int) (a : Option Addr) (cap : Nat) (S : List Int) (ya : Option Addr) (yc : Nat) (Y : List Int) (ta : Option Addr) (tc : Nat) (T : List Int) (y : Int) (w : World) (h : InPQ w a S ya yc Y ta tc T) (hs : Side r c (r * c)) (hy : 0 ≤ y ∧ y < r * c ∧ y ∉ S) (ht1 : 1 ≤ T.length) (ht3 : T.length ≤ 3) :
    Calls Try.prog 112 #[parV r c a S.length cap, plaV ya Y.length yc ta T.length tc, .int .i64 y] w fun e w' => ∃ v, e = .returned v ∧ OwnX w' 0 v (fyL (stL c (r * c) S) T y) ∧ Fut w w' := by
  obtain ⟨i0, hi0, hz0, hz1, hz2⟩ := info_parts info3
  obtain ⟨i1, hi1, hy0, hy1, hy2⟩ := info_parts info22
  have hA : Fut w ((w.alloc (.cells #[.int .i64 r, .int .i64 c, .slice a S.length cap] 29)).alloc (.cells #[.slice ya Y.length yc, .slice ta T.length tc] 30)) := (Fut.alloc _ _).trans (Fut.alloc _ _)
  have hBP := (BoxR.new w r c a S.length cap).fut (Fut.alloc _ (.cells #[.slice ya Y.length yc, .slice ta T.length tc] 30))
  have hBQ := BoxT.new (w.alloc (.cells #[.int .i64 r, .int .i64 c, .slice a S.length cap] 29)) ya Y.length yc ta T.length tc
  rw [World.size_alloc] at hBQ
  have HCK := Lib.hid (fun W (F : Fut w W) => rchk_any r c a cap S ya yc Y ta tc T W (h.fut F))
  have HA := Lib.hid hA
  have HBP := Lib.hid hBP
  have HBQ := Lib.hid hBQ
  have HIN := Lib.hid h
  obtain ⟨_, p0, p1, p2⟩ := hBP
  obtain ⟨_, q0, q1⟩ := hBQ
  clear HCK
  have htx : (T.length : Int) ≤ 3 := by omega
  have HLY := Lib.hid (fun tz => show rwL c (r * c) S tz 16 [y] = rtL (stL c (r * c) S) tz 16 y by
    rw [rw_wy hs S tz y hy.1]; unfold wyL; rw [if_neg (by simpa using hy.2.2)])
  have HRW0 := Lib.hid (fun tz W (F : Fut w W) => rways_own r c _ hs a cap S h.sl tz 16 [y] (some ⟨W.heap.size, 0, none⟩) 1 (W.alloc (.cells #[.int .i64 y] 3)) (by simp) (by simp)
      hy.1 hy.2.1 (by have := (side_m hs).2; have := hy.1; show r * c - nth [y] 0 ≤ _; simp [nth]; omega)
      (World.ownsRow_lit (base := 0) (e := 3) (size := 1) W #[.int .i64 y] 1 (Nat.zero_le _) (by unfold maxLen; omega) rfl) ((h.s.fut F).fut (Fut.alloc _ _)))
  have HLE := Lib.hid (fun k => fyF_le c (r * c) S y (T.take k) [])
  have HSH := Lib.hid (fun k => fyF_short c (r * c) S y (T.take k))
  have HRL := Lib.hid (fun tz => rtL_le c (r * c) S tz 16 y)
  have HRS := Lib.hid (fun tz => rtL_short c (r * c) S tz 16 y)
  have HFY := Lib.hid (fun k hk => fyF_take (stL c (r * c) S) y T k hk)
  have HEND : Hid (fyL (stL c (r * c) S) T y = fyF (stL c (r * c) S) y (T.take T.length) []) := Lib.hid (by rw [List.take_length]; rfl)
  generalize fyL (stL c (r * c) S) T y = FY at *
  have HT3 := Lib.hid (And.intro ht1 ht3)
  generalize stL c (r * c) S = st at *
  obtain ⟨tb, to_, eta, _, _⟩ := HIN.out.t 0 (by omega)
  subst eta
  clear h hA hs hy ht1 ht3
  generalize r * c = m at *
  go_enter Try.func112, Try.ntmps112
  go_wp2_with fail
  generalize (w.alloc (.cells #[.int .i64 r, .int .i64 c, .slice a S.length cap] 29)).alloc (.cells #[.slice ya Y.length yc, .slice (some ⟨tb, to_, none⟩) T.length tc] 30) = W1 at *
  go_loopw [7, 8, 9, 10, 11, 12] (fun ov kv _ _ _ _ wr => ∃ k : Nat, k ≤ T.length ∧ kv = .int .i64 k ∧ Hid (OwnX wr 0 ov (fyF st y (T.take k) [])) ∧ Hid (Fut W1 wr)) (fun _ kv _ _ _ _ _ => T.length - (intOf kv).toNat)
  case atStart => exact ⟨0, Nat.zero_le _, rfl, Lib.hid (OwnX.nil _ _), Lib.hid Fut.rfl⟩
  case round =>
    obtain ⟨k, hk, rfl, HX, HFX⟩ := hrel
    obtain ⟨wo, hwo⟩ : ∃ wo, wo = wr := ⟨_, rfl⟩
    subst hwo
    have HPX := Lib.hid (HBP.out.fut HFX.out)
    have HQX := Lib.hid (HBQ.out.fut HFX.out)
    clear p0 p1 p2 q0 q1
    obtain ⟨_, p0, p1, p2⟩ := HPX.out
    obtain ⟨_, q0, q1⟩ := HQX.out
    by_cases hlt : k < T.length
    · have hkx : (k : Int) < T.length := by omega
      have HRW := Lib.hid (fun W F => HRW0.out (nth T k) W (HA.out.trans (HFX.out.trans F)))
      have HLk := Lib.hid (HLY.out (nth T k))
      rw [HLk.out] at HRW
      have HFk := Lib.hid (HFY.out k hlt)
      have HRLk := Lib.hid (HRL.out (nth T k))
      have HRSk := Lib.hid (HRS.out (nth T k))
      have HSHk := Lib.hid (HSH.out k)
      have HLEk := Lib.hid (HLE.out (k + 1))
      rw [HFk.out] at HLEk
      have HT4 : Hid ((T.take (k + 1)).length ≤ 3) := Lib.hid (by rw [List.length_take]; have := HT3.out; omega)
      have ct := ints_cell ((HIN.out.t.fut HA.out).fut HFX.out) hlt
      generalize nth T k = tz at *
      generalize rtL st tz 16 y = R at *
      generalize hacc : fyF st y (T.take k) [] = acc at *
      clear hacc
      have keepI : ∀ W', Fut wo W' → (fun w' => (BoxP w' w.heap.size r c a S.length cap ∧ BoxQ w' (w.heap.size + 1) ya Y.length yc (some ⟨tb, to_, none⟩) T.length tc) ∧ w'.cell? ⟨tb, to_ + k, none⟩ = some (.int .i64 tz)) W' := fun W' F => ⟨⟨HPX.out.fut F, HQX.out.fut F⟩, (RowKit.Below.cell F (p := ⟨tb, to_ + k, none⟩) ct.1).trans ct.2⟩
      go_upto_region 5 with fail
      have FD : Fut wo wo.drew := below_drewN Fut.rfl 1
      have HFU := Lib.hid FD
      have HFX0 := Lib.hid (HFX.out.trans FD)
      have HX0 := Lib.hid (HX.out.fut FD)
      have keep5 : ∀ W', Fut wo.drew W' → (fun w' => (BoxP w' w.heap.size r c a S.length cap ∧ BoxQ w' (w.heap.size + 1) ya Y.length yc (some ⟨tb, to_, none⟩) T.length tc) ∧ w'.cell? ⟨tb, to_ + k, none⟩ = some (.int .i64 tz)) W' := fun W' F => keepI W' (FD.trans F)
      clear p0 p1 p2 q0 q1 ct FD
      refine wp_region_held_drew (S := (fun w' => (BoxP w' w.heap.size r c a S.length cap ∧ BoxQ w' (w.heap.size + 1) ya Y.length yc (some ⟨tb, to_, none⟩) T.length tc) ∧ w'.cell? ⟨tb, to_ + k, none⟩ = some (.int .i64 tz))) (by kernel_rfl) ?_ (fun hHeld => ?_)
      · exact keep5 _ Fut.rfl
      generalize wo.drew = u0 at *
      refine wpAnyH_take (i := 0) (oi := { dst := some 20, op := Op.load 29 (Operand.tmp 3), type := 29, pos := "ref.go:204", after := #[], guard := none }) (v := ?_) rfl (by kernel_rfl) (by kernel_rfl) (by kernel_rfl) (fun _ _ _ h => h) (Or.inl ⟨by rfl, ?_⟩) (by assumption) ?_
      rotate_left
      · (intro w hSw; obtain ⟨⟨⟨_, s0, s1, s2⟩, ⟨_, s3, s4⟩⟩, s5⟩ := hSw; go_simp <;> with_reducible rfl)
      try simp only [Act.put, List.setIfInBounds_toArray, List.set_cons_zero, List.set_cons_succ]
      refine wpAnyH_take (i := 1) (oi := { dst := some 21, op := Op.move (Operand.tmp 2), type := 3, pos := "ref.go:204", after := #[], guard := none }) (v := ?_) rfl (by kernel_rfl) (by kernel_rfl) (by kernel_rfl) (fun _ _ _ h => h) (Or.inl ⟨by rfl, ?_⟩) (by assumption) ?_
      rotate_left
      · (intro w hSw; obtain ⟨⟨⟨_, s0, s1, s2⟩, ⟨_, s3, s4⟩⟩, s5⟩ := hSw; go_simp <;> with_reducible rfl)
      try simp only [Act.put, List.setIfInBounds_toArray, List.set_cons_zero, List.set_cons_succ]
      refine wpAnyH_take (i := 3) (oi := { dst := some 23, op := Op.fieldAddr 30 (Operand.tmp 4) 1, type := 0, pos := "ref.go:204", after := #[], guard := none }) (v := ?_) rfl (by kernel_rfl) (by kernel_rfl) (by kernel_rfl) (fun _ _ _ h => h) (Or.inl ⟨by rfl, ?_⟩) (by assumption) ?_
      rotate_left
      · (intro w hSw; obtain ⟨⟨⟨_, s0, s1, s2⟩, ⟨_, s3, s4⟩⟩, s5⟩ := hSw; go_simp <;> with_reducible rfl)
      try simp only [Act.put, List.setIfInBounds_toArray, List.set_cons_zero, List.set_cons_succ]
      refine wpAnyH_take (i := 4) (oi := { dst := some 24, op := Op.load 22 (Operand.tmp 23), type := 22, pos := "ref.go:204", after := #[{ on := 3, ground := Ground.data }], guard := none }) (v := ?_) rfl (by kernel_rfl) (by kernel_rfl) (by kernel_rfl) (fun _ _ _ h => h) (Or.inl ⟨by rfl, ?_⟩) (by assumption) ?_
      rotate_left
      · (intro w hSw; obtain ⟨⟨⟨_, s0, s1, s2⟩, ⟨_, s3, s4⟩⟩, s5⟩ := hSw; go_simp <;> with_reducible rfl)
      try simp only [Act.put, List.setIfInBounds_toArray, List.set_cons_zero, List.set_cons_succ]
      refine wpAnyH_take (i := 5) (oi := { dst := some 25, op := Op.move (Operand.tmp 8), type := 3, pos := "ref.go:204", after := #[], guard := none }) (v := ?_) rfl (by kernel_rfl) (by kernel_rfl) (by kernel_rfl) (fun _ _ _ h => h) (Or.inl ⟨by rfl, ?_⟩) (by assumption) ?_
      rotate_left
      · (intro w hSw; obtain ⟨⟨⟨_, s0, s1, s2⟩, ⟨_, s3, s4⟩⟩, s5⟩ := hSw; go_simp <;> with_reducible rfl)
      try simp only [Act.put, List.setIfInBounds_toArray, List.set_cons_zero, List.set_cons_succ]
      refine wpAnyH_take (i := 6) (oi := { dst := some 26, op := Op.indexAddr 22 (Operand.tmp 24) (Operand.tmp 25), type := 0, pos := "ref.go:204", after := #[{ on := 4, ground := Ground.data }, { on := 5, ground := Ground.data }], guard := none }) (v := ?_) rfl (by kernel_rfl) (by kernel_rfl) (by kernel_rfl) (fun _ _ _ h => h) (Or.inl ⟨by rfl, ?_⟩) (by assumption) ?_
      rotate_left
      · (intro w hSw; obtain ⟨⟨⟨_, s0, s1, s2⟩, ⟨_, s3, s4⟩⟩, s5⟩ := hSw; go_simp <;> with_reducible rfl)
      try simp only [Act.put, List.setIfInBounds_toArray, List.set_cons_zero, List.set_cons_succ]
      refine wpAnyH_take (i := 7) (oi := { dst := some 27, op := Op.load 3 (Operand.tmp 26), type := 3, pos := "ref.go:204", after := #[{ on := 6, ground := Ground.data }], guard := none }) (v := ?_) rfl (by kernel_rfl) (by kernel_rfl) (by kernel_rfl) (fun _ _ _ h => h) (Or.inl ⟨by rfl, ?_⟩) (by assumption) ?_
      rotate_left
      · (intro w hSw; obtain ⟨⟨⟨_, s0, s1, s2⟩, ⟨_, s3, s4⟩⟩, s5⟩ := hSw; go_simp <;> with_reducible rfl)
      try simp only [Act.put, List.setIfInBounds_toArray, List.set_cons_zero, List.set_cons_succ]
      refine wpAnyH_ready (rs := [2]) (by kernel_rfl) (by simp) ?_
      refine AllReadyH.cons (o := { dst := some 22, op := Op.buildSlice 22 1 #[(0, Operand.tmp 21)], type := 22, pos := "ref.go:204", after := #[{ on := 1, ground := Ground.data }], guard := none }) rfl (fun K hK => ?_) AllReadyH.nil
      go_simp
      refine hK.out _ _ ?_ (fun hHeld => ?_)
      · exact keep5 _ (Fut.alloc u0 (.cells #[.int .i64 y] 3))
      clear hK K
      try simp only [Act.put, List.setIfInBounds_toArray, List.set_cons_zero, List.set_cons_succ]
      refine wpAnyH_ready (rs := [8]) (by kernel_rfl) (by simp) ?_
      refine AllReadyH.cons (o := { dst := some 28, op := Op.call { callee := Callee.value (Operand.func 72), args := #[Operand.tmp 20, Operand.tmp 22, Operand.tmp 27], argTypes := #[29, 22, 3] }, type := 35, pos := "ref.go:204", after := #[{ on := 0, ground := Ground.data }, { on := 2, ground := Ground.data }, { on := 7, ground := Ground.data }], guard := none }) rfl (fun K hK => ?_) AllReadyH.nil
      go_simp
      go_at_call 72
      refine (HRW.out u0 HFU.out).mono ?_
      rintro _ w5 ⟨v5, rfl, hX5, F5⟩
      have HF5 : Hid (Fut u0 w5) := Lib.hid ((Fut.alloc u0 (.cells #[.int .i64 y] 3)).trans F5)
      have HX5 := Lib.hid hX5
      clear hX5 F5
      try go_wp2_with fail
      refine hK.out _ _ ?_ (fun hHeld => ?_)
      · exact keep5 _ HF5.out
      clear hK K
      try simp only [Act.put, List.setIfInBounds_toArray, List.set_cons_zero, List.set_cons_succ]
      refine wpAnyH_ready (rs := [9]) (by kernel_rfl) (by simp) ?_
      refine AllReadyH.cons (o := { dst := some 9, op := Op.assign (Operand.tmp 28), type := 35, pos := "ref.go:204", after := #[{ on := 8, ground := Ground.data }, { on := 8, ground := Ground.chain }, { on := 0, ground := Ground.phase }, { on := 1, ground := Ground.phase }, { on := 2, ground := Ground.phase }, { on := 3, ground := Ground.phase }, { on := 4, ground := Ground.phase }, { on := 5, ground := Ground.phase }, { on := 6, ground := Ground.phase }, { on := 7, ground := Ground.phase }, { on := 8, ground := Ground.phase }], guard := none }) rfl (fun K hK => ?_) AllReadyH.nil
      go_simp
      refine hK.out _ _ ?_ (fun hHeld => ?_)
      · exact keep5 _ HF5.out
      clear hK K
      try simp only [Act.put, List.setIfInBounds_toArray, List.set_cons_zero, List.set_cons_succ]
      refine wpAnyH_done (by kernel_rfl) ?_ _
      have HX5b := Lib.hid (HX0.out.fut HF5.out)
      obtain ⟨rvals, hrel5, hrc5⟩ := HX5.out.vals
      have HFW5 := Lib.hid (HFX0.out.trans HF5.out)
      have hX00 : OwnX w5 0 u7 (insL acc (R.take 0)) := by rw [List.take_zero]; exact HX5b.out
      have HX00 := Lib.hid hX00
      clear hX00 HX5b HX5 HX0 HFX0 HRW
      rcases hrc5 with ⟨rfl, rfl, _⟩ | ⟨rg, rc, rfl, hrl1, hrl2, hcells⟩
      · go_wp2_with fail
        go_loopw [7, 10, 11, 12] (fun ov iv _ _ wx => ∃ i : Nat, i ≤ ([] : List (List Int)).length ∧ iv = .int .i64 i ∧ Hid (OwnX wx 0 ov (insL acc (([] : List (List Int)).take i))) ∧ Hid (Fut w5 wx)) (fun _ _ _ _ _ => 0)
        case atStart => exact ⟨0, Nat.zero_le _, rfl, HX00, Lib.hid Fut.rfl⟩
        case round =>
          obtain ⟨i, hi, rfl, HX6, HF6⟩ := hrel
          obtain rfl : i = 0 := by simpa using hi
          have HF9 := Lib.hid (HFW5.out.trans HF6.out)
          have HXn : Hid (OwnX wr 0 u7 (fyF st y (T.take (k + 1)) [])) := Lib.hid (by rw [HFk.out]; exact HX6.out)
          go_wp2
          go_round
          case rel => exact ⟨k + 1, by omega, by go_num, HXn, HF9⟩
          case measure => simp [intOf]; omega
      · have HREL := Lib.hid hrel5
        have HRC := Lib.hid hcells
        have hRx : (R.length : Int) ≤ 200000 := by have := HRLk.out; omega
        clear hrel5 hcells hrl1 hrl2
        go_wp2_with fail
        go_loopw [7, 10, 11, 12] (fun ov iv _ _ wx => ∃ i : Nat, i ≤ R.length ∧ iv = .int .i64 i ∧ Hid (OwnX wx 0 ov (insL acc (R.take i))) ∧ Hid (Fut w5 wx)) (fun _ iv _ _ _ => R.length - (intOf iv).toNat)
        case atStart => exact ⟨0, Nat.zero_le _, rfl, HX00, Lib.hid Fut.rfl⟩
        case round =>
          obtain ⟨i, hi, rfl, HX6, HF6⟩ := hrel
          obtain ⟨w6, hw6⟩ : ∃ w6, w6 = wr := ⟨_, rfl⟩
          subst hw6
          by_cases hil : i < R.length
          · have hix : (i : Int) < R.length := by omega
            obtain ⟨vi, hvi, hOi⟩ := HREL.out.2 i hil
            obtain ⟨rl, rlc, rfl, hIi⟩ := hOi.ints
            have cI0 := HRC.out i _ hvi
            have HCI : Hid (rg < w6.heap.size ∧ w6.cell? ⟨rg, i, none⟩ = some (.slice rl (lth R i).length rlc)) := Lib.hid ⟨Nat.lt_of_lt_of_le (World.block_lt_of_cell? _ _ cI0) (RowKit.Below.size HF6.out), (RowKit.Below.cell HF6.out (p := ⟨rg, i, none⟩) (World.block_lt_of_cell? _ _ cI0)).trans cI0⟩
            have HVI := Lib.hid (hOi.fut HF6.out)
            have HIR := Lib.hid (hIi.fut HF6.out)
            have HRI : Hid ((lth R i).length ≤ 1000) := Lib.hid (Nat.le_trans (HRSk.out _ (lth_mem' hil)) (by omega))
            have HIN2 := Lib.hid (insL_take acc R i hil)
            have HBD : Hid ((insL acc (R.take i)).length + 1 ≤ 200000) := Lib.hid (by
              have h1 := HLEk.out
              have h2 := HT4.out
              rw [insL_len] at h1 ⊢
              rw [List.length_take]
              simp at h1
              omega)
            have HLSH : Hid (∀ z ∈ insL acc (R.take i), z.length ≤ 16) := Lib.hid (fun z hz => by
              rcases mem_insL_take _ _ _ hz with q | q
              · exact HRSk.out z q
              · exact HSHk.out z q)
            clear hIi hOi cI0 hvi
            obtain ⟨ovals, hel6, hoc6⟩ := HX6.out.vals
            generalize hL : insL acc (R.take i) = L at *
            clear hL
            have HOE := Lib.hid hel6
            clear hel6
            rcases hoc6 with ⟨rfl, hLn, hvn⟩ | ⟨og, oc, rfl, hol1, hol2, hoc6⟩
            · subst hvn
              have HLN := Lib.hid hLn
              clear hLn
              go_upto_block 4 with fail
              go_cut [11] from 35 to 52 (fun s11 wx => s11 = .int .i64 (0 : Nat) ∧ Hid (Fut w6 wx))
              case first =>
                go_wp2_with fail
                go_loopw [11] (fun av wx => av = .int .i64 (0 : Nat) ∧ Hid (Fut w6 wx)) (fun _ _ => 0)
                case atStart => exact ⟨rfl, Lib.hid Fut.rfl⟩
                case round =>
                  obtain ⟨rfl, HF0⟩ := hrel
                  go_upto_region 10 with fail
                  go_quiet (fail)
                  have HF1 := Lib.hid (HF0.out.trans (Fut.drewN wr nq))
                  generalize wr.drewN nq = wq at *
                  go_wp2_with fail
                  go_meet
                  exact ⟨rfl, HF1⟩
              case rest =>
                obtain ⟨rfl, HF7⟩ := hcut
                obtain ⟨w7, hw7⟩ : ∃ w7, w7 = wc := ⟨_, rfl⟩
                subst hw7
                have HAT : Hid ((0 : Nat) ≤ L.length ∧ (∀ j, j < 0 → lsB (lth L j) (lth R i) = true) ∧ (0 < L.length → lsB (lth L 0) (lth R i) = false)) := Lib.hid ⟨Nat.zero_le _, fun j hj => absurd hj (Nat.not_lt_zero j), fun h => by rw [HLN.out] at h; simp at h⟩
                have hc1 := slice_toN
                have hc2 := slice_fromN
                have hs1 : SrcL w6 (.slice none 0 0) 0 [] := .inl ⟨rfl, rfl, rfl⟩
                have hs2 : SrcL w6 (.slice none 0 0) 0 [] := .inl ⟨rfl, rfl, rfl⟩
                have HS1 := Lib.hid (hs1.fut (HF7.out.trans (Fut.alloc w7 (.cells #[] 22))))
                have HS2 := Lib.hid (hs2.fut HF7.out)
                clear hs1 hs2
                have HR0 : Hid ((w7.alloc (.cells #[] 22)).ownsRow w7.heap.size 22 1 (.slice (some ⟨w7.heap.size, 0, none⟩) 0 0) 0 []) := Lib.hid (World.ownsRow_lit (base := w7.heap.size) (e := 22) (size := 1) w7 #[] 0 (Nat.le_refl _) (by unfold maxLen; omega) rfl)
                have FA := Fut.alloc w7 (.cells #[] 22)
                go_wp2_with (at_builtin; refine wpList_append_src rfl _ _ 35 rfl w7.heap.size 22 i1 (.slice none 0 0) 24 Try.underlying35 hi1 hy0 hy1 hy2 rfl _ 0 [] rfl HR0.out _ 0 [] rfl HS1.out (by have := HBD.out; unfold maxLen; omega) (by have := HBD.out; omega) (RowKit.Below.size FA) ?_)
                intro av8 ac8 w8 hown8 hgr8
                have F8 : Fut w7 w8 := RowKit.Below.grown FA hgr8 (RowKit.Below.size FA) fun q hq => (World.ownsRow.lt HR0.out q hq).1
                have HO8 := Lib.hid hown8
                have HF8 := Lib.hid F8
                have c8 := (RowKit.Below.cell (HF7.out.trans F8) (p := ⟨rg, i, none⟩) HCI.out.1).trans HCI.out.2
                have FA9 := F8.trans (Fut.alloc w8 (.cells #[.slice rl (lth R i).length rlc] 22))
                have HR9 : Hid ((w8.alloc (.cells #[.slice rl (lth R i).length rlc] 22)).ownsRow w7.heap.size 22 1 (.slice av8 0 ac8) 0 []) := Lib.hid (World.ownsRow.alloc hown8 _)
                have HFA9 := Lib.hid FA9
                clear hown8 hgr8 F8 FA FA9 HR0 HS1
                go_wp2_with (at_builtin; refine wpList_append_src rfl _ _ 35 rfl w7.heap.size 22 i1 (.slice none 0 0) 24 Try.underlying35 hi1 hy0 hy1 hy2 rfl (.slice av8 0 ac8) 0 [] rfl HR9.out _ 1 [.slice rl (lth R i).length rlc] rfl (.inr ⟨⟨w8.heap.size, 0, none⟩, 1, rfl, rfl, cell_one (by simp [go_sem]), by simp [Value.oneCell']⟩) (by have := HBD.out; have := HAT.out.1; unfold maxLen; omega) (by have := HBD.out; have := HAT.out.1; omega) (RowKit.Below.size HFA9.out) ?_)
                intro av9 ac9 w9 hown9 hgr9
                have F9 : Fut w7 w9 := RowKit.Below.grown HFA9.out hgr9 (RowKit.Below.size HFA9.out) fun q hq => (World.ownsRow.lt HR9.out q hq).1
                have HO9 := Lib.hid hown9
                have HF9 := Lib.hid F9
                have HS3 := Lib.hid (HS2.out.fut F9)
                clear hown9 hgr9 F9 c8 HR9 HFA9 HF8 HO8
                go_wp2_with (at_builtin; refine wpList_append_src rfl _ _ 35 rfl w7.heap.size 22 i1 (.slice none 0 0) 24 Try.underlying35 hi1 hy0 hy1 hy2 rfl (.slice av9 (0 + 1) ac9) (0 + 1) ([] ++ [.slice rl (lth R i).length rlc]) rfl HO9.out _ 0 [] rfl HS3.out (by have := HBD.out; have := HAT.out.1; unfold maxLen; omega) (by have := HBD.out; have := HAT.out.1; omega) (RowKit.Below.size HF9.out) ?_)
                intro av10 ac10 w10 hown10 hgr10
                have F10 : Fut w7 w10 := RowKit.Below.grown HF9.out hgr10 (RowKit.Below.size HF9.out) fun q hq => (World.ownsRow.lt HO9.out q hq).1
                have hX10 : OwnX w10 0 (.slice av10 (0 + 1 + 0) ac10) (insL acc (R.take (i + 1))) := by
                  have e1 : insL acc (R.take (i + 1)) = L.take 0 ++ lth R i :: L.drop 0 := by rw [HIN2.out]; exact insW_at _ L 0 HAT.out.1 HAT.out.2.1 HAT.out.2.2
                  have hE := (HOE.out.fut (HF7.out.trans F10)).ins (v := .slice rl (lth R i).length rlc) (x := lth R i) (HVI.out.fut (HF7.out.trans F10)) 0 HAT.out.1
                  rw [← e1] at hE
                  have hl : (insL acc (R.take (i + 1))).length = 0 + 1 + 0 := by
                    rw [e1]
                    rw [HLN.out]; rfl
                  refine ⟨_, ?_, hE⟩
                  rw [hl]
                  have := row_base hown10 (Nat.zero_le w7.heap.size)
                  simpa using this
                have HX10 := Lib.hid hX10
                have HF10 := Lib.hid (HF6.out.trans (HF7.out.trans F10))
                clear hown10 hgr10 F10 hX10 HS3 HS2 HO9 HF9
                go_wp2
                go_round
                case rel => exact ⟨i + 1, by omega, by go_num, HX10, HF10⟩
                case measure => simp [intOf]; omega
            · have HOC := Lib.hid hoc6
              have HOL := Lib.hid hol1
              have hlx : (L.length : Int) ≤ 200000 := by have := HBD.out; omega
              clear hoc6 hol1 hol2
              have HLT : Hid (∀ j, j < L.length → ∃ ol olc, w6.cell? ⟨og, j, none⟩ = some (.slice ol (lth L j).length olc) ∧ IntsAt w6 ol (lth L j)) := Lib.hid (fun j hj => by
                obtain ⟨u, e, hu⟩ := HOE.out.2 j hj
                obtain ⟨ol, olc, rfl, hI⟩ := hu.ints
                exact ⟨ol, olc, HOC.out j _ e, hI⟩)
              go_upto_block 4 with fail
              go_cut [11] from 35 to 52 (fun s11 wx => ∃ at_ : Nat, at_ ≤ L.length ∧ s11 = .int .i64 at_ ∧ (∀ j, j < at_ → lsB (lth L j) (lth R i) = true) ∧ (at_ < L.length → lsB (lth L at_) (lth R i) = false) ∧ Hid (Fut w6 wx))
              case first =>
                go_wp2_with fail
                go_loopw [11] (fun av wx => ∃ at_ : Nat, at_ ≤ L.length ∧ av = .int .i64 at_ ∧ Hid (∀ j, j < at_ → lsB (lth L j) (lth R i) = true) ∧ Hid (Fut w6 wx)) (fun av _ => L.length - (intOf av).toNat)
                case atStart => exact ⟨0, Nat.zero_le _, rfl, Lib.hid (fun j hj => absurd hj (Nat.not_lt_zero j)), Lib.hid Fut.rfl⟩
                case round =>
                  obtain ⟨at_, hat, rfl, HLJ, HF0⟩ := hrel
                  obtain ⟨ws, hws⟩ : ∃ ws, ws = wr := ⟨_, rfl⟩
                  subst hws
                  by_cases hal : at_ < L.length
                  · have halx : (at_ : Int) < L.length := by omega
                    obtain ⟨ol, olc, co, hIo⟩ := HLT.out at_ hal
                    have hll : (lth L at_).length ≤ 1000 := Nat.le_trans (HLSH.out _ (lth_mem' hal)) (by omega)
                    have hlr : (lth R i).length ≤ 1000 := HRI.out
                    have FD : Fut ws ws.drew := below_drewN Fut.rfl 1
                    have HLS := Lib.hid (fun W F => less_any ol rl olc rlc (lth L at_) (lth R i) W (hIo.fut F) (HIR.out.fut F) hll hlr)
                    have co6 := (World.block_lt_of_cell? _ _ co)
                    have keep10 : ∀ W', Fut w6 W' → (fun w' => w'.cell? ⟨og, at_, none⟩ = some (.slice ol (lth L at_).length olc) ∧ w'.cell? ⟨rg, i, none⟩ = some (.slice rl (lth R i).length rlc)) W' := fun W' F => ⟨(RowKit.Below.cell F co6).trans co, (RowKit.Below.cell F (p := ⟨rg, i, none⟩) HCI.out.1).trans HCI.out.2⟩
                    clear hIo hll hlr
                    go_upto_region 10 with fail
                    have HF0 := Lib.hid (HF0.out.trans FD)
                    clear FD
                    refine wp_region_held_drew (S := (fun w' => w'.cell? ⟨og, at_, none⟩ = some (.slice ol (lth L at_).length olc) ∧ w'.cell? ⟨rg, i, none⟩ = some (.slice rl (lth R i).length rlc))) (by kernel_rfl) ?_ (fun hHeld => ?_)
                    · exact keep10 _ HF0.out
                    generalize ws.drew = u0 at *
                    refine wpAnyH_take (i := 0) (oi := { dst := some 35, op := Op.move (Operand.tmp 11), type := 3, pos := "ref.go:207", after := #[], guard := none }) (v := ?_) rfl (by kernel_rfl) (by kernel_rfl) (by kernel_rfl) (fun _ _ _ h => h) (Or.inl ⟨by rfl, ?_⟩) (by assumption) ?_
                    rotate_left
                    · (intro w hSw; obtain ⟨s0, s1⟩ := hSw; go_simp <;> with_reducible rfl)
                    try simp only [Act.put, List.setIfInBounds_toArray, List.set_cons_zero, List.set_cons_succ]
                    refine wpAnyH_take (i := 1) (oi := { dst := some 36, op := Op.move (Operand.tmp 7), type := 35, pos := "ref.go:207", after := #[], guard := none }) (v := ?_) rfl (by kernel_rfl) (by kernel_rfl) (by kernel_rfl) (fun _ _ _ h => h) (Or.inl ⟨by rfl, ?_⟩) (by assumption) ?_
                    rotate_left
                    · (intro w hSw; obtain ⟨s0, s1⟩ := hSw; go_simp <;> with_reducible rfl)
                    try simp only [Act.put, List.setIfInBounds_toArray, List.set_cons_zero, List.set_cons_succ]
                    refine wpAnyH_take (i := 2) (oi := { dst := some 37, op := Op.call { callee := Callee.builtin Builtin.len, args := #[Operand.tmp 36], argTypes := #[35] }, type := 3, pos := "ref.go:207", after := #[{ on := 1, ground := Ground.data }], guard := none }) (v := ?_) rfl (by kernel_rfl) (by kernel_rfl) (by kernel_rfl) (fun _ _ _ h => h) (Or.inl ⟨by rfl, ?_⟩) (by assumption) ?_
                    rotate_left
                    · (intro w hSw; obtain ⟨s0, s1⟩ := hSw; go_simp <;> with_reducible rfl)
                    try simp only [Act.put, List.setIfInBounds_toArray, List.set_cons_zero, List.set_cons_succ]
                    refine wpAnyH_take (i := 3) (oi := { dst := some 38, op := Op.binOp BinOp.lss 3 (Operand.tmp 35) (Operand.tmp 37) 3, type := 4, pos := "ref.go:207", after := #[{ on := 0, ground := Ground.data }, { on := 2, ground := Ground.data }], guard := none }) (v := ?_) rfl (by kernel_rfl) (by kernel_rfl) (by kernel_rfl) (fun _ _ _ h => h) (Or.inl ⟨by rfl, ?_⟩) (by assumption) ?_
                    rotate_left
                    · (intro w hSw; obtain ⟨s0, s1⟩ := hSw; go_simp <;> with_reducible rfl)
                    try simp only [Act.put, List.setIfInBounds_toArray, List.set_cons_zero, List.set_cons_succ]
                    refine wpAnyH_take (i := 4) (oi := { dst := some 39, op := Op.move (Operand.tmp 38), type := 4, pos := "ref.go:207", after := #[{ on := 3, ground := Ground.data }], guard := none }) (v := ?_) rfl (by kernel_rfl) (by kernel_rfl) (by kernel_rfl) (fun _ _ _ h => h) (Or.inl ⟨by rfl, ?_⟩) (by assumption) ?_
                    rotate_left
                    · (intro w hSw; obtain ⟨s0, s1⟩ := hSw; go_simp <;> with_reducible rfl)
                    try simp only [Act.put, List.setIfInBounds_toArray, List.set_cons_zero, List.set_cons_succ]
                    refine wpAnyH_take (i := 5) (oi := { dst := some 40, op := Op.move (Operand.tmp 7), type := 35, pos := "ref.go:207", after := #[{ on := 4, ground := Ground.guard }], guard := some (4, true) }) (v := ?_) rfl (by kernel_rfl) (by kernel_rfl) (by kernel_rfl) (fun _ _ _ h => h) (Or.inl ⟨by rfl, ?_⟩) (by assumption) ?_
                    rotate_left
                    · (intro w hSw; obtain ⟨s0, s1⟩ := hSw; go_simp <;> with_reducible rfl)
                    try simp only [Act.put, List.setIfInBounds_toArray, List.set_cons_zero, List.set_cons_succ]
                    refine wpAnyH_take (i := 6) (oi := { dst := some 41, op := Op.move (Operand.tmp 11), type := 3, pos := "ref.go:207", after := #[{ on := 4, ground := Ground.guard }], guard := some (4, true) }) (v := ?_) rfl (by kernel_rfl) (by kernel_rfl) (by kernel_rfl) (fun _ _ _ h => h) (Or.inl ⟨by rfl, ?_⟩) (by assumption) ?_
                    rotate_left
                    · (intro w hSw; obtain ⟨s0, s1⟩ := hSw; go_simp <;> with_reducible rfl)
                    try simp only [Act.put, List.setIfInBounds_toArray, List.set_cons_zero, List.set_cons_succ]
                    refine wpAnyH_take (i := 7) (oi := { dst := some 42, op := Op.indexAddr 35 (Operand.tmp 40) (Operand.tmp 41), type := 0, pos := "ref.go:207", after := #[{ on := 5, ground := Ground.data }, { on := 6, ground := Ground.data }, { on := 4, ground := Ground.guard }], guard := some (4, true) }) (v := ?_) rfl (by kernel_rfl) (by kernel_rfl) (by kernel_rfl) (fun _ _ _ h => h) (Or.inl ⟨by rfl, ?_⟩) (by assumption) ?_
                    rotate_left
                    · (intro w hSw; obtain ⟨s0, s1⟩ := hSw; go_simp <;> with_reducible rfl)
                    try simp only [Act.put, List.setIfInBounds_toArray, List.set_cons_zero, List.set_cons_succ]
                    refine wpAnyH_take (i := 8) (oi := { dst := some 43, op := Op.load 22 (Operand.tmp 42), type := 22, pos := "ref.go:207", after := #[{ on := 7, ground := Ground.data }, { on := 4, ground := Ground.guard }], guard := some (4, true) }) (v := ?_) rfl (by kernel_rfl) (by kernel_rfl) (by kernel_rfl) (fun _ _ _ h => h) (Or.inl ⟨by rfl, ?_⟩) (by assumption) ?_
                    rotate_left
                    · (intro w hSw; obtain ⟨s0, s1⟩ := hSw; go_simp <;> with_reducible rfl)
                    try simp only [Act.put, List.setIfInBounds_toArray, List.set_cons_zero, List.set_cons_succ]
                    refine wpAnyH_take (i := 9) (oi := { dst := some 44, op := Op.move (Operand.tmp 9), type := 35, pos := "ref.go:207", after := #[{ on := 4, ground := Ground.guard }], guard := some (4, true) }) (v := ?_) rfl (by kernel_rfl) (by kernel_rfl) (by kernel_rfl) (fun _ _ _ h => h) (Or.inl ⟨by rfl, ?_⟩) (by assumption) ?_
                    rotate_left
                    · (intro w hSw; obtain ⟨s0, s1⟩ := hSw; go_simp <;> with_reducible rfl)
                    try simp only [Act.put, List.setIfInBounds_toArray, List.set_cons_zero, List.set_cons_succ]
                    refine wpAnyH_take (i := 10) (oi := { dst := some 45, op := Op.move (Operand.tmp 10), type := 3, pos := "ref.go:207", after := #[{ on := 4, ground := Ground.guard }], guard := some (4, true) }) (v := ?_) rfl (by kernel_rfl) (by kernel_rfl) (by kernel_rfl) (fun _ _ _ h => h) (Or.inl ⟨by rfl, ?_⟩) (by assumption) ?_
                    rotate_left
                    · (intro w hSw; obtain ⟨s0, s1⟩ := hSw; go_simp <;> with_reducible rfl)
                    try simp only [Act.put, List.setIfInBounds_toArray, List.set_cons_zero, List.set_cons_succ]
                    refine wpAnyH_take (i := 11) (oi := { dst := some 46, op := Op.indexAddr 35 (Operand.tmp 44) (Operand.tmp 45), type := 0, pos := "ref.go:207", after := #[{ on := 9, ground := Ground.data }, { on := 10, ground := Ground.data }, { on := 4, ground := Ground.guard }], guard := some (4, true) }) (v := ?_) rfl (by kernel_rfl) (by kernel_rfl) (by kernel_rfl) (fun _ _ _ h => h) (Or.inl ⟨by rfl, ?_⟩) (by assumption) ?_
                    rotate_left
                    · (intro w hSw; obtain ⟨s0, s1⟩ := hSw; go_simp <;> with_reducible rfl)
                    try simp only [Act.put, List.setIfInBounds_toArray, List.set_cons_zero, List.set_cons_succ]
                    refine wpAnyH_take (i := 12) (oi := { dst := some 47, op := Op.load 22 (Operand.tmp 46), type := 22, pos := "ref.go:207", after := #[{ on := 11, ground := Ground.data }, { on := 4, ground := Ground.guard }], guard := some (4, true) }) (v := ?_) rfl (by kernel_rfl) (by kernel_rfl) (by kernel_rfl) (fun _ _ _ h => h) (Or.inl ⟨by rfl, ?_⟩) (by assumption) ?_
                    rotate_left
                    · (intro w hSw; obtain ⟨s0, s1⟩ := hSw; go_simp <;> with_reducible rfl)
                    try simp only [Act.put, List.setIfInBounds_toArray, List.set_cons_zero, List.set_cons_succ]
                    refine wpAnyH_ready (rs := [13]) (by kernel_rfl) (by simp) ?_
                    refine AllReadyH.cons (o := { dst := some 48, op := Op.call { callee := Callee.value (Operand.func 83), args := #[Operand.tmp 43, Operand.tmp 47], argTypes := #[22, 22] }, type := 4, pos := "ref.go:207", after := #[{ on := 8, ground := Ground.data }, { on := 12, ground := Ground.data }, { on := 4, ground := Ground.chain }, { on := 4, ground := Ground.guard }], guard := some (4, true) }) rfl (fun K hK => ?_) AllReadyH.nil
                    go_simp
                    go_at_call 83
                    refine (HLS.out u0 HF0.out).mono ?_
                    rintro _ w6 ⟨rfl, F6⟩
                    have HF6 := Lib.hid (HF0.out.trans F6)
                    clear F6
                    try go_wp2_with fail
                    refine hK.out _ _ ?_ (fun hHeld => ?_)
                    · exact keep10 _ HF6.out
                    clear hK K
                    try simp only [Act.put, List.setIfInBounds_toArray, List.set_cons_zero, List.set_cons_succ]
                    refine wpAnyH_take (i := 14) (oi := { dst := some 49, op := Op.pick (Operand.tmp 39) (Operand.tmp 48) (Operand.const (Value.bool false)), type := 4, pos := "ref.go:207", after := #[{ on := 4, ground := Ground.data }, { on := 13, ground := Ground.data }], guard := none }) (v := ?_) rfl (by kernel_rfl) (by kernel_rfl) (by kernel_rfl) (fun _ _ _ h => h) (Or.inl ⟨by rfl, ?_⟩) (by assumption) ?_
                    rotate_left
                    · (intro w hSw; obtain ⟨s0, s1⟩ := hSw; go_simp <;> with_reducible rfl)
                    try simp only [Act.put, List.setIfInBounds_toArray, List.set_cons_zero, List.set_cons_succ]
                    refine wpAnyH_done (by kernel_rfl) ?_ _
                    generalize hlb : lsB (lth L at_) (lth R i) = lb at *
                    cases lb
                    · go_wp2_with fail
                      go_meet
                      exact ⟨at_, by omega, rfl, HLJ.out, fun _ => hlb, HF6⟩
                    · go_wp2_with fail
                      go_round
                      case rel => exact ⟨at_ + 1, by omega, by go_num, Lib.hid (fun j hj => by
                        rcases Nat.lt_or_ge j at_ with q | q
                        · exact HLJ.out j q
                        · obtain rfl : j = at_ := by omega
                          exact hlb), HF6⟩
                      case measure => simp [intOf]; omega
                  · obtain rfl : L.length = at_ := by omega
                    go_upto_region 10 with fail
                    go_quiet (fail)
                    have HF1 := Lib.hid (HF0.out.trans (Fut.drewN ws nq))
                    generalize ws.drewN nq = wq at *
                    go_wp2_with fail
                    go_meet
                    exact ⟨L.length, Nat.le_refl _, rfl, HLJ.out, fun h => by omega, HF1⟩
              case rest =>
                obtain ⟨at_, hat, rfl, hj1, hj2, HF7⟩ := hcut
                obtain ⟨w7, hw7⟩ : ∃ w7, w7 = wc := ⟨_, rfl⟩
                subst hw7
                have HAT : Hid (at_ ≤ L.length ∧ (∀ j, j < at_ → lsB (lth L j) (lth R i) = true) ∧ (at_ < L.length → lsB (lth L at_) (lth R i) = false)) := Lib.hid ⟨hat, hj1, hj2⟩
                have hatx : (at_ : Int) ≤ L.length := by omega
                clear hj1 hj2 HLT
                obtain ⟨u1, hc1, hs1⟩ := cut_to HOE.out HOC.out HOL.out at_ HAT.out.1
                obtain ⟨u2, hc2, hs2⟩ := cut_from HOE.out HOC.out HOL.out at_ HAT.out.1
                have HS1 := Lib.hid (hs1.fut (HF7.out.trans (Fut.alloc w7 (.cells #[] 22))))
                have HS2 := Lib.hid (hs2.fut HF7.out)
                clear hs1 hs2
                have HR0 : Hid ((w7.alloc (.cells #[] 22)).ownsRow w7.heap.size 22 1 (.slice (some ⟨w7.heap.size, 0, none⟩) 0 0) 0 []) := Lib.hid (World.ownsRow_lit (base := w7.heap.size) (e := 22) (size := 1) w7 #[] 0 (Nat.le_refl _) (by unfold maxLen; omega) rfl)
                have FA := Fut.alloc w7 (.cells #[] 22)
                go_wp2_with (at_builtin; refine wpList_append_src rfl _ _ 35 rfl w7.heap.size 22 i1 (.slice none 0 0) 24 Try.underlying35 hi1 hy0 hy1 hy2 rfl _ 0 [] rfl HR0.out _ at_ (ovals.take at_) rfl HS1.out (by have := HBD.out; unfold maxLen; omega) (by have := HBD.out; omega) (RowKit.Below.size FA) ?_)
                intro av8 ac8 w8 hown8 hgr8
                have F8 : Fut w7 w8 := RowKit.Below.grown FA hgr8 (RowKit.Below.size FA) fun q hq => (World.ownsRow.lt HR0.out q hq).1
                have HO8 := Lib.hid hown8
                have HF8 := Lib.hid F8
                have c8 := (RowKit.Below.cell (HF7.out.trans F8) (p := ⟨rg, i, none⟩) HCI.out.1).trans HCI.out.2
                have FA9 := F8.trans (Fut.alloc w8 (.cells #[.slice rl (lth R i).length rlc] 22))
                have HR9 : Hid ((w8.alloc (.cells #[.slice rl (lth R i).length rlc] 22)).ownsRow w7.heap.size 22 1 (.slice av8 at_ ac8) at_ (ovals.take at_)) := Lib.hid (World.ownsRow.alloc hown8 _)
                have HFA9 := Lib.hid FA9
                clear hown8 hgr8 F8 FA FA9 HR0 HS1
                go_wp2_with (at_builtin; refine wpList_append_src rfl _ _ 35 rfl w7.heap.size 22 i1 (.slice none 0 0) 24 Try.underlying35 hi1 hy0 hy1 hy2 rfl (.slice av8 at_ ac8) at_ (ovals.take at_) rfl HR9.out _ 1 [.slice rl (lth R i).length rlc] rfl (.inr ⟨⟨w8.heap.size, 0, none⟩, 1, rfl, rfl, cell_one (by simp [go_sem]), by simp [Value.oneCell']⟩) (by have := HBD.out; have := HAT.out.1; unfold maxLen; omega) (by have := HBD.out; have := HAT.out.1; omega) (RowKit.Below.size HFA9.out) ?_)
                intro av9 ac9 w9 hown9 hgr9
                have F9 : Fut w7 w9 := RowKit.Below.grown HFA9.out hgr9 (RowKit.Below.size HFA9.out) fun q hq => (World.ownsRow.lt HR9.out q hq).1
                have HO9 := Lib.hid hown9
                have HF9 := Lib.hid F9
                have HS3 := Lib.hid (HS2.out.fut F9)
                clear hown9 hgr9 F9 c8 HR9 HFA9 HF8 HO8
                go_wp2_with (at_builtin; refine wpList_append_src rfl _ _ 35 rfl w7.heap.size 22 i1 (.slice none 0 0) 24 Try.underlying35 hi1 hy0 hy1 hy2 rfl (.slice av9 (at_ + 1) ac9) (at_ + 1) ((ovals.take at_) ++ [.slice rl (lth R i).length rlc]) rfl HO9.out _ (L.length - at_) (ovals.drop at_) rfl HS3.out (by have := HBD.out; have := HAT.out.1; unfold maxLen; omega) (by have := HBD.out; have := HAT.out.1; omega) (RowKit.Below.size HF9.out) ?_)
                intro av10 ac10 w10 hown10 hgr10
                have F10 : Fut w7 w10 := RowKit.Below.grown HF9.out hgr10 (RowKit.Below.size HF9.out) fun q hq => (World.ownsRow.lt HO9.out q hq).1
                have hX10 : OwnX w10 0 (.slice av10 (at_ + 1 + (L.length - at_)) ac10) (insL acc (R.take (i + 1))) := by
                  have e1 : insL acc (R.take (i + 1)) = L.take at_ ++ lth R i :: L.drop at_ := by rw [HIN2.out]; exact insW_at _ L at_ HAT.out.1 HAT.out.2.1 HAT.out.2.2
                  have hE := (HOE.out.fut (HF7.out.trans F10)).ins (v := .slice rl (lth R i).length rlc) (x := lth R i) (HVI.out.fut (HF7.out.trans F10)) at_ HAT.out.1
                  rw [← e1] at hE
                  have hl : (insL acc (R.take (i + 1))).length = at_ + 1 + (L.length - at_) := by
                    rw [e1]
                    have := HAT.out.1
                    simp; omega
                  refine ⟨_, ?_, hE⟩
                  rw [hl]
                  have := row_base hown10 (Nat.zero_le w7.heap.size)
                  simpa using this
                have HX10 := Lib.hid hX10
                have HF10 := Lib.hid (HF6.out.trans (HF7.out.trans F10))
                clear hown10 hgr10 F10 hX10 HS3 HS2 HO9 HF9
                go_wp2
                go_round
                case rel => exact ⟨i + 1, by omega, by go_num, HX10, HF10⟩
                case measure => simp [intOf]; omega
          · obtain rfl : R.length = i := by omega
            have HF9 := Lib.hid (HFW5.out.trans HF6.out)
            rw [List.take_length] at HX6
            have HXn : Hid (OwnX w6 0 u7 (fyF st y (T.take (k + 1)) [])) := Lib.hid (by rw [HFk.out]; exact HX6.out)
            go_wp2
            go_round
            case rel => exact ⟨k + 1, by omega, by go_num, HXn, HF9⟩
            case measure => simp [intOf]; omega
    · obtain rfl : T.length = k := by omega
      go_wp2
      go_ret
      exact ⟨_, rfl, by rw [HEND.out]; exact HX.out, HA.out.trans HFX.out⟩
end
end Go.Proofs.Ytflllkamdihfaaa
