/- Layer 2: how many sets of streets are enough in a drawn map. -/
import Derived.Test.YtimddkofcejijaaSE
namespace Go.Proofs.Ytimddkofcejijaa
open Go.RowKit Go.Sort
theorem bit_shr (s k : Nat) (hs : s < 65536) : (bits BinOp.and IntKind.u64 ((s : Int) / 2 ^ k) 1 == 1) = s.testBit k := by
  have e : (s : Int) / 2 ^ k = ((s / 2 ^ k : Nat) : Int) := by simp
  have h1 : s / 2 ^ k ≤ s := Nat.div_le_self _ _
  have e2 : bits BinOp.and IntKind.u64 ((s / 2 ^ k : Nat) : Int) ((1 : Nat) : Int) = ((s / 2 ^ k &&& 1 : Nat) : Int) := u64_and_nat _ _ (by omega) (by omega)
  rw [e]
  show (bits BinOp.and IntKind.u64 ((s / 2 ^ k : Nat) : Int) ((1 : Nat) : Int) == 1) = _
  rw [e2, Nat.and_one_is_mod, Nat.testBit_eq_decide_div_mod_eq]
  generalize s / 2 ^ k = q at *
  by_cases h : q % 2 = 1
  · rw [h]; rfl
  · have h' : q % 2 = 0 := by omega
    rw [h']; rfl
theorem two_xor {x y : Nat} (h : x ≠ y) : 2 ^ x ||| 2 ^ y = 2 ^ x ^^^ 2 ^ y := Nat.eq_of_testBit_eq fun i => by
  rw [Nat.testBit_or, Nat.testBit_xor, Nat.testBit_two_pow, Nat.testBit_two_pow]
  by_cases h1 : x = i <;> by_cases h2 : y = i <;> simp [h1, h2]
  omega
theorem every_any (c : Int) (a : Option Addr) (n cap : Nat) (w : World) (hl : n ≤ 15) : Calls Try.prog 40 #[mapV c a n cap] w fun e w' => e = .returned (sv (2 ^ n - 1)) ∧ Fut w w' := by
  have h1 : 1 ≤ 2 ^ n := Nat.one_le_two_pow
  have hp := pow_lt n hl
  have hnx : (n : Int) ≤ 15 := by omega
  go_enter Try.func40, Try.ntmps40
  go_wp2
  go_ret
  refine ⟨retu ?_, Fut.alloc _ _⟩
  have e : ((2 : Int) ^ n) = ((2 ^ n : Nat) : Int) := by simp
  simp only [IntKind.wrap_u64, e]
  generalize 2 ^ n = q at *
  omega
set_option maxRecDepth 100000 in
set_option maxHeartbeats 2000000 in
theorem oddlaw_any (c : Int) (a : Option Addr) (cap : Nat) (ss : List (Int × Int)) (s : Nat) (w : World) (hS : StrAt w a ss) (hl : ss.length ≤ 15) (hp : SmL ss) (hne : ∀ p ∈ ss, p.1 ≠ p.2) (hs : s < 65536) :
    Calls Try.prog 41 #[mapV c a ss.length cap, sv s] w fun e w' => e = .returned (sv (oddM ss s)) ∧ Fut w w' := by
  have HS := Lib.hid hS
  have HP := Lib.hid hp
  have HNE := Lib.hid hne
  have hlx : (ss.length : Int) ≤ 15 := by omega
  clear hS hp hne
  go_enter Try.func41, Try.ntmps41
  go_wp2_with fail
  have hF : Fut w (w.alloc (.cells #[.int .i64 c, .slice a ss.length cap] 24)) := Fut.alloc _ _
  generalize w.alloc (.cells #[.int .i64 c, .slice a ss.length cap] 24) = W1 at *
  have HF := Lib.hid hF
  clear hF
  go_loopw [5, 11] (fun ov iv wr => ∃ (k o : Nat), k ≤ ss.length ∧ iv = .int .i64 k ∧ ov = sv o ∧ o < 65536 ∧ Hid (oddL s k (ss.drop k) o = oddM ss s) ∧ Hid (Fut W1 wr)) (fun _ iv _ => ss.length - (intOf iv).toNat)
  case atStart => exact ⟨0, 0, Nat.zero_le _, rfl, rfl, by decide, Lib.hid rfl, Lib.hid Fut.rfl⟩
  case round =>
    obtain ⟨k, o, hk, rfl, rfl, ho, HO, HR⟩ := hrel
    by_cases hlt : k < ss.length
    · have hkx : (k : Int) < ss.length := by omega
      obtain ⟨b, off, ea, hb, c1, c2⟩ := ((HS.out.fut HF.out).fut HR.out) k hlt
      subst ea
      have hd := str_drop ss k hlt
      rw [hd] at HO
      obtain ⟨p1, p2, p3, p4⟩ := HP.out.at k hlt
      have hpne : (str ss k).1 ≠ (str ss k).2 := HNE.out _ (by rw [str_eq, List.getElem?_eq_getElem hlt]; exact List.getElem_mem hlt)
      have hel := ends_lt (HP.out.at k hlt)
      have hee : endsM (str ss k) = 2 ^ (str ss k).1.toNat ||| 2 ^ (str ss k).2.toNat := rfl
      generalize endsM (str ss k) = E at *
      generalize str ss k = p at *
      obtain ⟨x, y⟩ := p
      dsimp only at *
      obtain ⟨x, rfl⟩ := Int.eq_ofNat_of_zero_le p1
      obtain ⟨y, rfl⟩ := Int.eq_ofNat_of_zero_le p3
      simp only [Int.toNat_natCast] at hee
      clear hd
      have hbs := bit_shr s k hs
      unfold oddL at HO
      rw [two_xor (by omega)] at hee
      obtain ⟨X, hX⟩ : ∃ X, X = 2 ^ x := ⟨_, rfl⟩
      obtain ⟨Y, hY⟩ : ∃ Y, Y = 2 ^ y := ⟨_, rfl⟩
      have hwx : IntKind.u64.wrap ((2 : Int) ^ x) = (X : Int) := by rw [hX]; exact wrap_two x (by omega)
      have hwy : IntKind.u64.wrap ((2 : Int) ^ y) = (Y : Int) := by rw [hY]; exact wrap_two y (by omega)
      have hXl : X < 65536 := by rw [hX]; exact pow_lt x (by omega)
      have hYl : Y < 65536 := by rw [hY]; exact pow_lt y (by omega)
      rw [← hX, ← hY] at hee
      have e1 : bits BinOp.xor IntKind.u64 (X : Int) (Y : Int) = (E : Int) := by rw [hee]; exact u64_xor_nat _ _ (by omega) (by omega)
      have e2 : bits BinOp.xor IntKind.u64 (o : Int) (E : Int) = ((o ^^^ E : Nat) : Int) := u64_xor_nat _ _ (by omega) (by omega)
      have hx := xor_lt ho hel
      have HEE : Hid (endsM ((x : Int), (y : Int)) = E) := Lib.hid (by unfold endsM; simp only [Int.toNat_natCast]; rw [two_xor (by omega), ← hX, ← hY, hee])
      rw [HEE.out] at HO
      clear hX hY hee HEE
      cases ht : s.testBit k
      · rw [ht] at hbs HO
        simp only [Bool.false_eq_true, if_false] at HO
        clear ht
        go_wp2_with fail
        go_roundw
        case rel => exact ⟨k + 1, o, by omega, by go_num, rfl, ho, HO, Lib.hid (HR.out.trans (Fut.alloc _ _))⟩
        case measure => simp [intOf]; omega
      · rw [ht] at hbs HO
        simp only [if_true] at HO
        clear ht
        go_wp2_with fail
        go_quiet (fail)
        have HRA := Lib.hid (HR.out.trans ((Fut.alloc wr (.cells #[.int .i64 (x : Int), .int .i64 (y : Int)] 65)).trans (Fut.drewN _ nq)))
        go_wp2
        go_roundw
        case rel => exact ⟨k + 1, o ^^^ E, by omega, by go_num, rfl, hx, HO, HRA⟩
        case measure => simp [intOf]; omega
    · obtain rfl : k = ss.length := by omega
      rw [List.drop_of_length_le (Nat.le_refl _)] at HO
      have HW := Lib.hid (HF.out.trans HR.out)
      go_wp2
      go_ret
      exact ⟨by rw [← HO.out]; rfl, HW.out⟩
/-- how many ways there are to take some streets so that just these corners are odd. -/
def waysC : List (Int × Int) → Nat → Nat
  | [], t => if t = 0 then 1 else 0
  | p :: l, t => waysC l t + waysC l (t ^^^ endsM p)
theorem waysC_snoc : ∀ (l : List (Int × Int)) (p : Int × Int) (t : Nat), waysC (l ++ [p]) t = waysC l t + waysC l (t ^^^ endsM p)
  | [], _, _ => rfl
  | q :: l, p, t => by
    show waysC (l ++ [p]) t + waysC (l ++ [p]) (t ^^^ endsM q) = (waysC l t + waysC l (t ^^^ endsM q)) + (waysC l (t ^^^ endsM p) + waysC l (t ^^^ endsM p ^^^ endsM q))
    rw [waysC_snoc l p t, waysC_snoc l p (t ^^^ endsM q)]
    have e : t ^^^ endsM q ^^^ endsM p = t ^^^ endsM p ^^^ endsM q := by rw [Nat.xor_assoc, Nat.xor_assoc, Nat.xor_comm (endsM q)]
    rw [e]; omega
theorem oddL_shift (s : Nat) : ∀ (l : List (Int × Int)) (i o : Nat), oddL s (i + 1) l o = oddL (s / 2) i l o
  | [], _, _ => rfl
  | p :: l, i, o => by
    unfold oddL
    rw [oddL_shift s l (i + 1)]
    have e : s.testBit (i + 1) = (s / 2).testBit i := by rw [Nat.testBit_succ]
    rw [e]
theorem oddL_acc (s : Nat) : ∀ (l : List (Int × Int)) (i o : Nat), oddL s i l o = oddL s i l 0 ^^^ o
  | [], _, o => by show o = 0 ^^^ o; rw [Nat.zero_xor]
  | p :: l, i, o => by
    unfold oddL
    rw [oddL_acc s l (i + 1)]
    conv => rhs; rw [oddL_acc s l (i + 1)]
    split
    · rw [Nat.zero_xor, Nat.xor_assoc, Nat.xor_comm (endsM p)]
    · rw [Nat.xor_zero]
theorem range_two (f : Nat → Bool) : ∀ m, (List.range (2 * m)).countP f = (List.range m).countP (fun k => f (2 * k)) + (List.range m).countP (fun k => f (2 * k + 1))
  | 0 => rfl
  | m + 1 => by
    rw [show 2 * (m + 1) = 2 * m + 1 + 1 by omega, List.range_succ, List.range_succ, List.range_succ]
    simp only [List.countP_append, List.countP_cons, List.countP_nil]
    rw [range_two f m]
    omega
theorem ways_count : ∀ (l : List (Int × Int)) (t : Nat), (List.range (2 ^ l.length)).countP (fun s => oddL s 0 l 0 == t) = waysC l t
  | [], t => by
    show (List.range 1).countP _ = if t = 0 then 1 else 0
    have : List.range 1 = [0] := rfl
    rw [this]
    simp only [List.countP_cons, List.countP_nil, oddL]
    by_cases h : t = 0
    · simp [h]
    · have h' : (0 == t) = false := by rw [beq_eq_false_iff_ne]; omega
      rw [h', if_neg h]; rfl
  | p :: l, t => by
    rw [List.length_cons, Nat.pow_succ, Nat.mul_comm, range_two]
    have e0 : ∀ k, (oddL (2 * k) 0 (p :: l) 0 == t) = (oddL k 0 l 0 == t) := fun k => by
      have hb : (2 * k).testBit 0 = false := by rw [Nat.testBit_zero]; simp
      have : oddL (2 * k) 0 (p :: l) 0 = oddL k 0 l 0 := by
        conv => lhs; unfold oddL
        rw [hb]
        simp only [Bool.false_eq_true, if_false]
        rw [oddL_shift, show 2 * k / 2 = k by omega]
      rw [this]
    have e1 : ∀ k, (oddL (2 * k + 1) 0 (p :: l) 0 == t) = (oddL k 0 l 0 == t ^^^ endsM p) := fun k => by
      have hb : (2 * k + 1).testBit 0 = true := by rw [Nat.testBit_zero]; simp
      have : oddL (2 * k + 1) 0 (p :: l) 0 = oddL k 0 l 0 ^^^ endsM p := by
        conv => lhs; unfold oddL
        rw [hb]
        simp only [if_true]
        rw [oddL_shift, show (2 * k + 1) / 2 = k by omega, oddL_acc, Nat.zero_xor]
      rw [this, Bool.eq_iff_iff, beq_iff_eq, beq_iff_eq]
      constructor
      · intro h; rw [← h, Nat.xor_assoc, Nat.xor_self, Nat.xor_zero]
      · intro h; rw [h, Nat.xor_assoc, Nat.xor_self, Nat.xor_zero]
    simp only [e0, e1]
    rw [ways_count l t, ways_count l (t ^^^ endsM p)]
    rfl
theorem par_two : ∀ a, a < 16 → par (2 ^ a) = true := by
  intro a h
  obtain ⟨b, rfl⟩ : ∃ b : Fin 16, b.val = a := ⟨⟨a, h⟩, rfl⟩
  clear h
  revert b
  decide +kernel
theorem par_ends {p : Int × Int} (h : Sm p) (hne : p.1 ≠ p.2) : par (endsM p) = false := by
  obtain ⟨h1, h2, h3, h4⟩ := h
  unfold endsM
  rw [two_xor (by omega), par_xor, par_two _ (by omega), par_two _ (by omega)]
  rfl
theorem waysC_zero {k : Nat} : ∀ (l : List (Int × Int)) (t : Nat), (∀ p ∈ l, (endsM p).testBit k = false) → t.testBit k = true → waysC l t = 0
  | [], t, _, ht => by
    show (if t = 0 then 1 else 0) = 0
    rw [if_neg]
    intro e; rw [e, Nat.zero_testBit] at ht; cases ht
  | p :: l, t, h, ht => by
    show waysC l t + waysC l (t ^^^ endsM p) = 0
    rw [waysC_zero l t (fun q hq => h q (List.mem_cons_of_mem _ hq)) ht, waysC_zero l (t ^^^ endsM p) (fun q hq => h q (List.mem_cons_of_mem _ hq)) (by rw [Nat.testBit_xor, ht, h p (List.mem_cons_self ..)]; rfl)]
theorem lt_of_bit {t k : Nat} (h : t < 2 ^ (k + 1)) (hb : t.testBit k = false) : t < 2 ^ k := by
  refine Nat.lt_pow_two_of_testBit t fun i hi => ?_
  rcases Nat.lt_or_ge k i with h1 | h1
  · exact Nat.testBit_lt_two_pow (Nat.lt_of_lt_of_le h (Nat.pow_le_pow_right (by decide) h1))
  · obtain rfl : i = k := by omega
    exact hb
theorem ends_lt' {p : Int × Int} {n : Nat} (h1 : 0 ≤ p.1) (h2 : p.1 < n) (_h3 : 0 ≤ p.2) (h4 : p.2 < n) : endsM p < 2 ^ n :=
  Nat.or_lt_two_pow (Nat.pow_lt_pow_right (by decide) (by omega)) (Nat.pow_lt_pow_right (by decide) (by omega))
theorem tree_head {k : Nat} {tr : List (Int × Int)} (h : TreeL (k + 1) tr) : ∃ (tr' : List (Int × Int)) (b : Int), tr = tr' ++ [(b, ((k + 1 : Nat) : Int))] ∧ TreeL k tr' ∧ 0 ≤ b ∧ b ≤ k := by
  obtain ⟨h1, h2⟩ := h
  refine ⟨tr.take k, (str tr k).1, ?_, ⟨by rw [List.length_take]; omega, fun j hj => ?_⟩, (h2 k (by omega)).2⟩
  · have h3 := (h2 k (by omega)).1
    have h4 : tr.drop k = [str tr k] := by
      rw [str_drop tr k (by omega), List.drop_of_length_le (by omega)]
    conv => lhs; rw [← List.take_append_drop k tr, h4]
    rw [← h3]
  · have e : str (tr.take k) j = str tr j := by rw [str_eq, str_eq, List.getElem?_take, if_pos hj]
    rw [e]; exact h2 j (by omega)
theorem tree_mem {k : Nat} {tr : List (Int × Int)} (h : TreeL k tr) : ∀ p ∈ tr, 0 ≤ p.1 ∧ p.1 < p.2 ∧ p.2 < ((k + 1 : Nat) : Int) := fun p hp => by
  obtain ⟨j, hj, rfl⟩ := List.getElem_of_mem hp
  have h1 := h.1
  have h2 := h.2 j (by omega)
  have e : str tr j = tr[j] := by rw [str_eq, List.getElem?_eq_getElem hj]; rfl
  rw [e] at h2
  omega
/-- in a tree, just one way. -/
theorem ways_tree : ∀ (k : Nat) (tr : List (Int × Int)) (t : Nat), k ≤ 14 → TreeL k tr → t < 2 ^ (k + 1) → par t = false → waysC tr t = 1
  | 0, tr, t, _, h, ht, hp => by
    have : tr = [] := List.eq_nil_of_length_eq_zero h.1
    subst this
    have h01 : t = 0 ∨ t = 1 := by
      have : (2 : Nat) ^ (0 + 1) = 2 := by decide
      omega
    rcases h01 with rfl | rfl
    · rfl
    · have : par 1 = true := by decide
      rw [this] at hp; cases hp
  | k + 1, tr, t, hk, h, ht, hp => by
    obtain ⟨tr', b, rfl, h', hb0, hbk⟩ := tree_head h
    have hm := tree_mem h'
    have hbit : ∀ p ∈ tr', (endsM p).testBit (k + 1) = false := fun p hp => by
      have := hm p hp
      exact Nat.testBit_lt_two_pow (ends_lt' (by omega) (by omega) (by omega) (by omega))
    have hsm : Sm (b, ((k + 1 : Nat) : Int)) := ⟨hb0, by omega, by omega, by omega⟩
    have hE : (endsM (b, ((k + 1 : Nat) : Int))).testBit (k + 1) = true := by rw [ends_bit hsm]; simp
    have hEl : endsM (b, ((k + 1 : Nat) : Int)) < 2 ^ (k + 1 + 1) := ends_lt' hb0 (by omega) (by omega) (by omega)
    have hEp : par (endsM (b, ((k + 1 : Nat) : Int))) = false := par_ends hsm (by dsimp only; omega)
    rw [waysC_snoc]
    generalize endsM (b, ((k + 1 : Nat) : Int)) = E at *
    have hxl : t ^^^ E < 2 ^ (k + 1 + 1) := Nat.xor_lt_two_pow ht hEl
    cases hbt : t.testBit (k + 1)
    · rw [ways_tree k tr' t (by omega) h' (lt_of_bit ht hbt) hp, waysC_zero (k := k + 1) tr' (t ^^^ E) hbit (by rw [Nat.testBit_xor, hbt, hE]; rfl)]
    · rw [waysC_zero (k := k + 1) tr' t hbit hbt, ways_tree k tr' (t ^^^ E) (by omega) h' (lt_of_bit hxl (by rw [Nat.testBit_xor, hbt, hE]; rfl)) (by rw [par_xor, hp, hEp]; rfl)]
/-- with more streets, as many ways as there are sets of them. -/
theorem ways_rest {n : Nat} (hn : 1 ≤ n) (hn15 : n ≤ 15) {tr : List (Int × Int)} (h : TreeL (n - 1) tr) : ∀ (rest : List (Int × Int)) (t : Nat), (∀ p ∈ rest, 0 ≤ p.1 ∧ p.1 < p.2 ∧ p.2 < (n : Int)) → t < 2 ^ n → par t = false → waysC (tr ++ rest) t = 2 ^ rest.length := by
  have key : ∀ (m : Nat) (rest : List (Int × Int)), rest.length = m → ∀ t, (∀ p ∈ rest, 0 ≤ p.1 ∧ p.1 < p.2 ∧ p.2 < (n : Int)) → t < 2 ^ n → par t = false → waysC (tr ++ rest) t = 2 ^ rest.length := by
    intro m
    induction m with
    | zero =>
      intro rest hm t _ ht hp
      have : rest = [] := List.eq_nil_of_length_eq_zero hm
      subst this
      rw [List.append_nil]
      exact ways_tree (n - 1) tr t (by omega) h (by rw [Nat.sub_add_cancel hn]; exact ht) hp
    | succ m ih =>
      intro rest hm t hr ht hp
      obtain ⟨l, p, rfl⟩ : ∃ l p, rest = l ++ [p] := ⟨rest.dropLast, rest.getLast (by intro e; rw [e] at hm; simp at hm), (List.dropLast_concat_getLast _).symm⟩
      have hq := hr p (by simp)
      have hl : l.length = m := by simpa using hm
      have hr' : ∀ q ∈ l, 0 ≤ q.1 ∧ q.1 < q.2 ∧ q.2 < (n : Int) := fun q h => hr q (by simp [h])
      rw [← List.append_assoc, waysC_snoc, ih l hl t hr' ht hp, ih l hl (t ^^^ endsM p) hr' (Nat.xor_lt_two_pow ht (ends_lt' (by omega) (by omega) (by omega) (by omega))) (by rw [par_xor, hp, par_ends ⟨by omega, by omega, by omega, by omega⟩ (by omega)]; rfl)]
      rw [List.length_append, List.length_singleton, Nat.pow_succ]
      omega
  exact fun rest t => key rest.length rest rfl t
theorem oddL_good {n : Nat} (hn15 : n ≤ 15) (s : Nat) : ∀ (l : List (Int × Int)) (i o : Nat), (∀ p ∈ l, 0 ≤ p.1 ∧ p.1 < p.2 ∧ p.2 < (n : Int)) → o < 2 ^ n → par o = false → oddL s i l o < 2 ^ n ∧ par (oddL s i l o) = false
  | [], _, _, _, h1, h2 => ⟨h1, h2⟩
  | p :: l, i, o, h, h1, h2 => by
    have hq := h p (List.mem_cons_self ..)
    unfold oddL
    refine oddL_good hn15 s l (i + 1) _ (fun q hq => h q (List.mem_cons_of_mem _ hq)) ?_ ?_
    · split
      · exact Nat.xor_lt_two_pow h1 (ends_lt' (by omega) (by omega) (by omega) (by omega))
      · exact h1
    · split
      · rw [par_xor, h2, par_ends ⟨by omega, by omega, by omega, by omega⟩ (by omega)]; rfl
      · exact h2
theorem made_mem {n : Nat} (hn : 1 ≤ n) {ss : List (Int × Int)} (h : MadeP n ss) : ∀ p ∈ ss, 0 ≤ p.1 ∧ p.1 < p.2 ∧ p.2 < (n : Int) := fun p hp => by
  obtain ⟨tr, rest, rfl, h1, h2⟩ := h
  rcases List.mem_append.1 hp with h | h
  · have := tree_mem h1 p h
    have e : ((n - 1 + 1 : Nat) : Int) = n := by omega
    omega
  · exact h2 p h
/-- how many sets of streets are enough, in a map that is drawn. -/
theorem made_count {n : Nat} (hn : 1 ≤ n) (hn15 : n ≤ 15) {ss : List (Int × Int)} (h : MadeP n ss) : cntM ss (2 ^ ss.length) = 2 ^ (ss.length + 1 - n) ∧ n ≤ ss.length + 1 := by
  have hm := made_mem hn h
  obtain ⟨tr, rest, rfl, h1, h2⟩ := h
  have hl : (tr ++ rest).length + 1 - n = rest.length := by rw [List.length_append, h1.1]; omega
  refine ⟨?_, by rw [List.length_append, h1.1]; omega⟩
  rw [hl]
  obtain ⟨g1, g2⟩ := oddL_good hn15 (2 ^ (tr ++ rest).length - 1) (tr ++ rest) 0 0 hm (Nat.two_pow_pos n) par_zero
  rw [← ways_rest hn hn15 h1 rest _ h2 g1 g2, ← ways_count]
  rfl
end Go.Proofs.Ytimddkofcejijaa
