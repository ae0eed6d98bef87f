/- Layer 2: sets sorted by their lists. -/
import Derived.Test.YtimddkofcejijaaRT
import Derived.Shelf.SlSortCmp.Whole1
namespace Go.Proofs.Ytimddkofcejijaa
open Go.RowKit Go.Sort
def fRen : Go.Shelf.Ren := ⟨fun | 6 => 102 | 15 => 95 | 14 => 116 | 28 => 113 | 29 => 114 | 20 => 122 | 21 => 123 | 22 => 124 | 23 => 125 | 24 => 126 | 25 => 127 | 26 => 128 | 27 => 129 | 46 => 132 | 47 => 133 | 48 => 134 | 49 => 135 | 50 => 136 | 57 => 138 | n => n, fun | 22 => 99 | 24 => 79 | 25 => 129 | 39 => 62 | 53 => 135 | 55 => 137 | 46 => 143 | 45 => 142 | 50 => 124 | 66 => 150 | 70 => 154 | 76 => 156 | 77 => 157 | n => n, fun n => n⟩
set_option maxRecDepth 100000 in
theorem fLay : SlLaysF.n6 Try.prog fRen :=
  { mixed := (by kernel_rfl)
    f6 := ⟨Try.f102.name, by decide, Try.func102.trans (congrArg some (by kernel_rfl))⟩
    f14 := ⟨Try.f116.name, by decide, Try.func116.trans (congrArg some (by kernel_rfl))⟩
    f15 := Try.func95.trans (congrArg some (by kernel_rfl))
    f20 := ⟨Try.f122.name, by decide, Try.func122.trans (congrArg some (by kernel_rfl))⟩
    f21 := ⟨Try.f123.name, by decide, Try.func123.trans (congrArg some (by kernel_rfl))⟩
    f22 := ⟨Try.f124.name, by decide, Try.func124.trans (congrArg some (by kernel_rfl))⟩
    f23 := ⟨Try.f125.name, by decide, Try.func125.trans (congrArg some (by kernel_rfl))⟩
    f24 := ⟨Try.f126.name, by decide, Try.func126.trans (congrArg some (by kernel_rfl))⟩
    f25 := ⟨Try.f127.name, by decide, Try.func127.trans (congrArg some (by kernel_rfl))⟩
    f26 := ⟨Try.f128.name, by decide, Try.func128.trans (congrArg some (by kernel_rfl))⟩
    f27 := ⟨Try.f129.name, by decide, Try.func129.trans (congrArg some (by kernel_rfl))⟩
    f28 := Try.func113.trans (congrArg some (by kernel_rfl))
    f29 := Try.func114.trans (congrArg some (by kernel_rfl))
    f46 := ⟨Try.f132.name, by decide, Try.func132.trans (congrArg some (by kernel_rfl))⟩
    f47 := Try.func133.trans (congrArg some (by kernel_rfl))
    f48 := Try.func134.trans (congrArg some (by kernel_rfl))
    f49 := ⟨Try.f135.name, by decide, Try.func135.trans (congrArg some (by kernel_rfl))⟩
    f50 := ⟨Try.f136.name, by decide, Try.func136.trans (congrArg some (by kernel_rfl))⟩
    f57 := ⟨Try.f138.name, by decide, Try.func138.trans (congrArg some (by kernel_rfl))⟩
    t0 := Try.underlying0
    a0 := Try.isAgg0
    z0 := Try.sizeOf0
    v0 := Try.zeroValue0
    t3 := Try.underlying3
    a3 := Try.isAgg3
    z3 := Try.sizeOf3
    v3 := Try.zeroValue3
    t4 := Try.underlying4
    a4 := Try.isAgg4
    z4 := Try.sizeOf4
    v4 := Try.zeroValue4
    t5 := Try.underlying5
    a5 := Try.isAgg5
    z5 := Try.sizeOf5
    v5 := Try.zeroValue5
    t9 := Try.underlying9
    a9 := Try.isAgg9
    z9 := Try.sizeOf9
    v9 := Try.zeroValue9
    t22 := Try.underlying99
    a22 := Try.isAgg99
    z22 := Try.sizeOf99
    v22 := Try.zeroValue99
    a24 := Try.isAgg79
    z24 := Try.sizeOf79
    t25 := Try.underlying129
    a25 := Try.isAgg129
    z25 := Try.sizeOf129
    v25 := Try.zeroValue129
    t39 := Try.underlying62
    a39 := Try.isAgg62
    z39 := Try.sizeOf62
    v39 := Try.zeroValue62
    t45 := Try.underlying142
    a45 := Try.isAgg142
    z45 := Try.sizeOf142
    v45 := Try.zeroValue142
    t46 := Try.underlying143
    a46 := Try.isAgg143
    z46 := Try.sizeOf143
    v46 := Try.zeroValue143
    t50 := Try.underlying124
    a50 := Try.isAgg124
    z50 := Try.sizeOf124
    v50 := Try.zeroValue124
    t53 := Try.underlying135
    a53 := Try.isAgg135
    z53 := Try.sizeOf135
    v53 := Try.zeroValue135
    t55 := Try.underlying137
    a55 := Try.isAgg137
    z55 := Try.sizeOf137
    v55 := Try.zeroValue137
    t66 := Try.underlying150
    a66 := Try.isAgg150
    z66 := Try.sizeOf150
    v66 := Try.zeroValue150
    t70 := Try.underlying154
    a70 := Try.isAgg154
    z70 := Try.sizeOf154
    v70 := Try.zeroValue154
    t76 := Try.underlying156
    a76 := Try.isAgg156
    z76 := Try.sizeOf156
    v76 := Try.zeroValue156
    t77 := Try.underlying157
    a77 := Try.isAgg157
    z77 := Try.sizeOf157
    v77 := Try.zeroValue157 }
theorem app_drawn (w : World) (base : Nat) (t ty e : TypeId) (i : TypeInfo) (z : Value) (size bytes : Nat) (ht : Try.prog.underlying t = some (.slice e)) (hi : Try.prog.info? e = some i) (hz : i.zero = some z)
    (hsize : i.size = size) (hby : i.bytes = bytes) (v : Value) (n : Nat) (xs : List Value) (hown : w.ownsRow base e size v n xs)
    (a : Addr) (m c : Nat) (news : List Value) (hl : news.length = m * size) (hnews : ∀ j u, news[j]? = some u → w.cell? (a.add j) = some u) (h1 : ∀ u ∈ news, u.oneCell' = true)
    (hm : 0 < m) (h63 : n + m ≤ maxLen) (hbytes : (n + m) * bytes ≤ 140737488355328) {v' : Value} {w' : World}
    (hr : (Builtin.append_ #[t, t] ty #[v, .slice (some a) m c]).run Try.prog w = .ok v' w') : w.drawn ≤ w'.drawn := by
  subst hsize hby
  have hsmall : n + m ≤ 9223372036854775807 := by simp only [maxLen] at h63; omega
  rcases hown.2 with ⟨rfl, rfl⟩ | ⟨g, cap, cur, rfl, hbg, hg, hnc, hcm, hcs, htake⟩
  · rw [run_append_nil (P := Try.prog) w t ty e i z ht hi hz a m c news hl hnews hm (by omega) (by have hb := hbytes; simp only [Nat.zero_add] at hb; omega)] at hr
    cases hr
    show w.drawn ≤ w.drawn + 1
    omega
  · by_cases hroom : n + m ≤ cap
    · have hfit : n * i.size + news.length ≤ cur.size := by rw [hl, hcs, ← Nat.add_mul]; exact Nat.mul_le_mul_right _ hroom
      rw [run_append_room (P := Try.prog) w t ty e i ht hi g n cap cur hg a m c news hl hnews h1 hroom hfit] at hr
      cases hr
      exact Nat.le_refl _
    · have holds : ∀ j u, xs[j]? = some u → w.cell? ((⟨g, 0, none⟩ : Addr).add j) = some u := World.ownsRow.cells hown (g := g) rfl
      rw [run_append_grow (P := Try.prog) w t ty e i z ht hi hz ⟨g, 0, none⟩ n cap xs hown.1 holds a m c news hl hnews (by omega) (by omega) (growslice_fits (by omega) hbytes)] at hr
      cases hr
      show w.drawn ≤ w.drawn + 1
      omega
theorem wpList_app (w : World) {ops : Array Oper} {rest : List Oper} {o : Oper} {a : Act} {Q : Exit → Act → World → Prop} (hgd : o.guard = none) (s x : Operand) (t : TypeId)
    (ho : o.op = .call { callee := .builtin .append, args := #[s, x], argTypes := #[t, t] })
    (base : Nat) (e : TypeId) (i : TypeInfo) (z : Value) (size bytes : Nat) (ht : Try.prog.underlying t = some (.slice e)) (hi : Try.prog.info? e = some i) (hz : i.zero = some z)
    (hsize : i.size = size) (hby : i.bytes = bytes) (hzs : z.cells.size = size) (hsz : 0 < size)
    (v : Value) (n : Nat) (xs : List Value) (hs : a.eval s = v) (hown : w.ownsRow base e size v n xs)
    (ad : Addr) (m c : Nat) (news : List Value) (hx : a.eval x = .slice (some ad) m c) (hm : 0 < m) (hl : news.length = m * size) (hnews : ∀ j u, news[j]? = some u → w.cell? (ad.add j) = some u) (h1 : ∀ u ∈ news, u.oneCell' = true)
    (h63 : n + m ≤ maxLen) (hbytes : (n + m) * bytes ≤ 140737488355328) (hbase : base ≤ w.heap.size)
    (h : ∀ v' w', w'.ownsRow base e size v' (n + m) (xs ++ news) → w.grownBy w' v.ownBlock → w.drawn ≤ w'.drawn → wpList Try.prog ops Q rest (a.put o.dst v') w') : wpList Try.prog ops Q (o :: rest) a w :=
  wpList_plain hgd fun _ hK => by
    obtain ⟨v', w', hr, h2, h3, _⟩ := run_append_own (P := Try.prog) w base t o.type e i z size bytes ht hi hz hsize hby hzs hsz v n xs hown ad m c news hl hnews h1 h63 hbytes hbase
    have hd := app_drawn w base t o.type e i z size bytes ht hi hz hsize hby v n xs hown ad m c news hl hnews h1 hm h63 hbytes hr
    unfold Oper.wp execOp
    simp only [ho, resolve, invoke, builtin, Sem.run_bind, Sem.run_pure, Result.andThen_ok, List.map_toArray, List.map_cons, List.map_nil, hs, hx, hr]
    exact hK _ _ (h v' w' h2 h3 hd)
set_option maxRecDepth 100000 in
set_option maxHeartbeats 2000000 in
theorem list_d (s : Nat) (w : World) (hs : s < 65536) : Calls Try.prog 56 #[sv s] w fun e w' => ∃ v, e = .returned v ∧ Owns w' w.heap.size v (listM s) ∧ Fut w w' ∧ w.drawn ≤ w'.drawn := by
  obtain ⟨i0, hi, hz0, hz1, hz2⟩ := info_parts info3
  have HL := Lib.hid (fun w => len_any s w hs)
  have HO : Hid (preM s (Lib.bitLen s) = listM s) := Lib.hid (by
    have h16 := bitLen16 s hs
    have := preM_out s (Lib.bitLen s) (fun i hi => bit_out s i hs hi) (16 - Lib.bitLen s)
    rw [show Lib.bitLen s + (16 - Lib.bitLen s) = 16 by omega] at this
    exact this.symm)
  have h16 := bitLen16 s hs
  generalize Lib.bitLen s = L at *
  have hlx : (L : Int) ≤ 16 := by omega
  go_enter Try.func56, Try.ntmps56
  go_wp2_with fail
  refine (HL.out _).mono ?_
  rintro _ _ ⟨rfl, rfl⟩
  go_wp2_with fail
  go_loopw [3, 7] (fun v iv wr => ∃ k : Nat, k ≤ L ∧ iv = .int .i64 k ∧ Hid (wr.ownsRow w.heap.size 3 1 v (preM s k).length ((preM s k).map (Value.int .i64))) ∧ Hid (Fut w wr) ∧ Hid (w.drawn ≤ wr.drawn)) (fun _ iv _ => L - (intOf iv).toNat)
  case atStart => exact ⟨0, Nat.zero_le _, rfl, Lib.hid (World.ownsRow_nil _ _ _ _), Lib.hid Fut.rfl, Lib.hid (Nat.le_refl _)⟩
  case round =>
    obtain ⟨k, hk, rfl, HOW, HF, HD⟩ := hrel
    by_cases hlt : k < L
    · have hkx : (k : Int) < L := by omega
      have HH := Lib.hid (has_any s k wr hs (by omega))
      have HS := Lib.hid (preM_succ s k)
      have hpl := preM_len s k
      cases ht : s.testBit k
      · rw [ht] at HH HS
        simp only [Bool.false_eq_true, if_false, List.append_nil] at HS
        rw [← HS.out] at HOW
        clear ht HS hpl
        go_wp2_with fail
        refine HH.out.mono ?_
        rintro _ _ ⟨rfl, rfl⟩
        go_wp2
        go_roundw
        case rel => exact ⟨k + 1, by omega, by go_num, HOW, HF, HD⟩
        case measure => simp [intOf]; omega
      · rw [ht] at HH HS
        simp only [if_true] at HS
        have HSD := HS
        obtain ⟨pn, hpn⟩ : ∃ pn, preM s (k + 1) = pn := ⟨_, rfl⟩
        rw [hpn] at HS
        have HPN := Lib.hid hpn
        clear hpn HSD ht
        generalize preM s k = pk at *
        go_wp2_with fail
        refine HH.out.mono ?_
        rintro _ _ ⟨rfl, rfl⟩
        go_wp2_with (at_builtin; refine wpList_app _ rfl _ _ 25 rfl w.heap.size 3 i0 (.int .i64 0) 1 8 Try.underlying25 hi hz0 hz1 hz2 rfl (by decide) _ _ _ rfl (HOW.out.alloc _) ⟨wr.heap.size, 0, none⟩ 1 1 [.int .i64 (k : Int)] rfl (by decide) rfl ?c1 ?c2 ?c3 ?c4 ?c5 ?_)
        case c1 => exact World.news_of_block (cs := #[.int .i64 (k : Int)]) (t := 3) (fr := (0, 0)) (heap_alloc_new _ _)
        case c2 => intro u hu; simp at hu; subst hu; rfl
        case c3 => unfold maxLen; omega
        case c4 => omega
        case c5 => have := RowKit.Below.size HF.out; simp; omega
        · intro v' w1 hown' hgrow hdr
          have HOW' : Hid (w1.ownsRow w.heap.size 3 1 v' pn.length (pn.map (Value.int .i64))) := Lib.hid (by rw [HS.out]; simpa using hown')
          have HF' : Hid (Fut w w1) := Lib.hid ((RowKit.Below.alloc HF.out (RowKit.Below.size HF.out) _).grown hgrow (by have := RowKit.Below.size HF.out; simp; omega) (fun i hi => by have := (HOW.out.lt i hi).1; omega))
          have HD' : Hid (w.drawn ≤ w1.drawn) := Lib.hid (Nat.le_trans HD.out hdr)
          clear hown' hgrow hdr
          go_wp2
          go_roundw
          case rel => exact ⟨k + 1, by omega, by go_num, by rw [HPN.out]; exact HOW', HF', HD'⟩
          case measure => simp [intOf]; omega
    · obtain rfl : k = L := by omega
      have HX : Hid (Owns wr w.heap.size u3 (listM s)) := Lib.hid (by rw [← HO.out]; exact HOW.out)
      clear HOW
      go_wp2
      go_ret
      exact ⟨_, rfl, HX.out, HF.out, HD.out⟩
/-- a world behind this one: more in its heap, and more drawn, maybe. -/
def FutD (w w' : World) : Prop := Fut w w' ∧ w.drawn ≤ w'.drawn
theorem FutD.trans {a b c : World} (h : FutD a b) (h' : FutD b c) : FutD a c := ⟨h.1.trans h'.1, Nat.le_trans h.2 h'.2⟩
theorem FutD.grow {w w' : World} (h : FutD w w') : ∃ q os, w' = grow (w.drewN q) os := by
  obtain ⟨⟨h1, h2, h3, h4, h5⟩, h6⟩ := h
  refine ⟨w'.drawn - w.drawn, w'.heap.extract w.heap.size w'.heap.size, ?_⟩
  have e : w.heap ++ w'.heap.extract w.heap.size w'.heap.size = w'.heap := by
    apply Array.ext_getElem?
    intro k
    rw [Array.getElem?_append]
    by_cases hk : k < w.heap.size
    · rw [if_pos hk, h5 k hk]
    · rw [if_neg hk, Array.getElem?_extract]
      by_cases hk2 : k < w'.heap.size
      · rw [if_pos (by omega)]; congr 1; omega
      · rw [if_neg (by omega)]; rw [Array.getElem?_eq_none (by omega)]
  cases w' with
  | mk heap tape drawn os output =>
    simp only at *
    unfold Go.Sort.grow World.drewN
    simp only [World.mk.injEq]
    exact ⟨e.symm, h2, by omega, h1, h3⟩
theorem cmpI_swap (x y : Int) : cmpI y x = - cmpI x y := by unfold cmpI; split <;> split <;> omega
theorem cmpI_zero {x y : Int} (h : cmpI x y = 0) : x = y := by
  unfold cmpI at h
  split at h
  · omega
  · split at h <;> omega
theorem cmpI_self (x : Int) : cmpI x x = 0 := by unfold cmpI; rw [if_neg (by omega), if_neg (by omega)]
theorem cmpI_neg {x y : Int} (h : cmpI x y ≤ 0) : x ≤ y := by
  unfold cmpI at h
  split at h
  · omega
  · split at h <;> omega
theorem cmpI_le {x y : Int} (h : x < y) : cmpI x y = -1 := by unfold cmpI; rw [if_pos h]
theorem cmpL_self : ∀ xs, cmpL xs xs = 0
  | [] => rfl
  | x :: xs => by unfold cmpL; rw [cmpI_self, if_pos rfl]; exact cmpL_self xs
theorem cmpL_swap : ∀ xs ys, cmpL ys xs = - cmpL xs ys
  | [], [] => rfl
  | [], _ :: _ => rfl
  | _ :: _, [] => rfl
  | x :: xs, y :: ys => by
    unfold cmpL
    rw [cmpI_swap x y]
    by_cases h : cmpI x y = 0
    · rw [h, if_pos (by omega), if_pos rfl]; exact cmpL_swap xs ys
    · rw [if_neg (by omega), if_neg h]
theorem cmpL_zero : ∀ {xs ys}, cmpL xs ys = 0 → xs = ys
  | [], [], _ => rfl
  | [], _ :: _, h => by simp [cmpL] at h
  | _ :: _, [], h => by simp [cmpL] at h
  | x :: xs, y :: ys, h => by
    unfold cmpL at h
    by_cases h0 : cmpI x y = 0
    · rw [if_pos h0] at h
      rw [cmpI_zero h0, cmpL_zero h]
    · rw [if_neg h0] at h; exact absurd h h0
theorem cmpL_trans : ∀ xs ys zs, cmpL xs ys ≤ 0 → cmpL ys zs ≤ 0 → cmpL xs zs ≤ 0
  | [], _, [], _, _ => by decide
  | [], _, _ :: _, _, _ => by show (-1 : Int) ≤ 0; decide
  | _ :: _, [], _, h, _ => by simp [cmpL] at h
  | _ :: _, _ :: _, [], _, h => by simp [cmpL] at h
  | x :: xs, y :: ys, z :: zs, h, h' => by
    unfold cmpL at h h' ⊢
    by_cases h0 : cmpI x y = 0
    · rw [if_pos h0] at h
      obtain rfl := cmpI_zero h0
      by_cases h1 : cmpI x z = 0
      · rw [if_pos h1] at h' ⊢
        exact cmpL_trans xs ys zs h h'
      · rw [if_neg h1] at h' ⊢; exact h'
    · rw [if_neg h0] at h
      have hxy : x < y := by
        have := cmpI_neg h
        rcases Int.lt_or_eq_of_le this with h | h
        · exact h
        · subst h; exact absurd (cmpI_self x) h0
      have hyz : y ≤ z := by
        by_cases h1 : cmpI y z = 0
        · exact Int.le_of_eq (cmpI_zero h1)
        · rw [if_neg h1] at h'; exact cmpI_neg h'
      rw [cmpI_le (show x < z by omega), if_neg (by decide)]
      decide
theorem listN_mem (s i : Nat) : i ∈ listN s ↔ i < 16 ∧ s.testBit i = true := by unfold listN; rw [List.mem_filter, List.mem_range]
theorem listM_inj {s t : Nat} (hs : s < 65536) (ht : t < 65536) (h : listM s = listM t) : s = t := by
  have hm : ∀ s, listM s = (listN s).map fun (i : Nat) => (i : Int) := fun _ => rfl
  rw [hm, hm] at h
  have h2 : listN s = listN t := (List.map_inj_right (fun (a b : Nat) (h : (a : Int) = (b : Int)) => by omega)).1 h
  refine Nat.eq_of_testBit_eq fun i => ?_
  by_cases hi : i < 16
  · have h3 := listN_mem s i
    have h4 := listN_mem t i
    rw [h2] at h3
    have : s.testBit i = true ↔ t.testBit i = true := by
      constructor
      · intro h; exact (h4.1 (h3.2 ⟨hi, h⟩)).2
      · intro h; exact (h3.1 (h4.2 ⟨hi, h⟩)).2
    cases h5 : s.testBit i <;> cases h6 : t.testBit i <;> simp_all
  · have h16 : 65536 ≤ 2 ^ i := by
      have := Nat.pow_le_pow_right (n := 2) (by decide) (show 16 ≤ i by omega)
      simpa using this
    rw [Nat.testBit_lt_two_pow (by omega), Nat.testBit_lt_two_pow (by omega)]
abbrev cmpS (a b : Nat) : Int := cmpL (listM a) (listM b)
def insS (x : Nat) : List Nat → List Nat
  | [] => [x]
  | y :: l => if cmpS x y ≤ 0 then x :: y :: l else y :: insS x l
/-- sets in ascending order. -/
def sortS : List Nat → List Nat
  | [] => []
  | x :: l => insS x (sortS l)
theorem insS_perm (x : Nat) : ∀ l, (insS x l).Perm (x :: l)
  | [] => List.Perm.refl _
  | y :: l => by
    unfold insS
    split
    · exact List.Perm.refl _
    · exact ((insS_perm x l).cons y).trans (List.Perm.swap _ _ _)
theorem sortS_perm : ∀ l, (sortS l).Perm l
  | [] => List.Perm.refl _
  | x :: l => (insS_perm x _).trans ((sortS_perm l).cons x)
abbrev leS (a b : Nat) : Prop := cmpS a b ≤ 0
theorem insS_sorted (x : Nat) : ∀ l, l.Pairwise leS → (insS x l).Pairwise leS
  | [], _ => by unfold insS; simp
  | y :: l, h => by
    unfold insS
    have hy := List.pairwise_cons.1 h
    split
    · rename_i hx
      refine List.pairwise_cons.2 ⟨fun z hz => ?_, h⟩
      rcases List.mem_cons.1 hz with rfl | hz
      · exact hx
      · exact cmpL_trans _ _ _ hx (hy.1 z hz)
    · rename_i hx
      refine List.pairwise_cons.2 ⟨fun z hz => ?_, insS_sorted x l hy.2⟩
      rcases List.mem_cons.1 ((insS_perm x l).mem_iff.1 hz) with rfl | hz
      · have := cmpL_swap (listM z) (listM y)
        show cmpS y z ≤ 0
        simp only [cmpS] at *
        omega
      · exact hy.1 z hz
theorem sortS_sorted : ∀ l, (sortS l).Pairwise leS
  | [] => List.Pairwise.nil
  | x :: l => insS_sorted x _ (sortS_sorted l)
theorem sortS_unique {l l' : List Nat} (hl : ∀ x ∈ l, x < 65536) (hp : l'.Perm l) (hs : l'.Pairwise leS) : l' = sortS l := by
  refine List.Perm.eq_of_pairwise (le := leS) (fun a b ha hb h1 h2 => ?_) hs (sortS_sorted l) (hp.trans (sortS_perm l).symm)
  have ha' := hl a (hp.mem_iff.1 ha)
  have hb' := hl b ((sortS_perm l).mem_iff.1 hb)
  have := cmpL_swap (listM a) (listM b)
  refine listM_inj ha' hb' (cmpL_zero ?_)
  simp only [leS, cmpS] at *
  omega
theorem list_sld (s : Nat) (w : World) (hs : s < 65536) : Calls Try.prog 56 #[sv s] w fun e w' => ∃ l cap, e = .returned (.slice l (listM s).length cap) ∧ IntsAt w' l (listM s) ∧ FutD w w' :=
  (list_d s w hs).mono fun _ _ ⟨_, e, hO, F, D⟩ => by
    obtain ⟨l, cap, rfl, hI⟩ := hO.ints
    exact ⟨l, cap, e, hI, F, D⟩
set_option maxRecDepth 100000 in
set_option maxHeartbeats 1000000 in
theorem clo_any (s t : Nat) (w : World) (hs : s < 65536) (ht : t < 65536) : Calls Try.prog 103 #[sv s, sv t] w fun e w' => e = .returned (.int .i64 (cmpS s t)) ∧ FutD w w' := by
  have H1 := Lib.hid (fun W => list_sld s W hs)
  have H2 := Lib.hid (fun W => list_sld t W ht)
  have h1 := list_le s
  have h2 := list_le t
  unfold cmpS
  generalize listM s = L1 at *
  generalize listM t = L2 at *
  go_enter Try.func103, Try.ntmps103
  go_wp2_with fail
  refine (H1.out _).mono ?_
  rintro _ w1 ⟨l1, c1, rfl, hI1, F1⟩
  have HI1 := Lib.hid hI1
  have HF1 := Lib.hid F1
  clear hI1 F1
  go_wp2_with fail
  refine (H2.out _).mono ?_
  rintro _ w2 ⟨l2, c2, rfl, hI2, F2⟩
  have HI2 := Lib.hid hI2
  have HI3 := Lib.hid (HI1.out.fut F2.1)
  have HF2 := Lib.hid (HF1.out.trans F2)
  clear hI2 F2
  have HC := Lib.hid (compareL_any l1 l2 c1 c2 L1 L2 w2 (by omega) (by omega) HI3.out HI2.out)
  go_wp2_with fail
  refine HC.out.mono ?_
  rintro _ _ ⟨rfl, rfl⟩
  go_wp2
  go_ret
  exact ⟨rfl, HF2.out⟩
abbrev Set16 := Fin 65536
abbrev encS (x : Set16) : Value := .int .u64 (x.val : Int)
theorem oneS : OneCell encS := fun _ => rfl
abbrev cfS (x y : Set16) : Int := cmpS x.val y.val
theorem swoS : SWO (ltOf cfS) := by
  have e : ∀ i j, (ltOf cfS) i j = decide (cfS i j < 0) := fun i j => rfl
  have sw : ∀ i j, cfS j i = - cfS i j := fun i j => cmpL_swap _ _
  have tr : ∀ i j k, cfS i j ≤ 0 → cfS j k ≤ 0 → cfS i k ≤ 0 := fun i j k => cmpL_trans _ _ _
  refine ⟨fun x => ?_, fun x y z => ?_, fun x y z => ?_⟩ <;> simp only [e, decide_eq_true_eq, decide_eq_false_iff_not]
  · have := sw x x; omega
  · intro h h'
    have h1 := tr x y z (by omega) (by omega)
    have h2 := sw x z
    by_cases h0 : cfS x z = 0
    · have h3 := tr z x y (by omega) (by omega)
      have h4 := sw y z
      omega
    · omega
  · intro h h'
    have h1 := sw x y
    have h2 := sw y z
    have h3 := tr z y x (by omega) (by omega)
    have h4 := sw x z
    omega
theorem laysS (blk off size : Nat) (w : World) : CmpLays1 Try.prog 103 #[] encS cfS blk off size w := fun m os dk _ x y =>
  (clo_any x.val y.val (sortWorld encS w blk off m dk os) x.isLt y.isLt).mono fun _ _ ⟨e, F⟩ => ⟨e, F.grow⟩
/-- the slice at a reads as these sets. -/
def SetsAt (w : World) (a : Option Addr) (cs : List Nat) : Prop :=
  ∀ j, j < cs.length → ∃ b off, a = some ⟨b, off, none⟩ ∧ b < w.heap.size ∧ w.cell? ⟨b, off + j, none⟩ = some (sv (cs[j]?.getD 0))
theorem SetsAt.fut {w w' : World} {a : Option Addr} {cs : List Nat} (h : SetsAt w a cs) (F : Fut w w') : SetsAt w' a cs := fun j hj => by
  obtain ⟨b, off, rfl, h1, h2⟩ := h j hj
  exact ⟨b, off, rfl, Nat.lt_of_lt_of_le h1 (RowKit.Below.size F), (RowKit.Below.cell F (p := ⟨b, off + j, none⟩) h1).trans h2⟩
def OwnS (w : World) (B : Nat) (v : Value) (cs : List Nat) : Prop := w.ownsRow B 79 1 v cs.length (cs.map fun (c : Nat) => Value.int .u64 (c : Int))
theorem OwnS.at {w : World} {B g n : Nat} {cap : Nat} {L : List Nat} (h : OwnS w B (.slice (some ⟨g, 0, none⟩) n cap) L) (hn : L.length = n) (z : Nat) (hz : z < n) :
    w.cell? ⟨g, z, none⟩ = some (sv (L[z]?.getD 0)) ∧ w.frozen? ⟨g, z, none⟩ = false ∧ g < w.heap.size := by
  unfold OwnS at h
  rw [hn] at h
  have h1 := h.cellAt z (by omega)
  refine ⟨?_, h.frozenAt z, (h.lt g rfl).2⟩
  rw [h1]
  simp [List.getElem?_eq_getElem (show z < L.length by omega)]
abbrev fin16 (c : Nat) : Set16 := ⟨c % 65536, Nat.mod_lt _ (by decide)⟩
theorem fin16_val {c : Nat} (h : c < 65536) : (fin16 c).val = c := Nat.mod_eq_of_lt h
theorem below_putS {w w0 : World} {B blk off : Nat} (h : RowKit.Below B w0 w) (hb : B ≤ blk) (d : Array Set16) : RowKit.Below B w0 (putRow encS w blk off d) :=
  h.trans ⟨rfl, rfl, rfl, by simp, fun k hk => by
    show (w.heap.modify blk _)[k]? = _
    rw [Array.getElem?_modify, if_neg (by omega)]⟩
theorem below_grow {w w0 : World} {B : Nat} (h : RowKit.Below B w0 w) (hB : B ≤ w.heap.size) (os : Array Obj) : RowKit.Below B w0 (grow w os) :=
  h.trans ⟨rfl, rfl, rfl, by unfold Go.Sort.grow; simp, fun k hk => by
    show (w.heap ++ os)[k]? = _
    rw [Array.getElem?_append, if_pos (by omega)]⟩
theorem sort_any (g cap B : Nat) (cs : List Nat) (w : World) (hO : OwnS w B (.slice (some ⟨g, 0, none⟩) cs.length cap) cs) (hc : ∀ c ∈ cs, c < 65536) (hl : cs.length ≤ 1000) (h0 : 0 < cs.length) :
    Calls Try.prog 102 #[.slice (some ⟨g, 0, none⟩) cs.length cap, .func (.func 103) #[] #[]] w fun e w' => e = .returned (.tuple #[]) ∧ SetsAt w' (some ⟨g, 0, none⟩) (sortS cs) ∧ RowKit.Below g w w' := by
  have hg := (OwnS.at hO rfl 0 h0).2.2
  have hd : ((cs.map fin16).toArray).size = cs.length := by simp
  have hget : ∀ j, j < cs.length → ((cs.map fin16).toArray[j]!).val = cs[j]?.getD 0 := fun j hj => by
    rw [getElem!_pos _ j (by simpa using hj)]
    simp [List.getElem?_eq_getElem hj]
    exact hc _ (List.getElem_mem hj)
  have hH : Holds encS w g 0 (cs.map fin16).toArray := fun j hj => by
    rw [hd] at hj
    obtain ⟨h1, h2, _⟩ := OwnS.at hO rfl j hj
    rw [Nat.zero_add]
    refine ⟨?_, h2⟩
    rw [h1]
    show _ = some (Value.int .u64 _)
    rw [hget j hj]
  have := Any.slices_SortFunc fLay encS oneS cfS swoS 103 #[] g 0 cap (cs.map fin16).toArray w (enters_of Try.func103 (by kernel_rfl) rfl) (laysS _ _ _ _) hH hg (by rw [hd]; omega)
  rw [hd] at this
  refine this.mono ?_
  rintro e w' ⟨he, d', n, os, hp, hs, rfl⟩
  have hds : d'.size = cs.length := hp.1.trans hd
  have hperm : d'.toList.Perm (cs.map fin16) := by
    have h3 := hp.2.2
    have e1 : d'.extract 0 cs.length = d' := by rw [← hds]; simp
    have e2 : ((cs.map fin16).toArray).extract 0 cs.length = (cs.map fin16).toArray := by
      simp
      rw [List.take_of_length_le (by simp)]
    rw [e1, e2] at h3
    simpa using h3
  have hback : (cs.map fin16).map (fun x => x.val) = cs := by
    rw [List.map_map]
    conv => rhs; rw [← List.map_id cs]
    exact List.map_congr_left fun c h => fin16_val (hc c h)
  have hsort : d'.toList.map (fun x => x.val) = sortS cs := by
    refine sortS_unique hc ?_ ?_
    · have := hperm.map (fun x => x.val)
      rwa [hback] at this
    · rw [List.pairwise_map, List.pairwise_iff_getElem]
      intro i j hi hj hij
      have h4 := hs i j (Nat.zero_le _) hij (by simpa [hds] using hj)
      rw [getElem!_pos _ j (by simpa using hj), getElem!_pos _ i (by simpa using hi)] at h4
      have h5 : ¬ cfS (d'[j]'(by simpa using hj)) (d'[i]'(by simpa using hi)) < 0 := by simpa [ltOf] using h4
      have h6 := cmpL_swap (listM (d'[j]'(by simpa using hj)).val) (listM (d'[i]'(by simpa using hi)).val)
      simp only [cfS, cmpS, leS, Array.getElem_toList] at *
      omega
  have hHn : Holds encS (Sort.ahead w n) g 0 (cs.map fin16).toArray := hH
  have hgn : g < (putRow encS (Sort.ahead w n) g 0 d').heap.size := by simpa using hg
  refine ⟨he, fun j hj => ⟨g, 0, rfl, ?_, ?_⟩, ?_⟩
  · unfold sortWorld Go.Sort.grow; simp; omega
  · unfold sortWorld
    rw [cell?_grow (h := hgn)]
    have hj' : j < d'.size := by rw [hds]; rw [← (sortS_perm cs).length_eq]; exact hj
    rw [cell?_putRow encS _ g 0 _ d' hHn (by rw [hds, hd]) j hj', ← hsort]
    congr 1
    rw [getElem!_pos _ j hj']
    simp [hj']
  · unfold sortWorld
    refine below_grow (below_putS (w := Sort.ahead w n) ?_ (Nat.le_refl _) _) (by simpa using Nat.le_of_lt hg) _
    exact ⟨rfl, rfl, rfl, Nat.le_refl _, fun _ _ => rfl⟩
end Go.Proofs.Ytimddkofcejijaa
