/- LaneCounts: the reference's signed: rsigned_own, sgR_det -/
import Derived.Test.YtflllkamdihfaaaLDH
import Derived.Test.YtflllkamdihfaaaLL
import Derived.Test.YtflllkamdihfaaaLI
import Derived.Test.YtflllkamdihfaaaLCG
namespace Go.Proofs.Ytflllkamdihfaaa
open Go.RowKit Go.Sort
/-- the signs of an order's last number, against those before it. -/
def sgJ (o : List Int) (i : Nat) : Nat → Int → Int
  | 0, x => x
  | j + 1, x => if nth o i < nth o j then - sgJ o i j x else sgJ o i j x
/-- the product along an order, with its sign. -/
def sgP (t : List (List Int)) (o : List Int) : Nat → Int
  | 0 => 1
  | i + 1 => sgJ o i i (sgP t o i * nth (lth t i) (nth o i).toNat)
/-- the sum over the first so many next numbers. -/
def sgA (g : List Int → Int) (o : List Int) : Nat → Int
  | 0 => 0
  | i + 1 => if o.contains (i : Int) = true then sgA g o i else sgA g o i + g (o ++ [(i : Int)])
def sgR (t : List (List Int)) (n : Nat) : Nat → List Int → Int
  | 0, o => sgP t o o.length
  | f + 1, o => sgA (sgR t n f) o n
theorem sgR_det (t : List (List Int)) (n : Nat) (hn : n ≤ 3) (ht : t.length = n) (hr : ∀ k, k < n → (lth t k).length = n) : sgR t n n [] = detF n t := by
  match n, hn with
  | 0, _ => rfl
  | 1, _ =>
    match t, ht with
    | [r0], _ =>
      have h0 : r0.length = 1 := hr 0 (by omega)
      match r0, h0 with
      | [a], _ =>
        simp [sgR, sgA, sgP, sgJ, detF, sgI, lth, nth, List.range_succ]
  | 2, _ =>
    match t, ht with
    | [r0, r1], _ =>
      have h0 : r0.length = 2 := hr 0 (by omega)
      have h1 : r1.length = 2 := hr 1 (by omega)
      match r0, h0, r1, h1 with
      | [a, b], _, [c, d], _ =>
        simp [sgR, sgA, sgP, sgJ, detF, woL, sgI, lth, nth, List.range_succ]
        grind
  | 3, _ =>
    match t, ht with
    | [r0, r1, r2], _ =>
      have h0 : r0.length = 3 := hr 0 (by omega)
      have h1 : r1.length = 3 := hr 1 (by omega)
      have h2 : r2.length = 3 := hr 2 (by omega)
      match r0, h0, r1, h1, r2, h2 with
      | [a, b, c], _, [d, e, f], _, [g, h, i], _ =>
        simp [sgR, sgA, sgP, sgJ, detF, woL, sgI, lth, nth, List.range_succ]
        grind
theorem sgJ_abs (o : List Int) (i : Nat) (x : Int) : ∀ j, (sgJ o i j x).natAbs = x.natAbs
  | 0 => rfl
  | j + 1 => by
    unfold sgJ
    split
    · rw [Int.natAbs_neg, sgJ_abs o i x j]
    · exact sgJ_abs o i x j
theorem sgP_le {t : List (List Int)} (h : BndT t) (o : List Int) : ∀ i, (sgP t o i).natAbs ≤ 65536 ^ i
  | 0 => by simp [sgP]
  | i + 1 => by
    unfold sgP
    rw [sgJ_abs, Int.natAbs_mul, Nat.pow_succ]
    exact Nat.mul_le_mul (sgP_le h o i) (h.at i _)
theorem sgA_le {g : List Int → Int} {o : List Int} {B : Nat} (h : ∀ i : Nat, (g (o ++ [(i : Int)])).natAbs ≤ B) : ∀ i, (sgA g o i).natAbs ≤ i * B
  | 0 => by simp [sgA]
  | i + 1 => by
    have h1 := sgA_le h i
    have h2 := h i
    unfold sgA
    rw [Nat.succ_mul]
    split
    · omega
    · omega
theorem sgR_le {t : List (List Int)} (h : BndT t) (n : Nat) (hn : n ≤ 3) : ∀ (f : Nat) (o : List Int), o.length + f = n → (sgR t n f o).natAbs ≤ 3 ^ f * 281474976710656
  | 0, o, ho => by
    unfold sgR
    have h1 := sgP_le h o o.length
    have h2 : 65536 ^ o.length ≤ 65536 ^ 3 := Nat.pow_le_pow_right (by decide) (by omega)
    have h3 : 65536 ^ 3 = 281474976710656 := by decide
    omega
  | f + 1, o, ho => by
    unfold sgR
    have h1 := sgA_le (g := sgR t n f) (o := o) (B := 3 ^ f * 281474976710656) (fun i => sgR_le h n hn f _ (by rw [List.length_append, List.length_singleton]; omega)) n
    have h2 := Nat.mul_le_mul_right (3 ^ f * 281474976710656) hn
    rw [Nat.pow_succ, Nat.mul_comm (3 ^ f) 3, Nat.mul_assoc]
    omega
theorem mul_facts {x y : Int} (hx : x.natAbs ≤ 4294967296) (hy : y.natAbs ≤ 65536) : IntKind.i64.wrap (x * y) = x * y ∧ wrap64 (x * y) = x * y := by
  have h := Nat.mul_le_mul hx hy
  rw [← Int.natAbs_mul] at h
  generalize x * y = p at *
  have h2 : 4294967296 * 65536 = 281474976710656 := by decide
  refine ⟨IntWalk.i64_in _ ⟨by omega, by omega⟩, ?_⟩
  unfold wrap64; omega
set_option maxRecDepth 100000 in
set_option maxHeartbeats 16000000 in
theorem rsigned_own (n : Nat) (hn : n ≤ 3) (a : Option Addr) (cap : Nat) (t : List (List Int)) (ht : t.length = n) (hr : ∀ k, k < n → (lth t k).length = n) (hB : BndT t) : ∀ (f : Nat) (o : List Int) (ov : Value) (w : World), o.length + f = n → (∀ k, k < o.length → 0 ≤ nth o k ∧ nth o k < n) → Owns w 0 ov o → LstC w a t →
    Calls Try.prog 80 #[.slice a n cap, ov] w fun e w' => e = .returned (.int .i64 (sgR t n f o)) ∧ Fut w w' := by
  intro f
  induction f with
  | zero =>
    intro o ov w hf ho hO hL
    obtain ⟨oa, oc, rfl, _, _, hI⟩ := hO.form
    have hfn : o.length = n := by omega
    have hlx : ((o.length : Int) == (n : Int)) = true := by rw [beq_iff_eq]; omega
    have HL := Lib.hid hL
    have HI := Lib.hid hI
    have HR := Lib.hid hr
    have HO := Lib.hid ho
    have HT := Lib.hid ht
    have HPL := Lib.hid (fun i (hi : i ≤ 3) => show (sgP t o i).natAbs ≤ 281474976710656 from Nat.le_trans (sgP_le hB o i) (Nat.le_trans (Nat.pow_le_pow_right (by decide) hi) (by decide)))
    have HPM := Lib.hid (fun i (hi : i ≤ 2) => show (sgP t o i).natAbs ≤ 4294967296 from Nat.le_trans (sgP_le hB o i) (Nat.le_trans (Nat.pow_le_pow_right (by decide) hi) (by decide)))
    have HBA := Lib.hid (fun k i => hB.at k i)
    have HPS : Hid (∀ i, sgP t o (i + 1) = sgJ o i i (sgP t o i * nth (lth t i) (nth o i).toNat)) := Lib.hid (fun i => rfl)
    have HP0 : Hid (sgP t o 0 = 1) := Lib.hid rfl
    have HE : Hid (sgR t n 0 o = sgP t o n) := Lib.hid (by unfold sgR; rw [hfn])
    rw [HE.out]
    clear hL hI hr ho ht hB hO HE
    generalize hP : sgP t o = P at *
    clear hP
    go_enter Try.func80, Try.ntmps80
    go_wp2_with fail
    go_loopw [6, 7] (fun xv iv wr => ∃ i : Nat, i ≤ n ∧ xv = .int .i64 (P i) ∧ iv = .int .i64 i ∧ Hid (Fut w wr)) (fun _ iv _ => n - (intOf iv).toNat)
    case atStart => exact ⟨0, Nat.zero_le _, by rw [HP0.out], rfl, Lib.hid Fut.rfl⟩
    case round =>
      obtain ⟨i, hi, rfl, rfl, HF⟩ := hrel
      by_cases hil : i < n
      · have hix : (i : Int) < n := by omega
        have hio : (i : Int) < o.length := by omega
        obtain ⟨c, hc⟩ : ∃ c : Nat, nth o i = (c : Int) := ⟨(nth o i).toNat, by have := (HO.out i (by omega)).1; omega⟩
        have hcn : c < n := by have := (HO.out i (by omega)).2; omega
        have hcx : (c : Int) < n := by omega
        obtain ⟨rb, ro, rl, rlc, rfl, _, c1, _, _, hIr⟩ := (HL.out.fut HF.out) i (by rw [HT.out]; exact hil)
        have hrl := HR.out i hil
        rw [hrl] at c1
        obtain ⟨ob, oo, rfl, hob, c2⟩ := (HI.out.fut HF.out) i (by omega)
        have HOC : Hid (∀ j, j < o.length → ∀ W, Fut w W → W.cell? ⟨ob, oo + j, none⟩ = some (.int .i64 (nth o j))) := Lib.hid (fun j hj W G => by
          obtain ⟨b1, o1, e1, hb1, c3⟩ := (HI.out.fut G) j hj
          simp only [Option.some.injEq, Addr.mk.injEq, and_true] at e1
          obtain ⟨rfl, rfl⟩ := e1
          exact c3)
        rw [hc] at c2
        obtain ⟨eb, eo, rfl, _, c3⟩ := hIr c (by rw [hrl]; exact hcn)
        have HPI := Lib.hid (HPM.out i (by omega))
        have hm := mul_facts HPI.out (HBA.out i c)
        have HPN : Hid (P (i + 1) = sgJ o i i (P i * nth (lth t i) c)) := Lib.hid (by rw [HPS.out, hc, Int.toNat_natCast])
        have HJB := Lib.hid (fun j => show (sgJ o i j (P i * nth (lth t i) c)).natAbs ≤ 281474976710656 by
          rw [sgJ_abs, Int.natAbs_mul]
          exact Nat.le_trans (Nat.mul_le_mul HPI.out (HBA.out i c)) (by decide))
        have HC := Lib.hid hc
        generalize nth (lth t i) c = y at *
        generalize P i = x at *
        obtain ⟨hm1, hm2⟩ := hm
        obtain ⟨p, hp⟩ : ∃ p, p = x * y := ⟨_, rfl⟩
        rw [← hp] at hm1 hm2 HPN HJB
        rw [hp] at hm1 hm2
        have hm1' : IntKind.i64.wrap (x * y) = p := by rw [hp]; exact hm1
        have hm2' : wrap64 (x * y) = p := by rw [hp]; exact hm2
        clear hm1 hm2 hp hIr hrl hc
        go_upto_region 7 with fail
        go_quiet (fail)
        have HF1 := Lib.hid (HF.out.trans (Fut.drewN wr nq))
        clear c1 c2 c3 hm1' hm2'
        generalize wr.drewN nq = w1 at *
        have HJ0 : Hid (sgJ o i 0 p = p) := Lib.hid rfl
        go_wp2_with fail
        go_loopw [6, 8] (fun xv jv wr => ∃ j : Nat, j ≤ i ∧ xv = .int .i64 (sgJ o i j p) ∧ jv = .int .i64 j ∧ Hid (Fut w wr)) (fun _ jv _ => i - (intOf jv).toNat)
        case atStart => exact ⟨0, Nat.zero_le _, by rw [HJ0.out], rfl, HF1⟩
        case round =>
          obtain ⟨j, hj, rfl, rfl, HFj⟩ := hrel
          by_cases hjl : j < i
          · have hjx : (j : Int) < i := by omega
            have hjo : (j : Int) < o.length := by omega
            have d1 := HOC.out j (by omega) wr HFj.out
            have d2 := HOC.out i (by omega) wr HFj.out
            have HJN : Hid (sgJ o i (j + 1) p = if nth o i < nth o j then - sgJ o i j p else sgJ o i j p) := Lib.hid rfl
            have hjb := HJB.out j
            generalize sgJ o i j p = z at *
            generalize nth o j = oj at *
            generalize nth o i = oi at *
            have hz1 : -281474976710656 ≤ z := by omega
            have hz2 : z ≤ 281474976710656 := by omega
            by_cases hlt : oi < oj
            · have HJN2 : Hid (sgJ o i (j + 1) p = -z) := Lib.hid (by rw [HJN.out, if_pos hlt])
              have hneg : IntKind.i64.wrap (-z) = -z := IntWalk.i64_in _ ⟨by omega, by omega⟩
              go_upto_region 11 with fail
              go_quiet (fail)
              have HF2 := Lib.hid (HFj.out.trans (Fut.drewN wr nq))
              clear d1 d2
              generalize wr.drewN nq = w2 at *
              go_wp2_with fail
              go_roundw
              case rel => first
                | exact ⟨j + 1, by omega, by rw [HJN2.out], by go_num, HF2⟩
                | ((repeat apply Exists.intro); exact ⟨⟨j + 1, by omega, by rw [HJN2.out], by go_num, HF2⟩, rfl⟩)
              case measure => simp [intOf]; omega
            · have HJN2 : Hid (sgJ o i (j + 1) p = z) := Lib.hid (by rw [HJN.out, if_neg hlt])
              go_upto_region 11 with fail
              go_quiet (fail)
              have HF2 := Lib.hid (HFj.out.trans (Fut.drewN wr nq))
              clear d1 d2
              generalize wr.drewN nq = w2 at *
              go_wp2_with fail
              go_roundw
              case rel => first
                | exact ⟨j + 1, by omega, by rw [HJN2.out], by go_num, HF2⟩
                | ((repeat apply Exists.intro); exact ⟨⟨j + 1, by omega, by rw [HJN2.out], by go_num, HF2⟩, rfl⟩)
              case measure => simp [intOf]; omega
          · obtain rfl : j = i := by omega
            go_wp2_with fail
            go_roundw
            case rel => first
              | exact ⟨j + 1, by omega, by rw [HPN.out], by go_num, HFj⟩
              | ((repeat apply Exists.intro); exact ⟨⟨j + 1, by omega, by rw [HPN.out], by go_num, HFj⟩, rfl⟩)
            case measure => simp [intOf]; omega
      · obtain rfl : n = i := by omega
        have hio : ¬ (n : Int) < o.length := by omega
        go_wp2_with fail
        go_ret
        exact ⟨rfl, HF.out⟩
  | succ f ih =>
    intro o ov w hf ho hO hL
    obtain ⟨i0, hi0, hz0, hz1, hz2⟩ := info_parts info3
    obtain ⟨oa, oc, rfl, _, _, hI⟩ := hO.form
    have hlx : ((o.length : Int) == (n : Int)) = false := by rw [beq_eq_false_iff_ne]; omega
    have HI := Lib.hid hI
    have HO := Lib.hid hO
    have HOL : Hid (o.length ≤ 2) := Lib.hid (by omega)
    have HIH := Lib.hid (fun (i : Nat) (hi : i < n) ov' W (F : Fut w W) hO' => ih (o ++ [(i : Int)]) ov' W (by rw [List.length_append, List.length_singleton]; omega) (fun k hk => by
      rw [List.length_append, List.length_singleton] at hk
      rcases Nat.lt_or_ge k o.length with q | q
      · rw [nth_eq, List.getElem?_append_left q, ← nth_eq]; exact ho k q
      · obtain rfl : k = o.length := by omega
        rw [nth_eq, List.getElem?_append_right (Nat.le_refl _), Nat.sub_self]
        show 0 ≤ (i : Int) ∧ (i : Int) < n
        omega) hO' (hL.fut F))
    have hf3 : 3 ^ f * 281474976710656 ≤ 2533274790395904 := by
      have : 3 ^ f ≤ 3 ^ 2 := Nat.pow_le_pow_right (by decide) (by omega)
      have e : 3 ^ 2 = 9 := by decide
      omega
    have HGB := Lib.hid (fun i : Nat => Nat.le_trans (sgR_le hB n hn f (o ++ [(i : Int)]) (by rw [List.length_append, List.length_singleton]; omega)) hf3)
    have HAB : Hid (∀ i, i ≤ 3 → (sgA (sgR t n f) o i).natAbs ≤ 7599824371187712) := Lib.hid (fun i hi => by
      have h1 := sgA_le (g := sgR t n f) (o := o) (B := 2533274790395904) (fun i => HGB.out i) i
      omega)
    have HAS : Hid (∀ i, sgA (sgR t n f) o (i + 1) = if o.contains (i : Int) = true then sgA (sgR t n f) o i else sgA (sgR t n f) o i + sgR t n f (o ++ [(i : Int)])) := Lib.hid (fun i => rfl)
    have HA0 : Hid (sgA (sgR t n f) o 0 = 0) := Lib.hid rfl
    rw [show sgR t n (f + 1) o = sgA (sgR t n f) o n from rfl]
    clear hL hI hr ho ht hB hO ih hf3
    generalize sgA (sgR t n f) o = A at *
    generalize sgR t n f = R at *
    go_enter Try.func80, Try.ntmps80
    go_wp2_with fail
    go_loopw [9, 10] (fun xv iv wr => ∃ i : Nat, i ≤ n ∧ xv = .int .i64 (A i) ∧ iv = .int .i64 i ∧ Hid (Fut w wr)) (fun _ iv _ => n - (intOf iv).toNat)
    case atStart => exact ⟨0, Nat.zero_le _, by rw [HA0.out], rfl, Lib.hid Fut.rfl⟩
    case round =>
      obtain ⟨i, hi, rfl, rfl, HF⟩ := hrel
      by_cases hil : i < n
      · have hix : (i : Int) < n := by omega
        have HH := Lib.hid (rhas_any oa oc o (i : Int) wr (HI.out.fut HF.out) (by omega))
        have HS := Lib.hid (HAS.out i)
        have hab := HAB.out i (by omega)
        have hgb := HGB.out i
        have HRI := Lib.hid (fun ov' W (F : Fut w W) hO' => HIH.out i hil ov' W F hO')
        obtain ⟨y, hy⟩ : ∃ y, y = R (o ++ [(i : Int)]) := ⟨_, rfl⟩
        rw [← hy] at HS hgb HRI
        generalize A i = x at *
        clear hy
        cases hct : o.contains (i : Int)
        · rw [hct] at HH HS
          have HS2 : Hid (A (i + 1) = x + y) := Lib.hid (by rw [HS.out, if_neg (by decide)])
          have hw1 : IntKind.i64.wrap (x + y) = x + y := IntWalk.i64_in _ ⟨by omega, by omega⟩
          clear hct HS
          go_wp2_with fail
          refine HH.out.mono ?_
          rintro _ _ ⟨rfl, rfl⟩
          have FA := Fut.alloc wr (.cells #[] 3)
          have HSO := Lib.hid (src_owns ((HO.out.fut HF.out).fut FA))
          have HR0 : Hid ((wr.alloc (.cells #[] 3)).ownsRow wr.heap.size 3 1 (.slice (some ⟨wr.heap.size, 0, none⟩) 0 0) 0 []) := Lib.hid (World.ownsRow_lit (base := wr.heap.size) (e := 3) (size := 1) wr #[] 0 (Nat.le_refl _) (by unfold maxLen; omega) rfl)
          go_wp2_with (at_builtin; refine wpList_append_src rfl _ _ 22 rfl wr.heap.size 3 i0 (.int .i64 0) 8 Try.underlying22 hi0 hz0 hz1 hz2 rfl _ 0 [] rfl HR0.out _ o.length (o.map (Value.int .i64)) rfl HSO.out (by have := HOL.out; unfold maxLen; omega) (by have := HOL.out; omega) (RowKit.Below.size FA) ?_)
          intro av ac w8 hown hgr
          try simp only [Nat.zero_add, List.nil_append] at hown
          try simp only [Nat.zero_add]
          have F8 : Fut wr w8 := RowKit.Below.grown FA hgr (RowKit.Below.size FA) fun q hq => (World.ownsRow.lt HR0.out q hq).1
          have HR9 : Hid ((w8.alloc (.cells #[.int .i64 (i : Int)] 3)).ownsRow wr.heap.size 3 1 (.slice av o.length ac) o.length (o.map (Value.int .i64))) := Lib.hid (World.ownsRow.alloc hown _)
          have F9 := F8.trans (Fut.alloc w8 (.cells #[.int .i64 (i : Int)] 3))
          have HF9 := Lib.hid F9
          clear hown hgr F8 FA HSO HR0 F9
          go_wp2_with (at_builtin; refine wpList_append_src rfl _ _ 22 rfl wr.heap.size 3 i0 (.int .i64 0) 8 Try.underlying22 hi0 hz0 hz1 hz2 rfl (.slice av o.length ac) o.length (o.map (Value.int .i64)) rfl HR9.out _ 1 [.int .i64 (i : Int)] rfl (.inr ⟨⟨w8.heap.size, 0, none⟩, 1, rfl, rfl, cell_one (by simp [go_sem]), by simp [Value.oneCell']⟩) (by have := HOL.out; unfold maxLen; omega) (by have := HOL.out; omega) (RowKit.Below.size HF9.out) ?_)
          intro av2 ac2 w10 hown hgr
          have HF10 : Hid (Fut w w10) := Lib.hid (HF.out.trans (RowKit.Below.grown HF9.out hgr (RowKit.Below.size HF9.out) fun q hq => (World.ownsRow.lt HR9.out q hq).1))
          have HO10 : Hid (Owns w10 0 (.slice av2 (o.length + 1) ac2) (o ++ [(i : Int)])) := Lib.hid (Owns.base (B := wr.heap.size) (by
            unfold Owns
            rw [List.length_append, List.length_singleton, List.map_append]
            exact hown) (Nat.zero_le _))
          clear hown hgr HF9 HR9
          go_wp2_with fail
          refine (HRI.out _ w10 HF10.out HO10.out).mono ?_
          rintro _ w11 ⟨rfl, F11⟩
          have HF11 := Lib.hid (HF10.out.trans F11)
          clear F11
          go_wp2_with fail
          go_roundw
          case rel => first
            | exact ⟨i + 1, by omega, by rw [HS2.out], by go_num, HF11⟩
            | ((repeat apply Exists.intro); exact ⟨⟨i + 1, by omega, by rw [HS2.out], by go_num, HF11⟩, rfl⟩)
          case measure => simp [intOf]; omega
        · rw [hct] at HH HS
          have HS2 : Hid (A (i + 1) = x) := Lib.hid (by rw [HS.out, if_pos rfl])
          clear hct HS
          go_wp2_with fail
          refine HH.out.mono ?_
          rintro _ _ ⟨rfl, rfl⟩
          go_wp2_with fail
          go_roundw
          case rel => first
            | exact ⟨i + 1, by omega, by rw [HS2.out], by go_num, HF⟩
            | ((repeat apply Exists.intro); exact ⟨⟨i + 1, by omega, by rw [HS2.out], by go_num, HF⟩, rfl⟩)
          case measure => simp [intOf]; omega
      · obtain rfl : n = i := by omega
        go_wp2_with fail
        go_ret
        exact ⟨rfl, HF.out⟩
end Go.Proofs.Ytflllkamdihfaaa
