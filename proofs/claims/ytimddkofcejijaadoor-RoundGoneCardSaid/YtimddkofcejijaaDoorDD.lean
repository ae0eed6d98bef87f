/- Layer 2: RoundEnough's search for a round. -/
import Derived.Test.YtimddkofcejijaaDoorEB
import Derived.Test.YtimddkofcejijaaDoorNA
import Derived.Test.YtimddkofcejijaaDoorSE
import Derived.Test.YtimddkofcejijaaDoorSF
import Derived.Test.YtimddkofcejijaaDoorDA
import Derived.Deep.AppendLies
import Derived.Deep.CutBlock
namespace Go.Proofs.YtimddkofcejijaaDoor
open Go.RowKit Go.Sort
/-- how often each street is left, as a list. -/
def kL (K : Nat → Nat) (m : Nat) : List Int := (List.range m).map fun i => (K i : Int)
theorem kL_len (K : Nat → Nat) (m : Nat) : (kL K m).length = m := by unfold kL; simp
theorem kL_nth {K : Nat → Nat} {m i : Nat} (h : i < m) : nth (kL K m) i = (K i : Int) := by
  rw [nth_eq]; unfold kL
  rw [List.getElem?_map, List.getElem?_range h]; rfl
theorem kL_less {K : Nat → Nat} {m i : Nat} (hK : 0 < K i) : (kL K m).set i ((K i : Int) - 1) = kL (less1 K i) m := by
  apply List.ext_getElem
  · rw [List.length_set, kL_len, kL_len]
  · intro j h1 h2
    rw [List.getElem_set]
    have e1 : (kL K m)[j]'(by simpa using h1) = (K j : Int) := by simp [kL]
    have e2 : (kL (less1 K i) m)[j]'h2 = (less1 K i j : Int) := by simp [kL]
    rw [e1, e2]
    unfold less1
    by_cases e : i = j
    · subst e; rw [if_pos rfl, if_pos rfl]; omega
    · rw [if_neg e, if_neg (fun e' => e e'.symm)]
def goG (ss : List (Int × Int)) (n x : Nat) (K : Nat → Nat) : Option (List Nat) := goF (en1 ss) (en2 ss) ss.length n x K
/-- what one street leads to. -/
def goQ (ss : List (Int × Int)) (n x : Nat) (K : Nat → Nat) (i : Nat) : Option (List Nat) := if 0 < K i ∧ touches (en1 ss) (en2 ss) i x then (goG ss n (oth (en1 ss) (en2 ss) i x) (less1 K i)).map (i :: ·) else none
def GoI (ss : List (Int × Int)) (n x : Nat) (K : Nat → Nat) (i : Nat) (more : Bool) : Prop := (more = true ↔ ∃ j, j < i ∧ 0 < K j) ∧ ∀ j, j < i → goQ ss n x K j = none
theorem GoI.zero (ss : List (Int × Int)) (n x : Nat) (K : Nat → Nat) : GoI ss n x K 0 false :=
  ⟨⟨(fun h => by cases h), (fun ⟨j, hj, _⟩ => absurd hj (by omega))⟩, fun j hj => absurd hj (by omega)⟩
theorem GoI.skip {ss : List (Int × Int)} {n x : Nat} {K : Nat → Nat} {i : Nat} {more : Bool} (h : GoI ss n x K i more) (hk : K i = 0) : GoI ss n x K (i + 1) more := by
  refine ⟨⟨fun e => ?_, fun ⟨j, h1, h2⟩ => ?_⟩, fun j hj => ?_⟩
  · obtain ⟨j, h1, h2⟩ := h.1.1 e
    exact ⟨j, by omega, h2⟩
  · refine h.1.2 ⟨j, ?_, h2⟩
    rcases Nat.lt_or_ge j i with h3 | h3
    · exact h3
    · obtain rfl : j = i := by omega
      omega
  · rcases Nat.lt_or_ge j i with h3 | h3
    · exact h.2 j h3
    · obtain rfl : j = i := by omega
      unfold goQ; rw [if_neg (by omega)]
theorem GoI.next {ss : List (Int × Int)} {n x : Nat} {K : Nat → Nat} {i : Nat} {more : Bool} (h : GoI ss n x K i more) (hk : 0 < K i) (hq : goQ ss n x K i = none) : GoI ss n x K (i + 1) true := by
  refine ⟨⟨fun _ => ⟨i, by omega, hk⟩, fun _ => rfl⟩, fun j hj => ?_⟩
  rcases Nat.lt_or_ge j i with h3 | h3
  · exact h.2 j h3
  · obtain rfl : j = i := by omega
    exact hq
theorem fs_none {α : Type} {f : Nat → Option α} : ∀ {m : Nat}, (∀ j, j < m → f j = none) → (List.range m).findSome? f = none := fun {m} h => by
  rw [List.findSome?_eq_none_iff]
  intro j hj
  exact h j (List.mem_range.1 hj)
theorem fs_at {α : Type} {f : Nat → Option α} {i m : Nat} {v : α} (h : ∀ j, j < i → f j = none) (hi : f i = some v) (hm : i < m) : (List.range m).findSome? f = some v := by
  obtain ⟨d, rfl⟩ : ∃ d, m = i + 1 + d := ⟨m - (i + 1), by omega⟩
  induction d with
  | zero => rw [Nat.add_zero, List.range_succ, List.findSome?_append, fs_none h]; simp [hi]
  | succ d ih => rw [show i + 1 + (d + 1) = i + 1 + d + 1 by omega, List.range_succ, List.findSome?_append, ih (by omega)]; rfl

abbrev capG (B G : Nat) : Array Value := #[.pointer (some ⟨B, 0, none⟩), .pointer (some ⟨G, 0, none⟩)]
/-- what holds of all worlds behind: the map, its box, the function's own place. -/
def KeepG (w0 : World) (g B G : Nat) (c : Nat) (a : Option Addr) (cap : Nat) (ss : List (Int × Int)) : Prop := ∀ W, RowKit.Below g w0 W → StrAt W a ss ∧ BoxM W B c a ss.length cap ∧ W.cell? ⟨G, 0, none⟩ = some (.func (.func 23) #[] (capG B G))
set_option maxRecDepth 100000 in
set_option maxHeartbeats 4000000 in
theorem goesC {ss : List (Int × Int)} {c : Nat} (hg : GoodS ss c) (hlen : ss.length ≤ 9) (hc6 : c ≤ 6) (a : Option Addr) (cap B G g : Nat) (w0 : World) (hKG : KeepG w0 g B G c a cap ss) : ∀ (n x : Nat) (K : Nat → Nat) (w : World), RowKit.Below g w0 w → Owns w g (.slice (some ⟨g, 0, none⟩) ss.length ss.length) (kL K ss.length) → x < c → (∀ i, i < ss.length → K i ≤ 2) → sm ss.length K < n →
    Calls Tryd.prog 23 #[.int .i64 x, .slice (some ⟨g, 0, none⟩) ss.length ss.length, .pointer (some ⟨B, 0, none⟩), .pointer (some ⟨G, 0, none⟩)] w fun e w' => e = .returned (.bool (goG ss n x K).isSome) ∧ RowKit.Below g w w' ∧ Owns w' g (.slice (some ⟨g, 0, none⟩) ss.length ss.length) (kL K ss.length) := by
  intro n
  induction n with
  | zero => intro x K w _ _ _ _ h; omega
  | succ n ih =>
    intro x K w hBW hO hx hK hn
    have IH := Lib.hid ih
    have HKG := Lib.hid hKG
    have HBW := Lib.hid hBW
    have HO := Lib.hid hO
    have HK := Lib.hid hK
    have HG := Lib.hid hg
    have hlx : (ss.length : Int) ≤ 9 := by omega
    have hxx : (x : Int) ≤ 6 := by omega
    have HRES : Hid (goG ss (n + 1) x K = match (List.range ss.length).findSome? (goQ ss n x K) with | some r => some r | none => if sm ss.length K = 0 ∧ x = 0 then some [] else none) := Lib.hid rfl
    clear ih hKG hBW hO hK hg
    generalize goG ss (n + 1) x K = R at *
    obtain ⟨_, ⟨hb, b0, b1⟩, _⟩ := HKG.out w HBW.out
    go_enter Tryd.func23, Tryd.ntmps23
    go_upto_region 3 with fail
    clear hb b0 b1
    go_loopw [7, 8, 9, 10, 14] (fun dv _ _ _ iv wr => ∃ (i : Nat) (done : Bool), i ≤ ss.length ∧ iv = .int .i64 i ∧ dv = .bool done ∧ Hid (GoI ss n x K i (!done)) ∧ Hid (RowKit.Below g w wr) ∧ Hid (Owns wr g (.slice (some ⟨g, 0, none⟩) ss.length ss.length) (kL K ss.length))) (fun _ _ _ _ iv _ => ss.length - (intOf iv).toNat)
    case atStart => exact ⟨0, true, Nat.zero_le _, rfl, rfl, Lib.hid (GoI.zero ss n x K), Lib.hid (RowKit.Below.refl g w), HO⟩
    case round =>
      clear HO
      obtain ⟨i, done, hi, rfl, rfl, HM, HR, HO⟩ := hrel
      have HWR := Lib.hid (HBW.out.trans HR.out)
      by_cases hlt : i < ss.length
      · have hix : (i : Int) < ss.length := by omega
        obtain ⟨hS, hB, hGc⟩ := HKG.out wr HWR.out
        obtain ⟨sb, soff, ea, hsb, s1, s2⟩ := hS i hlt
        obtain ⟨g1, g2, g3, g4⟩ := good_str HG.out hlt
        rw [g3] at s1
        rw [g4] at s2
        subst ea
        obtain ⟨o1, o2, o3⟩ := own_at HO.out (kL_len K ss.length) i hlt
        rw [kL_nth hlt] at o1
        have hk2 := HK.out i hlt
        clear hS hB hGc
        by_cases hk : K i = 0
        · have hkb : ((K i : Int) == 0) = true := by rw [hk]; rfl
          have HM2 := Lib.hid (HM.out.skip hk)
          have HF5 := Lib.hid (HR.out.alloc (Nat.le_of_lt o3) (.cells #[.int .i64 (en1 ss i), .int .i64 (en2 ss i)] 54))
          have HO5 := Lib.hid (HO.out.fut (Fut.alloc wr (.cells #[.int .i64 (en1 ss i), .int .i64 (en2 ss i)] 54)))
          have o5 : (wr.alloc (.cells #[.int .i64 (en1 ss i), .int .i64 (en2 ss i)] 54)).cell? ⟨g, i, none⟩ = some (.int .i64 (K i)) := (RowKit.Below.cell (Fut.alloc wr (.cells #[.int .i64 (en1 ss i), .int .i64 (en2 ss i)] 54)) (p := ⟨g, i, none⟩) o3).trans o1
          generalize K i = ki at *
          generalize en1 ss i = y at *
          generalize en2 ss i = z at *
          go_wp2
          go_roundw
          case rel => exact ⟨i + 1, done, by omega, by go_num, rfl, HM2, HF5, HO5⟩
          case measure => simp [intOf]; omega
        · have hkb : ((K i : Int) == 0) = false := by rw [beq_eq_false_iff_ne]; omega
          have hk0 : 0 < K i := by omega
          have HM2 := Lib.hid (fun (h : goQ ss n x K i = none) => HM.out.next hk0 h)
          have HT := Lib.hid (fun (h : ¬ touches (en1 ss) (en2 ss) i x) => (by unfold goQ; rw [if_neg (fun hh => h hh.2)] : goQ ss n x K i = none))
          have HT2 := Lib.hid (fun (h : touches (en1 ss) (en2 ss) i x) => (by unfold goQ; rw [if_pos ⟨hk0, h⟩] : goQ ss n x K i = (goG ss n (oth (en1 ss) (en2 ss) i x) (less1 K i)).map (i :: ·)))
          have hTI : touches (en1 ss) (en2 ss) i x ↔ (en1 ss i = x ∨ en2 ss i = x) := Iff.rfl
          have HOT : Hid (touches (en1 ss) (en2 ss) i x → (oth (en1 ss) (en2 ss) i x : Int) = (en1 ss i : Int) + en2 ss i - x ∧ oth (en1 ss) (en2 ss) i x < c) := Lib.hid (fun h => by
            unfold oth
            rcases h with h | h
            · rw [if_pos h]; omega
            · by_cases e : en1 ss i = x
              · rw [if_pos e]; omega
              · rw [if_neg e]; omega)
          have htl := tot_less hlt hk0
          have hls : (kL K ss.length).set i ((K i : Int) - 1) = kL (less1 K i) ss.length := kL_less hk0
          have hlb : (kL (less1 K i) ss.length).set i (K i : Int) = kL K ss.length := by
            rw [← hls, List.set_set]
            apply List.ext_getElem
            · simp
            · intro j h1 h2
              rw [List.getElem_set]
              split
              · rename_i e; subst e; simp [kL]
              · rfl
          have hl1 : less1 K i i = K i - 1 := by unfold less1; rw [if_pos rfl]
          have HKL : Hid (∀ j, j < ss.length → less1 K i j ≤ 2) := Lib.hid (fun j hj => by have := HK.out j hj; unfold less1; split <;> omega)
          go_upto_region 5 with fail
          have F5 : RowKit.Below g w (wr.alloc (.cells #[.int .i64 (en1 ss i), .int .i64 (en2 ss i)] 54)) := HR.out.alloc (Nat.le_of_lt o3) _
          have O5 := HO.out.fut (Fut.alloc wr (.cells #[.int .i64 (en1 ss i), .int .i64 (en2 ss i)] 54))
          have o5 : (wr.alloc (.cells #[.int .i64 (en1 ss i), .int .i64 (en2 ss i)] 54)).cell? ⟨g, i, none⟩ = some (.int .i64 (K i)) := (RowKit.Below.cell (Fut.alloc wr (.cells #[.int .i64 (en1 ss i), .int .i64 (en2 ss i)] 54)) (p := ⟨g, i, none⟩) o3).trans o1
          have f5 := (own_at O5 (kL_len K ss.length) i hlt).2.1
          have l0 : (wr.alloc (.cells #[.int .i64 (en1 ss i), .int .i64 (en2 ss i)] 54)).cell? ⟨wr.heap.size, 0, none⟩ = some (.int .i64 (en1 ss i)) := by simp [go_sem]
          have l1 : (wr.alloc (.cells #[.int .i64 (en1 ss i), .int .i64 (en2 ss i)] 54)).cell? ⟨wr.heap.size, 1, none⟩ = some (.int .i64 (en2 ss i)) := by simp [go_sem]
          have hgL : g < wr.heap.size := o3
          have hL5 : wr.heap.size < (wr.alloc (.cells #[.int .i64 (en1 ss i), .int .i64 (en2 ss i)] 54)).heap.size := by simp
          have HF5 := Lib.hid F5
          have HO5 := Lib.hid O5
          generalize hoth : oth (en1 ss) (en2 ss) i x = xo at *
          have hto : touches (en1 ss) (en2 ss) i x ∨ ¬ touches (en1 ss) (en2 ss) i x := Decidable.em _
          generalize touches (en1 ss) (en2 ss) i x = TT at *
          generalize en1 ss i = y at *
          generalize en2 ss i = z at *
          generalize wr.alloc (.cells #[.int .i64 y, .int .i64 z] 54) = w5 at *
          generalize wr.heap.size = L at *
          clear s1 s2 F5 O5 hoth hsb o1 o2 o3 HO HR HWR
          have HLS := Lib.hid hls
          have HLB := Lib.hid hlb
          have HTL := Lib.hid htl
          have HL1 := Lib.hid hl1
          obtain ⟨ki, hki⟩ : ∃ ki, ki = K i := ⟨_, rfl⟩
          rw [← hki] at o5 hkb hk2 hk0 HLS HLB HL1
          have HKI := Lib.hid hki
          clear hls hlb htl hl1 hki hk
          have hk2x : (ki : Int) ≤ 2 := by omega
          have hk0x : (1 : Int) ≤ ki := by omega
          rcases hto with ht | ht
          · have HTQ := Lib.hid (HT2.out ht)
            obtain ⟨ho1, ho2⟩ := HOT.out ht
            have hor := hTI.1 ht
            clear hTI ht
            go_upto_region 7 with fail
            go_cut [33] from 24 to 32 (fun s33 wx => s33 = .bool false ∧ wx = w5)
            case first =>
              rcases hor with h | h
              · subst h
                have h1 : ((y : Int) != y) = false := by simp
                clear ho1
                go_wp2_with fail
                go_meet
                exact ⟨rfl, rfl⟩
              · subst h
                have h2 : ((z : Int) != z) = false := by simp
                clear ho1
                by_cases h3 : y = z
                · subst h3
                  go_wp2_with fail
                  go_meet
                  exact ⟨rfl, rfl⟩
                · have h1 : ((y : Int) != z) = true := by rw [bne_iff_ne]; omega
                  clear h3
                  go_wp2_with fail
                  go_meet
                  exact ⟨rfl, rfl⟩
            case rest =>
              obtain ⟨rfl, rfl⟩ := hcut
              clear hor
              go_upto_region 9 with fail
              have O7 := own_set HO5.out (kL_len K ss.length) i ((ki : Int) - 1)
              rw [HLS.out] at O7
              have F7 : RowKit.Below g w (wc.setCell ⟨g, i, none⟩ (.int .i64 ((ki : Int) - 1))) := HF5.out.setCell (p := ⟨g, i, none⟩) (Nat.le_refl _) _
              have k0 : (wc.setCell ⟨g, i, none⟩ (.int .i64 ((ki : Int) - 1))).cell? ⟨L, 0, none⟩ = some (.int .i64 y) := (World.cell?_setCell_other _ _ _ _ (by intro e; have := congrArg Addr.block e; simp at this; omega)).trans l0
              have k1 : (wc.setCell ⟨g, i, none⟩ (.int .i64 ((ki : Int) - 1))).cell? ⟨L, 1, none⟩ = some (.int .i64 z) := (World.cell?_setCell_other _ _ _ _ (by intro e; have := congrArg Addr.block e; simp at this; omega)).trans l1
              generalize wc.setCell ⟨g, i, none⟩ (.int .i64 ((ki : Int) - 1)) = w7 at *
              obtain ⟨_, _, hGc⟩ := HKG.out w7 (HBW.out.trans F7)
              have HCALL := Lib.hid (IH.out xo (less1 K i) w7 (HBW.out.trans F7) O7 ho2 HKL.out (by have := HTL.out; omega))
              rw [ho1] at HCALL
              have HF7 := Lib.hid F7
              clear O7 F7 l0 l1 o5 f5 HF5 HO5 ho1
              have hwa : IntKind.i64.wrap ((y : Int) + z) = (y : Int) + z := IntWalk.i64_in _ ⟨by omega, by omega⟩
              have hwb : IntKind.i64.wrap ((y : Int) + z - x) = (y : Int) + z - x := IntWalk.i64_in _ ⟨by omega, by omega⟩
              generalize hRR : goG ss n xo (less1 K i) = RR at *
              clear hRR
              have hcase : RR.isSome = true ∨ RR = none := by cases RR <;> simp
              generalize hbq : RR.isSome = bq at *
              have HBQ := Lib.hid hbq
              clear hbq
              cases bq
              · go_wp2_with (go_at_call 23; (with_reducible refine HCALL.out.mono ?_); rintro _ w8 ⟨rfl, F8, O8⟩; have HF8 := Lib.hid (HF7.out.trans F8); have HO8 := Lib.hid O8; obtain ⟨q1, q2, q3⟩ := own_at O8 (kL_len _ _) i hlt; rw [kL_nth hlt, HL1.out, show ((ki - 1 : Nat) : Int) = (ki : Int) - 1 by omega] at q1; clear F8 O8 hGc k0 k1)
                have HO9 := own_set HO8.out (kL_len _ _) i (ki : Int)
                rw [HLB.out] at HO9
                have HO9 := Lib.hid HO9
                have HF9 := Lib.hid (HF8.out.setCell (p := ⟨g, i, none⟩) (Nat.le_refl _) (.int .i64 (ki : Int)))
                have hnone : RR = none := by
                  rcases hcase with h | h
                  · cases h
                  · exact h
                have HM3 := Lib.hid (HM2.out (by rw [HTQ.out, hnone]; rfl))
                clear hcase hnone HTQ HBQ HM2
                go_roundw
                case rel => first | exact ⟨i + 1, false, by omega, by go_num, rfl, HM3, HF9, HO9⟩ | ((repeat apply Exists.intro); refine ⟨⟨i + 1, false, by omega, ?_, rfl, HM3, HF9, HO9⟩, rfl⟩; go_num)
                case measure => simp [intOf]; omega
              · go_wp2_with (go_at_call 23; (with_reducible refine HCALL.out.mono ?_); rintro _ w8 ⟨rfl, F8, O8⟩; have HF8 := Lib.hid (HF7.out.trans F8); have HO8 := Lib.hid O8; obtain ⟨q1, q2, q3⟩ := own_at O8 (kL_len _ _) i hlt; rw [kL_nth hlt, HL1.out, show ((ki - 1 : Nat) : Int) = (ki : Int) - 1 by omega] at q1; clear F8 O8 hGc k0 k1)
                have HO9 := own_set HO8.out (kL_len _ _) i (ki : Int)
                rw [HLB.out] at HO9
                have F9 := HF8.out.setCell (p := ⟨g, i, none⟩) (Nat.le_refl _) (.int .i64 (ki : Int))
                obtain ⟨r, hr⟩ := Option.isSome_iff_exists.1 HBQ.out
                have hq : goQ ss n x K i = some (i :: r) := by rw [HTQ.out, hr]; rfl
                have hR : R = some (i :: r) := by rw [HRES.out, fs_at HM.out.2 hq hlt]
                subst hR
                clear HRES HTQ hcase HBQ hq
                go_ret
                exact ⟨rfl, F9, HO9⟩
          · have hyx : ((y : Int) != x) = true := by rw [bne_iff_ne]; intro e; exact ht (hTI.2 (Or.inl (by omega)))
            have hzx : ((z : Int) != x) = true := by rw [bne_iff_ne]; intro e; exact ht (hTI.2 (Or.inr (by omega)))
            have HM3 := Lib.hid (HM2.out (HT.out ht))
            clear hTI ht HTL
            go_wp2
            go_roundw
            case rel => exact ⟨i + 1, false, by omega, by go_num, rfl, HM3, HF5, HO5⟩
            case measure => simp [intOf]; omega
      · obtain rfl : i = ss.length := by omega
        have hsm : done = true ↔ sm ss.length K = 0 := by
          have h1 := HM.out.1
          constructor
          · intro hd
            refine Nat.eq_zero_of_not_pos fun hp => ?_
            obtain ⟨j, hj, hk⟩ := sm_pos _ hp
            have := h1.2 ⟨j, hj, hk⟩
            rw [hd] at this; cases this
          · intro h0
            cases hd : done
            · rw [hd] at h1
              obtain ⟨j, hj, hk⟩ := h1.1 rfl
              have := sm_all h0 j hj
              omega
            · rfl
        have hR : R.isSome = (done && decide (x = 0)) := by
          rw [HRES.out, fs_none HM.out.2]
          show (if sm ss.length K = 0 ∧ x = 0 then some ([] : List Nat) else none).isSome = _
          cases done
          · rw [if_neg (fun h => absurd (hsm.2 h.1) (by simp))]; rfl
          · by_cases hx0 : x = 0
            · rw [if_pos ⟨hsm.1 rfl, hx0⟩, decide_eq_true hx0]; rfl
            · rw [if_neg (fun h => hx0 h.2), decide_eq_false hx0]; rfl
        have HRS := Lib.hid hR
        clear hR hsm HRES
        cases done
        · go_wp2
          go_ret
          exact ⟨by rw [HRS.out]; rfl, HR.out, HO.out⟩
        · by_cases hx0 : x = 0
          · subst hx0
            go_wp2
            go_ret
            exact ⟨by rw [HRS.out]; rfl, HR.out, HO.out⟩
          · have hx0' : ((x : Int) == 0) = false := by rw [beq_eq_false_iff_ne]; omega
            have HDX := Lib.hid (decide_eq_false hx0)
            clear hx0
            go_wp2
            go_ret
            exact ⟨by rw [HRS.out, HDX.out]; rfl, HR.out, HO.out⟩
end Go.Proofs.YtimddkofcejijaaDoor
