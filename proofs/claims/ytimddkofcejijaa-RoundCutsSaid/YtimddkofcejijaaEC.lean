/- Layer 2: the reference's search for a round. -/
import Derived.Test.YtimddkofcejijaaEB
import Derived.Test.YtimddkofcejijaaRV
import Derived.Test.YtimddkofcejijaaSUD
import Derived.Deep.AppendLies
namespace Go.Proofs.Ytimddkofcejijaa
open Go.RowKit Go.Sort
/-- how often each street is left, as a list. -/
def kL (K : Nat → Nat) (m : Nat) : List Int := (List.range m).map fun i => (K i : Int)
theorem kL_len (K : Nat → Nat) (m : Nat) : (kL K m).length = m := by unfold kL; simp
theorem kL_nth {K : Nat → Nat} {m i : Nat} (h : i < m) : nth (kL K m) i = (K i : Int) := by
  rw [nth_eq]; unfold kL
  rw [List.getElem?_map, List.getElem?_range h]; rfl
theorem kL_less {K : Nat → Nat} {m i : Nat} (hK : 0 < K i) : (kL K m).set i ((K i : Int) - 1) = kL (less1 K i) m := by
  apply List.ext_getElem
  · rw [List.length_set, kL_len, kL_len]
  · intro j h1 h2
    rw [List.getElem_set]
    have e1 : (kL K m)[j]'(by simpa using h1) = (K j : Int) := by simp [kL]
    have e2 : (kL (less1 K i) m)[j]'h2 = (less1 K i j : Int) := by simp [kL]
    rw [e1, e2]
    unfold less1
    by_cases e : i = j
    · subst e; rw [if_pos rfl, if_pos rfl]; omega
    · rw [if_neg e, if_neg (fun e' => e e'.symm)]
def goG (ss : List (Int × Int)) (n x : Nat) (K : Nat → Nat) : Option (List Nat) := goF (en1 ss) (en2 ss) ss.length n x K
/-- what one street leads to. -/
def goQ (ss : List (Int × Int)) (n x : Nat) (K : Nat → Nat) (i : Nat) : Option (List Nat) := if 0 < K i ∧ touches (en1 ss) (en2 ss) i x then (goG ss n (oth (en1 ss) (en2 ss) i x) (less1 K i)).map (i :: ·) else none
def GoI (ss : List (Int × Int)) (n x : Nat) (K : Nat → Nat) (i : Nat) (more : Bool) : Prop := (more = true ↔ ∃ j, j < i ∧ 0 < K j) ∧ ∀ j, j < i → goQ ss n x K j = none
theorem GoI.zero (ss : List (Int × Int)) (n x : Nat) (K : Nat → Nat) : GoI ss n x K 0 false :=
  ⟨⟨(fun h => by cases h), (fun ⟨j, hj, _⟩ => absurd hj (by omega))⟩, fun j hj => absurd hj (by omega)⟩
theorem GoI.skip {ss : List (Int × Int)} {n x : Nat} {K : Nat → Nat} {i : Nat} {more : Bool} (h : GoI ss n x K i more) (hk : K i = 0) : GoI ss n x K (i + 1) more := by
  refine ⟨⟨fun e => ?_, fun ⟨j, h1, h2⟩ => ?_⟩, fun j hj => ?_⟩
  · obtain ⟨j, h1, h2⟩ := h.1.1 e
    exact ⟨j, by omega, h2⟩
  · refine h.1.2 ⟨j, ?_, h2⟩
    rcases Nat.lt_or_ge j i with h3 | h3
    · exact h3
    · obtain rfl : j = i := by omega
      omega
  · rcases Nat.lt_or_ge j i with h3 | h3
    · exact h.2 j h3
    · obtain rfl : j = i := by omega
      unfold goQ; rw [if_neg (by omega)]
theorem GoI.next {ss : List (Int × Int)} {n x : Nat} {K : Nat → Nat} {i : Nat} {more : Bool} (h : GoI ss n x K i more) (hk : 0 < K i) (hq : goQ ss n x K i = none) : GoI ss n x K (i + 1) true := by
  refine ⟨⟨fun _ => ⟨i, by omega, hk⟩, fun _ => rfl⟩, fun j hj => ?_⟩
  rcases Nat.lt_or_ge j i with h3 | h3
  · exact h.2 j h3
  · obtain rfl : j = i := by omega
    exact hq
theorem fs_none {α : Type} {f : Nat → Option α} : ∀ {m : Nat}, (∀ j, j < m → f j = none) → (List.range m).findSome? f = none := fun {m} h => by
  rw [List.findSome?_eq_none_iff]
  intro j hj
  exact h j (List.mem_range.1 hj)
theorem fs_at {α : Type} {f : Nat → Option α} {i m : Nat} {v : α} (h : ∀ j, j < i → f j = none) (hi : f i = some v) (hm : i < m) : (List.range m).findSome? f = some v := by
  obtain ⟨d, rfl⟩ : ∃ d, m = i + 1 + d := ⟨m - (i + 1), by omega⟩
  induction d with
  | zero => rw [Nat.add_zero, List.range_succ, List.findSome?_append, fs_none h]; simp [hi]
  | succ d ih => rw [show i + 1 + (d + 1) = i + 1 + d + 1 by omega, List.range_succ, List.findSome?_append, ih (by omega)]; rfl
/-- what goes returns. -/
def GoP (begun : List Int) (o : Option (List Nat)) (w : World) (e : Ending) (w' : World) : Prop :=
  Fut w w' ∧ ∃ l lc, (∀ r, o = some r → e = .returned (.tuple #[.slice l (begun ++ r.map (fun (i : Nat) => (i : Int))).length lc, .bool true]) ∧ IntsAt w' l (begun ++ r.map (fun (i : Nat) => (i : Int)))) ∧ (o = none → ∃ v, e = .returned (.tuple #[v, .bool false]))
set_option maxRecDepth 100000 in
set_option maxHeartbeats 4000000 in
theorem goes_any {ss : List (Int × Int)} {c : Nat} (hg : GoodS ss c) (hlen : ss.length ≤ 9) (hc6 : c ≤ 6) (a : Option Addr) (cap : Nat) : ∀ (n x : Nat) (K : Nat → Nat) (begun : List Int) (ba : Option Addr) (bc : Nat) (la : Option Addr) (lc : Nat) (w : World), StrAt w a ss → x < c → (∀ i, i < ss.length → K i ≤ 2) → sm ss.length K < n → begun.length + sm ss.length K ≤ 18 → ((begun = [] ∧ ba = none ∧ bc = 0) ∨ 0 < begun.length) → IntsAt w ba begun → IntsAt w la (kL K ss.length) →
    Calls Try.prog 69 #[mapV c a ss.length cap, .slice ba begun.length bc, .int .i64 x, .slice la ss.length lc] w (GoP begun (goG ss n x K) w) := by
  intro n
  induction n with
  | zero => intro x K begun ba bc la lc w _ _ _ h; omega
  | succ n ih =>
    intro x K begun ba bc la lc w hS hx hK hn hbl hbc hB hL
    have IH := Lib.hid ih
    have HS := Lib.hid hS
    have HK := Lib.hid hK
    have HBG := Lib.hid hB
    have HLL := Lib.hid hL
    have HG := Lib.hid hg
    have hlx : (ss.length : Int) ≤ 9 := by omega
    have hxx : (x : Int) ≤ 6 := by omega
    have hbx : (begun.length : Int) ≤ 18 := by omega
    obtain ⟨i0, hi0, hz0, hz1, hz2⟩ := info_parts info3
    have HRES : Hid (goG ss (n + 1) x K = match (List.range ss.length).findSome? (goQ ss n x K) with | some r => some r | none => if sm ss.length K = 0 ∧ x = 0 then some [] else none) := Lib.hid rfl
    clear ih hS hK hB hL hg
    generalize goG ss (n + 1) x K = R at *
    go_enter Try.func69, Try.ntmps69
    go_wp2_with fail
    have hBM := BoxM.new w c a ss.length cap 28
    have hF : Fut w (w.alloc (.cells #[.int .i64 c, .slice a ss.length cap] 28)) := Fut.alloc _ _
    generalize w.alloc (.cells #[.int .i64 c, .slice a ss.length cap] 28) = W1 at *
    generalize w.heap.size = B at *
    have HB := Lib.hid hBM
    have HF := Lib.hid hF
    clear hBM hF
    go_loopw [10, 11] (fun mv iv wr => ∃ (i : Nat) (more : Bool), i ≤ ss.length ∧ iv = .int .i64 i ∧ mv = .bool more ∧ Hid (GoI ss n x K i more) ∧ Hid (Fut W1 wr)) (fun _ iv _ => ss.length - (intOf iv).toNat)
    case atStart => exact ⟨0, false, Nat.zero_le _, rfl, rfl, Lib.hid (GoI.zero ss n x K), Lib.hid Fut.rfl⟩
    case round =>
      obtain ⟨i, more, hi, rfl, rfl, HM, HR⟩ := hrel
      obtain ⟨hb, b0, b1⟩ := HB.out.fut HR.out
      by_cases hlt : i < ss.length
      · have hix : (i : Int) < ss.length := by omega
        obtain ⟨lb, loff, ea, hlb, l1⟩ := (HLL.out.fut (HF.out.trans HR.out)) i (by rw [kL_len]; exact hlt)
        rw [kL_nth hlt] at l1
        have hk2 := HK.out i hlt
        have HLL2 := Lib.hid (HLL.out.fut (HF.out.trans HR.out))
        subst ea
        by_cases hk : K i = 0
        · have hkb : ((K i : Int) == 0) = true := by rw [hk]; rfl
          have HM2 := Lib.hid (HM.out.skip hk)
          generalize K i = ki at *
          go_wp2
          go_roundw
          case rel => exact ⟨i + 1, more, by omega, by go_num, rfl, HM2, HR⟩
          case measure => simp [intOf]; omega
        · have hkb : ((K i : Int) == 0) = false := by rw [beq_eq_false_iff_ne]; omega
          have hk0 : 0 < K i := by omega
          have HM2 := Lib.hid (fun (h : goQ ss n x K i = none) => HM.out.next hk0 h)
          obtain ⟨sb, soff, ea, hsb, s1, s2⟩ := (HS.out.fut (HF.out.trans HR.out)) i hlt
          obtain ⟨g1, g2, g3, g4⟩ := good_str HG.out hlt
          rw [g3] at s1
          rw [g4] at s2
          subst ea
          have HT := Lib.hid (fun (h : ¬ touches (en1 ss) (en2 ss) i x) => (by unfold goQ; rw [if_neg (fun hh => h hh.2)] : goQ ss n x K i = none))
          have HT2 := Lib.hid (fun (h : touches (en1 ss) (en2 ss) i x) => (by unfold goQ; rw [if_pos ⟨hk0, h⟩] : goQ ss n x K i = (goG ss n (oth (en1 ss) (en2 ss) i x) (less1 K i)).map (i :: ·)))
          have hTI : touches (en1 ss) (en2 ss) i x ↔ (en1 ss i = x ∨ en2 ss i = x) := Iff.rfl
          have HOT : Hid (touches (en1 ss) (en2 ss) i x → (oth (en1 ss) (en2 ss) i x : Int) = (en1 ss i : Int) + en2 ss i - x ∧ oth (en1 ss) (en2 ss) i x < c) := Lib.hid (fun h => by
            unfold oth
            rcases h with h | h
            · rw [if_pos h]; omega
            · by_cases e : en1 ss i = x
              · rw [if_pos e]; omega
              · rw [if_neg e]; omega)
          generalize en1 ss i = y at *
          generalize en2 ss i = z at *
          go_upto_region 8 with fail
          have F5 : Fut wr (wr.alloc (.cells #[.int .i64 y, .int .i64 z] 65)) := Fut.alloc _ _
          have l0 : (wr.alloc (.cells #[.int .i64 y, .int .i64 z] 65)).cell? ⟨wr.heap.size, 0, none⟩ = some (.int .i64 y) := by simp [go_sem]
          have l1' : (wr.alloc (.cells #[.int .i64 y, .int .i64 z] 65)).cell? ⟨wr.heap.size, 1, none⟩ = some (.int .i64 z) := by simp [go_sem]
          have HR5 := Lib.hid (HR.out.trans F5)
          have hL5 : wr.heap.size < (wr.alloc (.cells #[.int .i64 y, .int .i64 z] 65)).heap.size := by simp
          generalize wr.alloc (.cells #[.int .i64 y, .int .i64 z] 65) = w5 at *
          generalize wr.heap.size = L at *
          clear hb b0 b1 l1 s1 s2 F5 HR HLL2 hlb hsb
          by_cases ht : touches (en1 ss) (en2 ss) i x
          · have HTQ := Lib.hid (HT2.out ht)
            obtain ⟨ho1, ho2⟩ := HOT.out ht
            go_cut [41] from 32 to 41 (fun s41 wx => s41 = .bool false ∧ wx = w5)
            case first =>
              rcases hTI.1 ht with h | h
              · subst h
                have h1 : ((y : Int) != y) = false := by simp
                go_wp2_with fail
                go_meet
                exact ⟨rfl, rfl⟩
              · subst h
                have h1 : ((y : Int) != z) = true := by rw [bne_iff_ne]; omega
                have h2 : ((z : Int) != z) = false := by simp
                go_wp2_with fail
                go_meet
                exact ⟨rfl, rfl⟩
            case rest =>
              obtain ⟨rfl, rfl⟩ := hcut
              go_upto_region 9 with fail
              have hLW := HLL.out.fut (HF.out.trans HR5.out)
              have HNW : ∀ j u, ((kL K ss.length).map (Value.int .i64))[j]? = some u → (wc.alloc (.cells #[] 3)).cell? ((⟨lb, loff, none⟩ : Addr).add j) = some u := fun j u hj => by
                have hjl : j < (kL K ss.length).length := by simpa using (List.getElem?_eq_some_iff.1 hj).1
                obtain ⟨b', off', e, hb', c1⟩ := (hLW.fut (Fut.alloc wc (.cells #[] 3))) j hjl
                simp at e
                obtain ⟨rfl, rfl⟩ := e
                rw [Addr.add_lit, c1, ← hj, nth_eq, List.getElem?_map, List.getElem?_eq_getElem hjl]; rfl
              have HW0 : (wc.alloc (.cells #[] 3)).ownsRow wc.heap.size 3 1 (.slice (some ⟨wc.heap.size, 0, none⟩) 0 0) 0 [] := World.ownsRow_lit (base := wc.heap.size) (e := 3) (size := 1) wc #[] 0 (Nat.le_refl _) (by unfold maxLen; omega) rfl
              have FW0 : Fut wc (wc.alloc (.cells #[] 3)) := Fut.alloc _ _
              go_wp2_with (at_builtin; refine wpList_append_lies _ rfl _ _ 25 rfl wc.heap.size 3 i0 (.int .i64 0) 1 8 Try.underlying25 hi0 hz0 hz1 hz2 rfl (by decide) _ 0 [] rfl HW0 ⟨lb, loff, none⟩ ss.length lc ((kL K ss.length).map (.int .i64)) rfl (by simp [kL_len]) HNW (by intro u hu; obtain ⟨q, _, rfl⟩ := List.mem_map.1 hu; rfl) (by omega) (by unfold maxLen; omega) (by omega) (RowKit.Below.size FW0) _ rfl ?_)
              intro g5 c5 w6 hown6 hgrow6 _ hg6
              have hO6 : w6.ownsRow wc.heap.size 3 1 (.slice (some ⟨g5, 0, none⟩) ss.length c5) ss.length ((kL K ss.length).map (Value.int .i64)) := by simpa using hown6
              have F6 : Fut wc w6 := RowKit.Below.grown FW0 hgrow6 (RowKit.Below.size FW0) fun q hq => (World.ownsRow.lt HW0 q hq).1
              have hcl := hO6.cellAt i (by omega)
              rw [List.getElem?_map, List.getElem?_eq_getElem (by rw [kL_len]; exact hlt)] at hcl
              have hki : (kL K ss.length)[i]'(by rw [kL_len]; exact hlt) = (K i : Int) := by
                have := kL_nth (K := K) hlt
                rw [nth_eq, List.getElem?_eq_getElem (by rw [kL_len]; exact hlt)] at this
                exact this
              rw [hki] at hcl
              have hcl : w6.cell? ⟨g5, i, none⟩ = some (.int .i64 (K i : Int)) := by simpa using hcl
              have hfr := hO6.frozenAt i
              have hge := (hO6.lt g5 rfl).1
              have hst := (hO6.stored i (.int .i64 ((K i : Int) - 1))).1
              rw [← List.map_set, kL_less hk0] at hst
              have F7 : Fut wc (w6.setCell ⟨g5, i, none⟩ (.int .i64 ((K i : Int) - 1))) := F6.trans' ((RowKit.Below.refl g5 w6).setCell (p := ⟨g5, i, none⟩) (Nat.le_refl _) _) hge
              have hO7 : Owns (w6.setCell ⟨g5, i, none⟩ (.int .i64 ((K i : Int) - 1))) wc.heap.size (.slice (some ⟨g5, 0, none⟩) ss.length c5) (kL (less1 K i) ss.length) := by
                unfold Owns
                rw [kL_len]
                exact hst
              have hw1 : IntKind.i64.wrap ((K i : Int) - 1) = (K i : Int) - 1 := IntWalk.i64_in _ ⟨by omega, by omega⟩
              clear HNW HW0 FW0 hown6 hgrow6 hO6 F6 hki hst hge hLW
              go_upto_region 11 with fail
              have hO7 := Lib.hid hO7
              have HF7 := Lib.hid F7
              have HR7 := Lib.hid (HR5.out.trans F7)
              have k0 : (w6.setCell ⟨g5, i, none⟩ (.int .i64 ((K i : Int) - 1))).cell? ⟨L, 0, none⟩ = some (.int .i64 y) := (RowKit.Below.cell F7 (p := ⟨L, 0, none⟩) hL5).trans l0
              have k1 : (w6.setCell ⟨g5, i, none⟩ (.int .i64 ((K i : Int) - 1))).cell? ⟨L, 1, none⟩ = some (.int .i64 z) := (RowKit.Below.cell F7 (p := ⟨L, 1, none⟩) hL5).trans l1'
              have hL7 := Nat.lt_of_lt_of_le hL5 (RowKit.Below.size F7)
              clear l0 l1' hcl hfr F7 hg6 hL5
              generalize w6.setCell ⟨g5, i, none⟩ (.int .i64 ((K i : Int) - 1)) = w7 at *
              obtain ⟨hb, b0, b1⟩ := HB.out.fut HR7.out
              have HKEEP : Hid (∀ W, Fut w7 W → W.cell? ⟨B, 0, none⟩ = some (.int .i64 c) ∧ W.cell? ⟨B, 1, none⟩ = some (.slice (some ⟨sb, soff, none⟩) ss.length cap) ∧ W.cell? ⟨L, 0, none⟩ = some (.int .i64 y) ∧ W.cell? ⟨L, 1, none⟩ = some (.int .i64 z)) := Lib.hid (fun W F => by
                obtain ⟨_, d0, d1⟩ := HB.out.fut (HR7.out.trans F)
                exact ⟨d0, d1, (RowKit.Below.cell F (p := ⟨L, 0, none⟩) hL7).trans k0, (RowKit.Below.cell F (p := ⟨L, 1, none⟩) hL7).trans k1⟩)
              have htl := tot_less hlt hk0
              have hwa : IntKind.i64.wrap ((y : Int) + z) = (y : Int) + z := IntWalk.i64_in _ ⟨by omega, by omega⟩
              have hwb : IntKind.i64.wrap ((y : Int) + z - x) = (y : Int) + z - x := IntWalk.i64_in _ ⟨by omega, by omega⟩
              have HCALL : Hid (∀ W (g8 c8 : Nat), Fut w7 W → W.ownsRow w7.heap.size 3 1 (.slice (some ⟨g8, 0, none⟩) (begun.length + 1) c8) (begun.length + 1) (begun.map (Value.int .i64) ++ [.int .i64 (i : Int)]) → Calls Try.prog 69 #[mapV c (some ⟨sb, soff, none⟩) ss.length cap, .slice (some ⟨g8, 0, none⟩) (begun.length + 1) c8, .int .i64 ((y : Int) + z - x), .slice (some ⟨g5, 0, none⟩) ss.length c5] W (GoP (begun ++ [(i : Int)]) (goG ss n (oth (en1 ss) (en2 ss) i x) (less1 K i)) W)) := Lib.hid (fun W g8 c8 F hO => by
                have hO8 : Owns W w7.heap.size (.slice (some ⟨g8, 0, none⟩) (begun.length + 1) c8) (begun ++ [(i : Int)]) := by unfold Owns; rw [List.length_append, List.map_append]; exact hO
                obtain ⟨l8, lc8, e, hI8⟩ := hO8.ints
                obtain ⟨l5, lc5, e5, hI5⟩ := (hO7.out.fut F).ints
                simp only [Value.slice.injEq] at e e5
                obtain ⟨rfl, _, rfl⟩ := e
                obtain ⟨rfl, _, rfl⟩ := e5
                have h := IH.out (oth (en1 ss) (en2 ss) i x) (less1 K i) (begun ++ [(i : Int)]) (some ⟨g8, 0, none⟩) c8 (some ⟨g5, 0, none⟩) c5 W (HS.out.fut ((HF.out.trans HR7.out).trans F)) ho2 (fun j hj => by have := HK.out j hj; unfold less1; split <;> omega) (by omega) (by rw [List.length_append, List.length_singleton]; omega) (Or.inr (by rw [List.length_append, List.length_singleton]; omega)) hI8 hI5
                rw [ho1, List.length_append] at h
                exact h)
              clear hO7 HS HK IH htl
              generalize goG ss n (oth (en1 ss) (en2 ss) i x) (less1 K i) = RR at *
              rcases hbc with ⟨rfl, rfl, rfl⟩ | hp
              · skip
                have HCALZ : Hid (∀ W (g8 c8 : Nat), Fut w7 W → W.ownsRow w7.heap.size 3 1 (.slice (some ⟨g8, 0, none⟩) 1 c8) 1 [.int .i64 (i : Int)] → Calls Try.prog 69 #[mapV c (some ⟨sb, soff, none⟩) ss.length cap, .slice (some ⟨g8, 0, none⟩) 1 c8, .int .i64 ((y : Int) + z - x), .slice (some ⟨g5, 0, none⟩) ss.length c5] W (GoP ([] ++ [(i : Int)]) RR W)) := Lib.hid (fun W g8 c8 F hO => HCALL.out W g8 c8 F hO)
                have OAB : Hid (((w7.alloc (.cells #[] 3)).alloc (.cells #[.int .i64 (i : Int)] 3)).drew.ownsRow w7.heap.size 3 1 (.slice (some ⟨w7.heap.size, 0, none⟩) 0 0) 0 []) := Lib.hid (by exact (World.ownsRow.alloc (World.ownsRow_lit (base := w7.heap.size) (e := 3) (size := 1) w7 #[] 0 (Nat.le_refl _) (by unfold maxLen; omega) rfl) _))
                have OBA : Hid (((w7.alloc (.cells #[.int .i64 (i : Int)] 3)).alloc (.cells #[] 3)).drew.ownsRow w7.heap.size 3 1 (.slice (some ⟨w7.heap.size + 1, 0, none⟩) 0 0) 0 []) := Lib.hid (by exact (by have h := World.ownsRow_lit (base := w7.heap.size) (e := 3) (size := 1) (w7.alloc (.cells #[.int .i64 (i : Int)] 3)) #[] 0 (by simp) (by unfold maxLen; omega) rfl; rw [World.size_alloc] at h; exact h))
                cases hRR : RR with
                | none =>
                  subst hRR
                  go_region_held3 (fun w' => w'.cell? ⟨B, 0, none⟩ = some (.int .i64 c) ∧ w'.cell? ⟨B, 1, none⟩ = some (.slice (some ⟨sb, soff, none⟩) ss.length cap) ∧ w'.cell? ⟨L, 0, none⟩ = some (.int .i64 y) ∧ w'.cell? ⟨L, 1, none⟩ = some (.int .i64 z)) (first | exact ⟨by assumption, by assumption, by assumption, by assumption⟩ | exact ⟨Lib.cell?_alloc_some _ (by assumption), Lib.cell?_alloc_some _ (by assumption), Lib.cell?_alloc_some _ (by assumption), Lib.cell?_alloc_some _ (by assumption)⟩ | exact ⟨Lib.cell?_alloc_some _ (Lib.cell?_alloc_some _ (by assumption)), Lib.cell?_alloc_some _ (Lib.cell?_alloc_some _ (by assumption)), Lib.cell?_alloc_some _ (Lib.cell?_alloc_some _ (by assumption)), Lib.cell?_alloc_some _ (Lib.cell?_alloc_some _ (by assumption))⟩ | (simp [go_sem, *]; done)) (first
                    | (refine step_append_lies _ (by rfl) _ _ _ (by rfl) w7.heap.size 3 i0 (.int .i64 0) 1 8 Try.underlying25 hi0 hz0 hz1 hz2 rfl (by omega) (.slice (some ⟨w7.heap.size, 0, none⟩) 0 0) 0 [] (by rfl) (by with_reducible exact OAB.out) ⟨w7.heap.size + 1, 0, none⟩ 1 1 [.int .i64 (i : Int)] (by rfl) (by rfl) (by exact cell_one (by simp [go_sem])) (by simp [Value.oneCell']) (by omega) (by unfold maxLen; omega) (by omega) (by first | (simp; done) | (simp; omega)) _ (by rfl) ?_; intro g9 c9 w9 hown9 hgrow9 hlie9 hgl9; have F9 : Fut w7 w9 := (by first | exact RowKit.Below.grown (RowKit.Below.drew (((Fut.alloc _ _).trans (Fut.alloc _ _)) : Fut w7 ((w7.alloc (.cells #[] 3)).alloc (.cells #[.int .i64 (i : Int)] 3)))) hgrow9 (by first | (simp; done) | (simp; omega)) (fun q hq => (World.ownsRow.lt OAB.out q hq).1) | exact RowKit.Below.grown (((Fut.alloc _ _).trans (Fut.alloc _ _)) : Fut w7 ((w7.alloc (.cells #[] 3)).alloc (.cells #[.int .i64 (i : Int)] 3))) hgrow9 (by first | (simp; done) | (simp; omega)) (fun q hq => (World.ownsRow.lt OAB.out q hq).1)); have hown9' : w9.ownsRow w7.heap.size 3 1 (.slice (some ⟨g9, 0, none⟩) 1 c9) 1 [.int .i64 (i : Int)] := (by first | exact hown9 | simpa using hown9); obtain ⟨r0, r1, r2, r3⟩ := HKEEP.out w9 F9)
                    | (refine step_append_lies _ (by rfl) _ _ _ (by rfl) w7.heap.size 3 i0 (.int .i64 0) 1 8 Try.underlying25 hi0 hz0 hz1 hz2 rfl (by omega) (.slice (some ⟨w7.heap.size + 1, 0, none⟩) 0 0) 0 [] (by rfl) (by with_reducible exact OBA.out) ⟨w7.heap.size, 0, none⟩ 1 1 [.int .i64 (i : Int)] (by rfl) (by rfl) (by exact cell_one (by simp [go_sem])) (by simp [Value.oneCell']) (by omega) (by unfold maxLen; omega) (by omega) (by first | (simp; done) | (simp; omega)) _ (by rfl) ?_; intro g9 c9 w9 hown9 hgrow9 hlie9 hgl9; have F9 : Fut w7 w9 := (by first | exact RowKit.Below.grown (RowKit.Below.drew (((Fut.alloc _ _).trans (Fut.alloc _ _)) : Fut w7 ((w7.alloc (.cells #[.int .i64 (i : Int)] 3)).alloc (.cells #[] 3)))) hgrow9 (by first | (simp; done) | (simp; omega)) (fun q hq => (World.ownsRow.lt OBA.out q hq).1) | exact RowKit.Below.grown (((Fut.alloc _ _).trans (Fut.alloc _ _)) : Fut w7 ((w7.alloc (.cells #[.int .i64 (i : Int)] 3)).alloc (.cells #[] 3))) hgrow9 (by first | (simp; done) | (simp; omega)) (fun q hq => (World.ownsRow.lt OBA.out q hq).1)); have hown9' : w9.ownsRow w7.heap.size 3 1 (.slice (some ⟨g9, 0, none⟩) 1 c9) 1 [.int .i64 (i : Int)] := (by first | exact hown9 | simpa using hown9); obtain ⟨r0, r1, r2, r3⟩ := HKEEP.out w9 F9)
                    | (go_at_call 69; (with_reducible refine (HCALZ.out _ g9 c9 F9 hown9').mono ?_); rintro _ w10 ⟨F10, rl, rlc, hr1, hr2⟩; obtain ⟨rv, rfl⟩ := hr2 rfl; obtain ⟨t0, t1, t2, t3⟩ := HKEEP.out w10 (F9.trans F10)))
                  all_goals
                    have HQN := Lib.hid (HM2.out (by rw [HTQ.out]; rfl))
                    have HRN := Lib.hid (HR7.out.trans (F9.trans F10))
                    clear HCALL HKEEP HTQ HM2 HT HT2 HOT
                    go_wp2
                    go_roundw
                    case rel => first | exact ⟨i + 1, true, by omega, by go_num, rfl, HQN, HRN⟩ | ((repeat apply Exists.intro); refine ⟨⟨i + 1, true, by omega, ?_, rfl, HQN, HRN⟩, rfl⟩; go_num)
                    case measure => simp [intOf]; omega
                | some r =>
                  subst hRR
                  go_region_held3 (fun w' => w'.cell? ⟨B, 0, none⟩ = some (.int .i64 c) ∧ w'.cell? ⟨B, 1, none⟩ = some (.slice (some ⟨sb, soff, none⟩) ss.length cap) ∧ w'.cell? ⟨L, 0, none⟩ = some (.int .i64 y) ∧ w'.cell? ⟨L, 1, none⟩ = some (.int .i64 z)) (first | exact ⟨by assumption, by assumption, by assumption, by assumption⟩ | exact ⟨Lib.cell?_alloc_some _ (by assumption), Lib.cell?_alloc_some _ (by assumption), Lib.cell?_alloc_some _ (by assumption), Lib.cell?_alloc_some _ (by assumption)⟩ | exact ⟨Lib.cell?_alloc_some _ (Lib.cell?_alloc_some _ (by assumption)), Lib.cell?_alloc_some _ (Lib.cell?_alloc_some _ (by assumption)), Lib.cell?_alloc_some _ (Lib.cell?_alloc_some _ (by assumption)), Lib.cell?_alloc_some _ (Lib.cell?_alloc_some _ (by assumption))⟩ | (simp [go_sem, *]; done)) (first
                    | (refine step_append_lies _ (by rfl) _ _ _ (by rfl) w7.heap.size 3 i0 (.int .i64 0) 1 8 Try.underlying25 hi0 hz0 hz1 hz2 rfl (by omega) (.slice (some ⟨w7.heap.size, 0, none⟩) 0 0) 0 [] (by rfl) (by with_reducible exact OAB.out) ⟨w7.heap.size + 1, 0, none⟩ 1 1 [.int .i64 (i : Int)] (by rfl) (by rfl) (by exact cell_one (by simp [go_sem])) (by simp [Value.oneCell']) (by omega) (by unfold maxLen; omega) (by omega) (by first | (simp; done) | (simp; omega)) _ (by rfl) ?_; intro g9 c9 w9 hown9 hgrow9 hlie9 hgl9; have F9 : Fut w7 w9 := (by first | exact RowKit.Below.grown (RowKit.Below.drew (((Fut.alloc _ _).trans (Fut.alloc _ _)) : Fut w7 ((w7.alloc (.cells #[] 3)).alloc (.cells #[.int .i64 (i : Int)] 3)))) hgrow9 (by first | (simp; done) | (simp; omega)) (fun q hq => (World.ownsRow.lt OAB.out q hq).1) | exact RowKit.Below.grown (((Fut.alloc _ _).trans (Fut.alloc _ _)) : Fut w7 ((w7.alloc (.cells #[] 3)).alloc (.cells #[.int .i64 (i : Int)] 3))) hgrow9 (by first | (simp; done) | (simp; omega)) (fun q hq => (World.ownsRow.lt OAB.out q hq).1)); have hown9' : w9.ownsRow w7.heap.size 3 1 (.slice (some ⟨g9, 0, none⟩) 1 c9) 1 [.int .i64 (i : Int)] := (by first | exact hown9 | simpa using hown9); obtain ⟨r0, r1, r2, r3⟩ := HKEEP.out w9 F9)
                    | (refine step_append_lies _ (by rfl) _ _ _ (by rfl) w7.heap.size 3 i0 (.int .i64 0) 1 8 Try.underlying25 hi0 hz0 hz1 hz2 rfl (by omega) (.slice (some ⟨w7.heap.size + 1, 0, none⟩) 0 0) 0 [] (by rfl) (by with_reducible exact OBA.out) ⟨w7.heap.size, 0, none⟩ 1 1 [.int .i64 (i : Int)] (by rfl) (by rfl) (by exact cell_one (by simp [go_sem])) (by simp [Value.oneCell']) (by omega) (by unfold maxLen; omega) (by omega) (by first | (simp; done) | (simp; omega)) _ (by rfl) ?_; intro g9 c9 w9 hown9 hgrow9 hlie9 hgl9; have F9 : Fut w7 w9 := (by first | exact RowKit.Below.grown (RowKit.Below.drew (((Fut.alloc _ _).trans (Fut.alloc _ _)) : Fut w7 ((w7.alloc (.cells #[.int .i64 (i : Int)] 3)).alloc (.cells #[] 3)))) hgrow9 (by first | (simp; done) | (simp; omega)) (fun q hq => (World.ownsRow.lt OBA.out q hq).1) | exact RowKit.Below.grown (((Fut.alloc _ _).trans (Fut.alloc _ _)) : Fut w7 ((w7.alloc (.cells #[.int .i64 (i : Int)] 3)).alloc (.cells #[] 3))) hgrow9 (by first | (simp; done) | (simp; omega)) (fun q hq => (World.ownsRow.lt OBA.out q hq).1)); have hown9' : w9.ownsRow w7.heap.size 3 1 (.slice (some ⟨g9, 0, none⟩) 1 c9) 1 [.int .i64 (i : Int)] := (by first | exact hown9 | simpa using hown9); obtain ⟨r0, r1, r2, r3⟩ := HKEEP.out w9 F9)
                    | (go_at_call 69; (with_reducible refine (HCALZ.out _ g9 c9 F9 hown9').mono ?_); rintro _ w10 ⟨F10, rl, rlc, hr1, hr2⟩; obtain ⟨rfl, hrI⟩ := hr1 r rfl; obtain ⟨t0, t1, t2, t3⟩ := HKEEP.out w10 (F9.trans F10)))
                  all_goals
                    have hQ : goQ ss n x K i = some (i :: r) := by rw [HTQ.out]; rfl
                    have hR : R = some (i :: r) := by rw [HRES.out, fs_at HM.out.2 hQ hlt]
                    have HRN := Lib.hid ((HF.out.trans HR7.out).trans (F9.trans F10))
                    have HRI := Lib.hid hrI
                    have HRR := Lib.hid hR
                    clear hQ hR hrI hr1 hr2 HCALL HKEEP HTQ HM2 HT HT2 HOT HRES
                    go_wp2
                    go_ret2
                    refine ⟨HRN.out, rl, rlc, fun r' h => ?_, fun h => ?_⟩
                    · rw [HRR.out] at h
                      obtain rfl := Option.some.inj h
                      have hl : ([] : List Int) ++ (i :: r).map (fun (i : Nat) => (i : Int)) = (([] : List Int) ++ [(i : Int)]) ++ r.map (fun (i : Nat) => (i : Int)) := by simp
                      rw [hl]
                      first
                        | exact ⟨rfl, HRI.out⟩
                        | (have hlen : ((([] : List Int) ++ [(i : Int)]) ++ r.map (fun (i : Nat) => (i : Int))).length = List.length ([] : List Int) + (r.length + 1) := by simp
                           rw [hlen]
                           exact ⟨rfl, HRI.out⟩)
                        | (have hlen : ((([] : List Int) ++ [(i : Int)]) ++ r.map (fun (i : Nat) => (i : Int))).length = r.length + 1 := by simp
                           rw [hlen]
                           exact ⟨rfl, HRI.out⟩)
                    · rw [HRR.out] at h; cases h
              · obtain ⟨bb, boff, ea, hbb, _⟩ := HBG.out 0 hp
                subst ea
                have HONE : Hid (∀ u ∈ begun.map (Value.int .i64), u.oneCell' = true) := Lib.hid (by intro u hu; obtain ⟨q, _, rfl⟩ := List.mem_map.1 hu; rfl)
                have HNB : Hid (∀ W, Fut w7 W → ∀ j u, (begun.map (Value.int .i64))[j]? = some u → W.cell? ((⟨bb, boff, none⟩ : Addr).add j) = some u) := Lib.hid (fun W F j u hj => by
                  have hjl : j < begun.length := by simpa using (List.getElem?_eq_some_iff.1 hj).1
                  obtain ⟨b', off', e, hb', c1⟩ := (HBG.out.fut ((HF.out.trans HR7.out).trans F)) j hjl
                  simp at e
                  obtain ⟨rfl, rfl⟩ := e
                  rw [Addr.add_lit, c1, ← hj, nth_eq, List.getElem?_map, List.getElem?_eq_getElem hjl]; rfl)
                have OA : Hid ((w7.alloc (.cells #[] 3)).drew.ownsRow w7.heap.size 3 1 (.slice (some ⟨w7.heap.size, 0, none⟩) 0 0) 0 []) := Lib.hid (by exact (World.ownsRow_lit (base := w7.heap.size) (e := 3) (size := 1) w7 #[] 0 (Nat.le_refl _) (by unfold maxLen; omega) rfl))
                have NA : Hid (∀ j u, (begun.map (Value.int .i64))[j]? = some u → (w7.alloc (.cells #[] 3)).drew.cell? ((⟨bb, boff, none⟩ : Addr).add j) = some u) := Lib.hid (HNB.out (w7.alloc (.cells #[] 3)).drew (RowKit.Below.drew ((Fut.alloc _ _) : Fut w7 (w7.alloc (.cells #[] 3)))))
                have OAB : Hid (((w7.alloc (.cells #[] 3)).alloc (.cells #[.int .i64 (i : Int)] 3)).drew.ownsRow w7.heap.size 3 1 (.slice (some ⟨w7.heap.size, 0, none⟩) 0 0) 0 []) := Lib.hid (by exact (World.ownsRow.alloc (World.ownsRow_lit (base := w7.heap.size) (e := 3) (size := 1) w7 #[] 0 (Nat.le_refl _) (by unfold maxLen; omega) rfl) _))
                have NAB : Hid (∀ j u, (begun.map (Value.int .i64))[j]? = some u → ((w7.alloc (.cells #[] 3)).alloc (.cells #[.int .i64 (i : Int)] 3)).drew.cell? ((⟨bb, boff, none⟩ : Addr).add j) = some u) := Lib.hid (HNB.out ((w7.alloc (.cells #[] 3)).alloc (.cells #[.int .i64 (i : Int)] 3)).drew (RowKit.Below.drew (((Fut.alloc _ _).trans (Fut.alloc _ _)) : Fut w7 ((w7.alloc (.cells #[] 3)).alloc (.cells #[.int .i64 (i : Int)] 3)))))
                have OBA : Hid (((w7.alloc (.cells #[.int .i64 (i : Int)] 3)).alloc (.cells #[] 3)).drew.ownsRow w7.heap.size 3 1 (.slice (some ⟨w7.heap.size + 1, 0, none⟩) 0 0) 0 []) := Lib.hid (by exact (by have h := World.ownsRow_lit (base := w7.heap.size) (e := 3) (size := 1) (w7.alloc (.cells #[.int .i64 (i : Int)] 3)) #[] 0 (by simp) (by unfold maxLen; omega) rfl; rw [World.size_alloc] at h; exact h))
                have NBA : Hid (∀ j u, (begun.map (Value.int .i64))[j]? = some u → ((w7.alloc (.cells #[.int .i64 (i : Int)] 3)).alloc (.cells #[] 3)).drew.cell? ((⟨bb, boff, none⟩ : Addr).add j) = some u) := Lib.hid (HNB.out ((w7.alloc (.cells #[.int .i64 (i : Int)] 3)).alloc (.cells #[] 3)).drew (RowKit.Below.drew (((Fut.alloc _ _).trans (Fut.alloc _ _)) : Fut w7 ((w7.alloc (.cells #[.int .i64 (i : Int)] 3)).alloc (.cells #[] 3)))))
                cases hRR : RR with
                | none =>
                  subst hRR
                  go_region_held3 (fun w' => w'.cell? ⟨B, 0, none⟩ = some (.int .i64 c) ∧ w'.cell? ⟨B, 1, none⟩ = some (.slice (some ⟨sb, soff, none⟩) ss.length cap) ∧ w'.cell? ⟨L, 0, none⟩ = some (.int .i64 y) ∧ w'.cell? ⟨L, 1, none⟩ = some (.int .i64 z)) (first | exact ⟨by assumption, by assumption, by assumption, by assumption⟩ | exact ⟨Lib.cell?_alloc_some _ (by assumption), Lib.cell?_alloc_some _ (by assumption), Lib.cell?_alloc_some _ (by assumption), Lib.cell?_alloc_some _ (by assumption)⟩ | exact ⟨Lib.cell?_alloc_some _ (Lib.cell?_alloc_some _ (by assumption)), Lib.cell?_alloc_some _ (Lib.cell?_alloc_some _ (by assumption)), Lib.cell?_alloc_some _ (Lib.cell?_alloc_some _ (by assumption)), Lib.cell?_alloc_some _ (Lib.cell?_alloc_some _ (by assumption))⟩ | (simp [go_sem, *]; done)) (first
                    | (refine step_append_lies _ (by rfl) _ _ _ (by rfl) w7.heap.size 3 i0 (.int .i64 0) 1 8 Try.underlying25 hi0 hz0 hz1 hz2 rfl (by omega) (.slice (some ⟨w7.heap.size, 0, none⟩) 0 0) 0 [] (by rfl) (by with_reducible exact OA.out) ⟨bb, boff, none⟩ begun.length bc (begun.map (.int .i64)) (by rfl) (by simp) (by exact NA.out) HONE.out hp (by unfold maxLen; omega) (by omega) (by first | (simp; done) | (simp; omega)) _ (by rfl) ?_; intro g8 c8 w8 hown8 hgrow8 hlie8 hgl8; have F8 : Fut w7 w8 := RowKit.Below.grown (RowKit.Below.drew ((Fut.alloc _ _) : Fut w7 (w7.alloc (.cells #[] 3)))) hgrow8 (by first | (simp; done) | (simp; omega)) (fun q hq => (World.ownsRow.lt OA.out q hq).1); have mkA : True := trivial; have hown8' : w8.ownsRow w7.heap.size 3 1 (.slice (some ⟨g8, 0, none⟩) begun.length c8) begun.length (begun.map (Value.int .i64)) := (by simpa using hown8); obtain ⟨q0, q1, q2, q3⟩ := HKEEP.out w8 F8)
                    | (refine step_append_lies _ (by rfl) _ _ _ (by rfl) w7.heap.size 3 i0 (.int .i64 0) 1 8 Try.underlying25 hi0 hz0 hz1 hz2 rfl (by omega) (.slice (some ⟨w7.heap.size, 0, none⟩) 0 0) 0 [] (by rfl) (by with_reducible exact OAB.out) ⟨bb, boff, none⟩ begun.length bc (begun.map (.int .i64)) (by rfl) (by simp) (by exact NAB.out) HONE.out hp (by unfold maxLen; omega) (by omega) (by first | (simp; done) | (simp; omega)) _ (by rfl) ?_; intro g8 c8 w8 hown8 hgrow8 hlie8 hgl8; have F8 : Fut w7 w8 := RowKit.Below.grown (RowKit.Below.drew (((Fut.alloc _ _).trans (Fut.alloc _ _)) : Fut w7 ((w7.alloc (.cells #[] 3)).alloc (.cells #[.int .i64 (i : Int)] 3)))) hgrow8 (by first | (simp; done) | (simp; omega)) (fun q hq => (World.ownsRow.lt OAB.out q hq).1); have mkAB : True := trivial; have hown8' : w8.ownsRow w7.heap.size 3 1 (.slice (some ⟨g8, 0, none⟩) begun.length c8) begun.length (begun.map (Value.int .i64)) := (by simpa using hown8); obtain ⟨q0, q1, q2, q3⟩ := HKEEP.out w8 F8; have hbn : w8.cell? ⟨w7.heap.size + 1, 0, none⟩ = some (.int .i64 (i : Int)) := (hgrow8.cell_far ⟨w7.heap.size + 1, 0, none⟩ (by first | (simp; done) | (simp; omega)) (by simp [Value.ownBlock])).trans (by simp [go_sem]))
                    | (refine step_append_lies _ (by rfl) _ _ _ (by rfl) w7.heap.size 3 i0 (.int .i64 0) 1 8 Try.underlying25 hi0 hz0 hz1 hz2 rfl (by omega) (.slice (some ⟨w7.heap.size + 1, 0, none⟩) 0 0) 0 [] (by rfl) (by with_reducible exact OBA.out) ⟨bb, boff, none⟩ begun.length bc (begun.map (.int .i64)) (by rfl) (by simp) (by exact NBA.out) HONE.out hp (by unfold maxLen; omega) (by omega) (by first | (simp; done) | (simp; omega)) _ (by rfl) ?_; intro g8 c8 w8 hown8 hgrow8 hlie8 hgl8; have F8 : Fut w7 w8 := RowKit.Below.grown (RowKit.Below.drew (((Fut.alloc _ _).trans (Fut.alloc _ _)) : Fut w7 ((w7.alloc (.cells #[.int .i64 (i : Int)] 3)).alloc (.cells #[] 3)))) hgrow8 (by first | (simp; done) | (simp; omega)) (fun q hq => (World.ownsRow.lt OBA.out q hq).1); have mkBA : True := trivial; have hown8' : w8.ownsRow w7.heap.size 3 1 (.slice (some ⟨g8, 0, none⟩) begun.length c8) begun.length (begun.map (Value.int .i64)) := (by simpa using hown8); obtain ⟨q0, q1, q2, q3⟩ := HKEEP.out w8 F8; have hbn : w8.cell? ⟨w7.heap.size, 0, none⟩ = some (.int .i64 (i : Int)) := (hgrow8.cell_far ⟨w7.heap.size, 0, none⟩ (by first | (simp; done) | (simp; omega)) (by simp [Value.ownBlock])).trans (by simp [go_sem]))
                    | (have mkx := mkA; refine step_append_lies _ (by rfl) _ _ _ (by rfl) w7.heap.size 3 i0 (.int .i64 0) 1 8 Try.underlying25 hi0 hz0 hz1 hz2 rfl (by omega) (.slice (some ⟨g8, 0, none⟩) begun.length c8) begun.length (begun.map (Value.int .i64)) (by rfl) (by exact (World.ownsRow.alloc hown8' _)) ⟨w8.heap.size, 0, none⟩ 1 1 [.int .i64 (i : Int)] (by rfl) (by rfl) (by exact (cell_one (by simp [go_sem]))) (by simp [Value.oneCell']) (by omega) (by unfold maxLen; omega) (by omega) (by exact RowKit.Below.size (F8.trans (Fut.alloc _ _))) _ (by rfl) ?_; intro g9 c9 w9 hown9 hgrow9 hlie9 hgl9; have F9 : Fut w7 w9 := RowKit.Below.grown (F8.trans (Fut.alloc _ _)) hgrow9 (RowKit.Below.size (F8.trans (Fut.alloc _ _))) (fun q hq => (World.ownsRow.lt hown8' q hq).1); have hown9' : w9.ownsRow w7.heap.size 3 1 (.slice (some ⟨g9, 0, none⟩) (begun.length + 1) c9) (begun.length + 1) (begun.map (Value.int .i64) ++ [.int .i64 (i : Int)]) := (by simpa using hown9); obtain ⟨r0, r1, r2, r3⟩ := HKEEP.out w9 F9)
                    | (have mkx := mkAB; refine step_append_lies _ (by rfl) _ _ _ (by rfl) w7.heap.size 3 i0 (.int .i64 0) 1 8 Try.underlying25 hi0 hz0 hz1 hz2 rfl (by omega) (.slice (some ⟨g8, 0, none⟩) begun.length c8) begun.length (begun.map (Value.int .i64)) (by rfl) (by exact hown8') ⟨w7.heap.size + 1, 0, none⟩ 1 1 [.int .i64 (i : Int)] (by rfl) (by rfl) (by exact (cell_one hbn)) (by simp [Value.oneCell']) (by omega) (by unfold maxLen; omega) (by omega) (by exact RowKit.Below.size F8) _ (by rfl) ?_; intro g9 c9 w9 hown9 hgrow9 hlie9 hgl9; have F9 : Fut w7 w9 := RowKit.Below.grown F8 hgrow9 (RowKit.Below.size F8) (fun q hq => (World.ownsRow.lt hown8' q hq).1); have hown9' : w9.ownsRow w7.heap.size 3 1 (.slice (some ⟨g9, 0, none⟩) (begun.length + 1) c9) (begun.length + 1) (begun.map (Value.int .i64) ++ [.int .i64 (i : Int)]) := (by simpa using hown9); obtain ⟨r0, r1, r2, r3⟩ := HKEEP.out w9 F9)
                    | (have mkx := mkBA; refine step_append_lies _ (by rfl) _ _ _ (by rfl) w7.heap.size 3 i0 (.int .i64 0) 1 8 Try.underlying25 hi0 hz0 hz1 hz2 rfl (by omega) (.slice (some ⟨g8, 0, none⟩) begun.length c8) begun.length (begun.map (Value.int .i64)) (by rfl) (by exact hown8') ⟨w7.heap.size, 0, none⟩ 1 1 [.int .i64 (i : Int)] (by rfl) (by rfl) (by exact (cell_one hbn)) (by simp [Value.oneCell']) (by omega) (by unfold maxLen; omega) (by omega) (by exact RowKit.Below.size F8) _ (by rfl) ?_; intro g9 c9 w9 hown9 hgrow9 hlie9 hgl9; have F9 : Fut w7 w9 := RowKit.Below.grown F8 hgrow9 (RowKit.Below.size F8) (fun q hq => (World.ownsRow.lt hown8' q hq).1); have hown9' : w9.ownsRow w7.heap.size 3 1 (.slice (some ⟨g9, 0, none⟩) (begun.length + 1) c9) (begun.length + 1) (begun.map (Value.int .i64) ++ [.int .i64 (i : Int)]) := (by simpa using hown9); obtain ⟨r0, r1, r2, r3⟩ := HKEEP.out w9 F9)
                    | (have mkx := mkAB; refine step_append_lies _ (by rfl) _ _ _ (by rfl) w7.heap.size 3 i0 (.int .i64 0) 1 8 Try.underlying25 hi0 hz0 hz1 hz2 rfl (by omega) (.slice (some ⟨g8, 0, none⟩) (0 + begun.length) c8) (0 + begun.length) ([] ++ begun.map (Value.int .i64)) (by rfl) (by exact hown8) ⟨w7.heap.size + 1, 0, none⟩ 1 1 [.int .i64 (i : Int)] (by rfl) (by rfl) (by exact (cell_one hbn)) (by simp [Value.oneCell']) (by omega) (by unfold maxLen; omega) (by omega) (by exact RowKit.Below.size F8) _ (by rfl) ?_; intro g9 c9 w9 hown9 hgrow9 hlie9 hgl9; have F9 : Fut w7 w9 := RowKit.Below.grown F8 hgrow9 (RowKit.Below.size F8) (fun q hq => (World.ownsRow.lt hown8' q hq).1); have hown9' : w9.ownsRow w7.heap.size 3 1 (.slice (some ⟨g9, 0, none⟩) (begun.length + 1) c9) (begun.length + 1) (begun.map (Value.int .i64) ++ [.int .i64 (i : Int)]) := (by simpa using hown9); obtain ⟨r0, r1, r2, r3⟩ := HKEEP.out w9 F9)
                    | (have mkx := mkBA; refine step_append_lies _ (by rfl) _ _ _ (by rfl) w7.heap.size 3 i0 (.int .i64 0) 1 8 Try.underlying25 hi0 hz0 hz1 hz2 rfl (by omega) (.slice (some ⟨g8, 0, none⟩) (0 + begun.length) c8) (0 + begun.length) ([] ++ begun.map (Value.int .i64)) (by rfl) (by exact hown8) ⟨w7.heap.size, 0, none⟩ 1 1 [.int .i64 (i : Int)] (by rfl) (by rfl) (by exact (cell_one hbn)) (by simp [Value.oneCell']) (by omega) (by unfold maxLen; omega) (by omega) (by exact RowKit.Below.size F8) _ (by rfl) ?_; intro g9 c9 w9 hown9 hgrow9 hlie9 hgl9; have F9 : Fut w7 w9 := RowKit.Below.grown F8 hgrow9 (RowKit.Below.size F8) (fun q hq => (World.ownsRow.lt hown8' q hq).1); have hown9' : w9.ownsRow w7.heap.size 3 1 (.slice (some ⟨g9, 0, none⟩) (begun.length + 1) c9) (begun.length + 1) (begun.map (Value.int .i64) ++ [.int .i64 (i : Int)]) := (by simpa using hown9); obtain ⟨r0, r1, r2, r3⟩ := HKEEP.out w9 F9)
                    | (go_at_call 69; (with_reducible refine (HCALL.out _ g9 c9 F9 hown9').mono ?_); rintro _ w10 ⟨F10, rl, rlc, hr1, hr2⟩; obtain ⟨rv, rfl⟩ := hr2 rfl; obtain ⟨t0, t1, t2, t3⟩ := HKEEP.out w10 (F9.trans F10)))
                  all_goals
                    have HQN := Lib.hid (HM2.out (by rw [HTQ.out]; rfl))
                    have HRN := Lib.hid (HR7.out.trans (F9.trans F10))
                    clear HCALL HKEEP HTQ HM2 HT HT2 HOT
                    go_wp2
                    go_roundw
                    case rel => first | exact ⟨i + 1, true, by omega, by go_num, rfl, HQN, HRN⟩ | ((repeat apply Exists.intro); refine ⟨⟨i + 1, true, by omega, ?_, rfl, HQN, HRN⟩, rfl⟩; go_num)
                    case measure => simp [intOf]; omega
                | some r =>
                  subst hRR
                  go_region_held3 (fun w' => w'.cell? ⟨B, 0, none⟩ = some (.int .i64 c) ∧ w'.cell? ⟨B, 1, none⟩ = some (.slice (some ⟨sb, soff, none⟩) ss.length cap) ∧ w'.cell? ⟨L, 0, none⟩ = some (.int .i64 y) ∧ w'.cell? ⟨L, 1, none⟩ = some (.int .i64 z)) (first | exact ⟨by assumption, by assumption, by assumption, by assumption⟩ | exact ⟨Lib.cell?_alloc_some _ (by assumption), Lib.cell?_alloc_some _ (by assumption), Lib.cell?_alloc_some _ (by assumption), Lib.cell?_alloc_some _ (by assumption)⟩ | exact ⟨Lib.cell?_alloc_some _ (Lib.cell?_alloc_some _ (by assumption)), Lib.cell?_alloc_some _ (Lib.cell?_alloc_some _ (by assumption)), Lib.cell?_alloc_some _ (Lib.cell?_alloc_some _ (by assumption)), Lib.cell?_alloc_some _ (Lib.cell?_alloc_some _ (by assumption))⟩ | (simp [go_sem, *]; done)) (first
                    | (refine step_append_lies _ (by rfl) _ _ _ (by rfl) w7.heap.size 3 i0 (.int .i64 0) 1 8 Try.underlying25 hi0 hz0 hz1 hz2 rfl (by omega) (.slice (some ⟨w7.heap.size, 0, none⟩) 0 0) 0 [] (by rfl) (by with_reducible exact OA.out) ⟨bb, boff, none⟩ begun.length bc (begun.map (.int .i64)) (by rfl) (by simp) (by exact NA.out) HONE.out hp (by unfold maxLen; omega) (by omega) (by first | (simp; done) | (simp; omega)) _ (by rfl) ?_; intro g8 c8 w8 hown8 hgrow8 hlie8 hgl8; have F8 : Fut w7 w8 := RowKit.Below.grown (RowKit.Below.drew ((Fut.alloc _ _) : Fut w7 (w7.alloc (.cells #[] 3)))) hgrow8 (by first | (simp; done) | (simp; omega)) (fun q hq => (World.ownsRow.lt OA.out q hq).1); have mkA : True := trivial; have hown8' : w8.ownsRow w7.heap.size 3 1 (.slice (some ⟨g8, 0, none⟩) begun.length c8) begun.length (begun.map (Value.int .i64)) := (by simpa using hown8); obtain ⟨q0, q1, q2, q3⟩ := HKEEP.out w8 F8)
                    | (refine step_append_lies _ (by rfl) _ _ _ (by rfl) w7.heap.size 3 i0 (.int .i64 0) 1 8 Try.underlying25 hi0 hz0 hz1 hz2 rfl (by omega) (.slice (some ⟨w7.heap.size, 0, none⟩) 0 0) 0 [] (by rfl) (by with_reducible exact OAB.out) ⟨bb, boff, none⟩ begun.length bc (begun.map (.int .i64)) (by rfl) (by simp) (by exact NAB.out) HONE.out hp (by unfold maxLen; omega) (by omega) (by first | (simp; done) | (simp; omega)) _ (by rfl) ?_; intro g8 c8 w8 hown8 hgrow8 hlie8 hgl8; have F8 : Fut w7 w8 := RowKit.Below.grown (RowKit.Below.drew (((Fut.alloc _ _).trans (Fut.alloc _ _)) : Fut w7 ((w7.alloc (.cells #[] 3)).alloc (.cells #[.int .i64 (i : Int)] 3)))) hgrow8 (by first | (simp; done) | (simp; omega)) (fun q hq => (World.ownsRow.lt OAB.out q hq).1); have mkAB : True := trivial; have hown8' : w8.ownsRow w7.heap.size 3 1 (.slice (some ⟨g8, 0, none⟩) begun.length c8) begun.length (begun.map (Value.int .i64)) := (by simpa using hown8); obtain ⟨q0, q1, q2, q3⟩ := HKEEP.out w8 F8; have hbn : w8.cell? ⟨w7.heap.size + 1, 0, none⟩ = some (.int .i64 (i : Int)) := (hgrow8.cell_far ⟨w7.heap.size + 1, 0, none⟩ (by first | (simp; done) | (simp; omega)) (by simp [Value.ownBlock])).trans (by simp [go_sem]))
                    | (refine step_append_lies _ (by rfl) _ _ _ (by rfl) w7.heap.size 3 i0 (.int .i64 0) 1 8 Try.underlying25 hi0 hz0 hz1 hz2 rfl (by omega) (.slice (some ⟨w7.heap.size + 1, 0, none⟩) 0 0) 0 [] (by rfl) (by with_reducible exact OBA.out) ⟨bb, boff, none⟩ begun.length bc (begun.map (.int .i64)) (by rfl) (by simp) (by exact NBA.out) HONE.out hp (by unfold maxLen; omega) (by omega) (by first | (simp; done) | (simp; omega)) _ (by rfl) ?_; intro g8 c8 w8 hown8 hgrow8 hlie8 hgl8; have F8 : Fut w7 w8 := RowKit.Below.grown (RowKit.Below.drew (((Fut.alloc _ _).trans (Fut.alloc _ _)) : Fut w7 ((w7.alloc (.cells #[.int .i64 (i : Int)] 3)).alloc (.cells #[] 3)))) hgrow8 (by first | (simp; done) | (simp; omega)) (fun q hq => (World.ownsRow.lt OBA.out q hq).1); have mkBA : True := trivial; have hown8' : w8.ownsRow w7.heap.size 3 1 (.slice (some ⟨g8, 0, none⟩) begun.length c8) begun.length (begun.map (Value.int .i64)) := (by simpa using hown8); obtain ⟨q0, q1, q2, q3⟩ := HKEEP.out w8 F8; have hbn : w8.cell? ⟨w7.heap.size, 0, none⟩ = some (.int .i64 (i : Int)) := (hgrow8.cell_far ⟨w7.heap.size, 0, none⟩ (by first | (simp; done) | (simp; omega)) (by simp [Value.ownBlock])).trans (by simp [go_sem]))
                    | (have mkx := mkA; refine step_append_lies _ (by rfl) _ _ _ (by rfl) w7.heap.size 3 i0 (.int .i64 0) 1 8 Try.underlying25 hi0 hz0 hz1 hz2 rfl (by omega) (.slice (some ⟨g8, 0, none⟩) begun.length c8) begun.length (begun.map (Value.int .i64)) (by rfl) (by exact (World.ownsRow.alloc hown8' _)) ⟨w8.heap.size, 0, none⟩ 1 1 [.int .i64 (i : Int)] (by rfl) (by rfl) (by exact (cell_one (by simp [go_sem]))) (by simp [Value.oneCell']) (by omega) (by unfold maxLen; omega) (by omega) (by exact RowKit.Below.size (F8.trans (Fut.alloc _ _))) _ (by rfl) ?_; intro g9 c9 w9 hown9 hgrow9 hlie9 hgl9; have F9 : Fut w7 w9 := RowKit.Below.grown (F8.trans (Fut.alloc _ _)) hgrow9 (RowKit.Below.size (F8.trans (Fut.alloc _ _))) (fun q hq => (World.ownsRow.lt hown8' q hq).1); have hown9' : w9.ownsRow w7.heap.size 3 1 (.slice (some ⟨g9, 0, none⟩) (begun.length + 1) c9) (begun.length + 1) (begun.map (Value.int .i64) ++ [.int .i64 (i : Int)]) := (by simpa using hown9); obtain ⟨r0, r1, r2, r3⟩ := HKEEP.out w9 F9)
                    | (have mkx := mkAB; refine step_append_lies _ (by rfl) _ _ _ (by rfl) w7.heap.size 3 i0 (.int .i64 0) 1 8 Try.underlying25 hi0 hz0 hz1 hz2 rfl (by omega) (.slice (some ⟨g8, 0, none⟩) begun.length c8) begun.length (begun.map (Value.int .i64)) (by rfl) (by exact hown8') ⟨w7.heap.size + 1, 0, none⟩ 1 1 [.int .i64 (i : Int)] (by rfl) (by rfl) (by exact (cell_one hbn)) (by simp [Value.oneCell']) (by omega) (by unfold maxLen; omega) (by omega) (by exact RowKit.Below.size F8) _ (by rfl) ?_; intro g9 c9 w9 hown9 hgrow9 hlie9 hgl9; have F9 : Fut w7 w9 := RowKit.Below.grown F8 hgrow9 (RowKit.Below.size F8) (fun q hq => (World.ownsRow.lt hown8' q hq).1); have hown9' : w9.ownsRow w7.heap.size 3 1 (.slice (some ⟨g9, 0, none⟩) (begun.length + 1) c9) (begun.length + 1) (begun.map (Value.int .i64) ++ [.int .i64 (i : Int)]) := (by simpa using hown9); obtain ⟨r0, r1, r2, r3⟩ := HKEEP.out w9 F9)
                    | (have mkx := mkBA; refine step_append_lies _ (by rfl) _ _ _ (by rfl) w7.heap.size 3 i0 (.int .i64 0) 1 8 Try.underlying25 hi0 hz0 hz1 hz2 rfl (by omega) (.slice (some ⟨g8, 0, none⟩) begun.length c8) begun.length (begun.map (Value.int .i64)) (by rfl) (by exact hown8') ⟨w7.heap.size, 0, none⟩ 1 1 [.int .i64 (i : Int)] (by rfl) (by rfl) (by exact (cell_one hbn)) (by simp [Value.oneCell']) (by omega) (by unfold maxLen; omega) (by omega) (by exact RowKit.Below.size F8) _ (by rfl) ?_; intro g9 c9 w9 hown9 hgrow9 hlie9 hgl9; have F9 : Fut w7 w9 := RowKit.Below.grown F8 hgrow9 (RowKit.Below.size F8) (fun q hq => (World.ownsRow.lt hown8' q hq).1); have hown9' : w9.ownsRow w7.heap.size 3 1 (.slice (some ⟨g9, 0, none⟩) (begun.length + 1) c9) (begun.length + 1) (begun.map (Value.int .i64) ++ [.int .i64 (i : Int)]) := (by simpa using hown9); obtain ⟨r0, r1, r2, r3⟩ := HKEEP.out w9 F9)
                    | (have mkx := mkAB; refine step_append_lies _ (by rfl) _ _ _ (by rfl) w7.heap.size 3 i0 (.int .i64 0) 1 8 Try.underlying25 hi0 hz0 hz1 hz2 rfl (by omega) (.slice (some ⟨g8, 0, none⟩) (0 + begun.length) c8) (0 + begun.length) ([] ++ begun.map (Value.int .i64)) (by rfl) (by exact hown8) ⟨w7.heap.size + 1, 0, none⟩ 1 1 [.int .i64 (i : Int)] (by rfl) (by rfl) (by exact (cell_one hbn)) (by simp [Value.oneCell']) (by omega) (by unfold maxLen; omega) (by omega) (by exact RowKit.Below.size F8) _ (by rfl) ?_; intro g9 c9 w9 hown9 hgrow9 hlie9 hgl9; have F9 : Fut w7 w9 := RowKit.Below.grown F8 hgrow9 (RowKit.Below.size F8) (fun q hq => (World.ownsRow.lt hown8' q hq).1); have hown9' : w9.ownsRow w7.heap.size 3 1 (.slice (some ⟨g9, 0, none⟩) (begun.length + 1) c9) (begun.length + 1) (begun.map (Value.int .i64) ++ [.int .i64 (i : Int)]) := (by simpa using hown9); obtain ⟨r0, r1, r2, r3⟩ := HKEEP.out w9 F9)
                    | (have mkx := mkBA; refine step_append_lies _ (by rfl) _ _ _ (by rfl) w7.heap.size 3 i0 (.int .i64 0) 1 8 Try.underlying25 hi0 hz0 hz1 hz2 rfl (by omega) (.slice (some ⟨g8, 0, none⟩) (0 + begun.length) c8) (0 + begun.length) ([] ++ begun.map (Value.int .i64)) (by rfl) (by exact hown8) ⟨w7.heap.size, 0, none⟩ 1 1 [.int .i64 (i : Int)] (by rfl) (by rfl) (by exact (cell_one hbn)) (by simp [Value.oneCell']) (by omega) (by unfold maxLen; omega) (by omega) (by exact RowKit.Below.size F8) _ (by rfl) ?_; intro g9 c9 w9 hown9 hgrow9 hlie9 hgl9; have F9 : Fut w7 w9 := RowKit.Below.grown F8 hgrow9 (RowKit.Below.size F8) (fun q hq => (World.ownsRow.lt hown8' q hq).1); have hown9' : w9.ownsRow w7.heap.size 3 1 (.slice (some ⟨g9, 0, none⟩) (begun.length + 1) c9) (begun.length + 1) (begun.map (Value.int .i64) ++ [.int .i64 (i : Int)]) := (by simpa using hown9); obtain ⟨r0, r1, r2, r3⟩ := HKEEP.out w9 F9)
                    | (go_at_call 69; (with_reducible refine (HCALL.out _ g9 c9 F9 hown9').mono ?_); rintro _ w10 ⟨F10, rl, rlc, hr1, hr2⟩; obtain ⟨rfl, hrI⟩ := hr1 r rfl; obtain ⟨t0, t1, t2, t3⟩ := HKEEP.out w10 (F9.trans F10)))
                  all_goals
                    have hQ : goQ ss n x K i = some (i :: r) := by rw [HTQ.out]; rfl
                    have hR : R = some (i :: r) := by rw [HRES.out, fs_at HM.out.2 hQ hlt]
                    have HRN := Lib.hid ((HF.out.trans HR7.out).trans (F9.trans F10))
                    have HRI := Lib.hid hrI
                    have HRR := Lib.hid hR
                    clear hQ hR hrI hr1 hr2 HCALL HKEEP HTQ HM2 HT HT2 HOT HRES
                    go_wp2
                    go_ret2
                    refine ⟨HRN.out, rl, rlc, fun r' h => ?_, fun h => ?_⟩
                    · rw [HRR.out] at h
                      obtain rfl := Option.some.inj h
                      have hl : begun ++ (i :: r).map (fun (i : Nat) => (i : Int)) = (begun ++ [(i : Int)]) ++ r.map (fun (i : Nat) => (i : Int)) := by simp
                      rw [hl]
                      first
                        | exact ⟨rfl, HRI.out⟩
                        | (have hlen : ((begun ++ [(i : Int)]) ++ r.map (fun (i : Nat) => (i : Int))).length = List.length begun + (r.length + 1) := by simp
                           rw [hlen]
                           exact ⟨rfl, HRI.out⟩)
                        | (have hlen : ((begun ++ [(i : Int)]) ++ r.map (fun (i : Nat) => (i : Int))).length = r.length + 1 := by simp
                           rw [hlen]
                           exact ⟨rfl, HRI.out⟩)
                    · rw [HRR.out] at h; cases h
          · have h1 : ((y : Int) != x) = true := by rw [bne_iff_ne]; intro e; exact ht (hTI.2 (Or.inl (by omega)))
            have h2 : ((z : Int) != x) = true := by rw [bne_iff_ne]; intro e; exact ht (hTI.2 (Or.inr (by omega)))
            have HM3 := Lib.hid (HM2.out (HT.out ht))
            clear ht hTI HT HT2 HOT HM2
            go_wp2
            go_roundw
            case rel => exact ⟨i + 1, true, by omega, by go_num, rfl, HM3, HR5⟩
            case measure => simp [intOf]; omega
      · obtain rfl : i = ss.length := by omega
        have hfn : (List.range ss.length).findSome? (goQ ss n x K) = none := fs_none HM.out.2
        have hR : R = if sm ss.length K = 0 ∧ x = 0 then some [] else none := by rw [HRES.out, hfn]
        have hmz : more = false ↔ sm ss.length K = 0 := by
          constructor
          · intro h
            refine sm_zero _ fun j hj => Nat.eq_zero_of_not_pos fun hp => ?_
            rw [HM.out.1.2 ⟨j, hj, hp⟩] at h; cases h
          · intro h
            cases hm : more with
            | false => rfl
            | true =>
              obtain ⟨j, hj, hp⟩ := HM.out.1.1 hm
              have := sm_all h j hj
              omega
        have HRN := Lib.hid (HF.out.trans HR.out)
        have HBR := Lib.hid (HBG.out.fut HRN.out)
        cases more with
        | true =>
          have hRn : R = none := by rw [hR, if_neg (fun h => by have := hmz.2 h.1; cases this)]
          have HRR := Lib.hid hRn
          clear hfn hR hmz hRn HRES HM
          go_wp2
          go_ret2
          exact ⟨HRN.out, ba, bc, fun r h => (by rw [HRR.out] at h; cases h), fun _ => ⟨_, rfl⟩⟩
        | false =>
          have hz := hmz.1 rfl
          by_cases hx0 : x = 0
          · have hRs : R = some [] := by rw [hR, if_pos ⟨hz, hx0⟩]
            have hxb : ((x : Int) == 0) = true := by rw [hx0]; rfl
            have HRR := Lib.hid hRs
            clear hfn hR hmz hRs HRES HM hz hx0
            go_wp2
            go_ret2
            refine ⟨HRN.out, ba, bc, fun r h => ?_, fun h => (by rw [HRR.out] at h; cases h)⟩
            rw [HRR.out] at h
            obtain rfl := Option.some.inj h
            have hl : begun ++ ([] : List Nat).map (fun (i : Nat) => (i : Int)) = begun := by simp
            rw [hl]
            exact ⟨rfl, HBR.out⟩
          · have hRn : R = none := by rw [hR, if_neg (fun h => hx0 h.2)]
            have hxb : ((x : Int) == 0) = false := by rw [beq_eq_false_iff_ne]; omega
            have HRR := Lib.hid hRn
            clear hfn hR hmz hRn HRES HM hz hx0
            go_wp2
            go_ret2
            exact ⟨HRN.out, ba, bc, fun r h => (by rw [HRR.out] at h; cases h), fun _ => ⟨_, rfl⟩⟩
end Go.Proofs.Ytimddkofcejijaa
