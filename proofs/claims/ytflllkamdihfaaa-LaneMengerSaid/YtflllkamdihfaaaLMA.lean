/- merged: LC LD LE LF LG LH LI LJ -/
import Derived.Test.YtflllkamdihfaaaLB
import Derived.Deep.DeepCutAuto
namespace Go.Proofs.Ytflllkamdihfaaa
open Go.RowKit Go.Sort
section
/-- rows, columns, and corners of a parish. -/
def Side (r c m : Int) : Prop := 1 ≤ r ∧ r ≤ 4 ∧ 1 ≤ c ∧ c ≤ 4 ∧ r * c = m
theorem Side.m {r c m : Int} (h : Side r c m) : 1 ≤ m ∧ m ≤ 16 := by
  obtain ⟨h1, h2, h3, h4, rfl⟩ := h
  rcases (by omega : r = 1 ∨ r = 2 ∨ r = 3 ∨ r = 4) with rfl | rfl | rfl | rfl <;> omega
/-- a parish as a value. -/
abbrev parV (r c : Int) (a : Option Addr) (n cap : Nat) : Value := .agg #[.int .i64 r, .int .i64 c, .slice a n cap]
theorem corners_any (r c m : Int) (hs : Side r c m) (a : Option Addr) (n cap : Nat) (w : World) :
    Calls Try.prog 69 #[parV r c a n cap] w fun e w' => e = .returned (.int .i64 m) ∧ Fut w w' := by
  have hm := hs.m
  obtain ⟨h1, h2, h3, h4, h5⟩ := hs
  obtain ⟨hm1, hm2⟩ := hm
  have hw : IntKind.i64.wrap (r * c) = m := by rw [h5]; exact IntWalk.i64_in _ ⟨by omega, by omega⟩
  have hw2 : wrap64 (r * c) = m := by rw [h5]; unfold wrap64; omega
  have HF : Hid (Fut w (w.alloc (.cells #[.int .i64 r, .int .i64 c, .slice a n cap] 24))) := Lib.hid (Fut.alloc _ _)
  clear h5
  go_enter Try.func69, Try.ntmps69
  go_wp2
  go_ret
  exact ⟨rfl, HF.out⟩
theorem isSide_any (n : Int) (w : World) : Calls Try.prog 73 #[.int .i64 n] w fun e w' => e = .returned (.bool (decide (1 ≤ n ∧ n ≤ 4))) ∧ w = w' := by
  by_cases h1 : 1 ≤ n
  · by_cases h2 : n ≤ 4
    · have HE := Lib.hid (show decide (1 ≤ n ∧ n ≤ 4) = true by simp [h1, h2])
      generalize decide (1 ≤ n ∧ n ≤ 4) = b at *
      go_enter Try.func73, Try.ntmps73
      go_wp2
      go_ret
      exact ⟨ret_bool HE.out.symm, rfl⟩
    · have HE := Lib.hid (show decide (1 ≤ n ∧ n ≤ 4) = false by simp [h2])
      generalize decide (1 ≤ n ∧ n ≤ 4) = b at *
      go_enter Try.func73, Try.ntmps73
      go_wp2
      go_ret
      exact ⟨ret_bool HE.out.symm, rfl⟩
  · have HE := Lib.hid (show decide (1 ≤ n ∧ n ≤ 4) = false by simp [h1])
    generalize decide (1 ≤ n ∧ n ≤ 4) = b at *
    go_enter Try.func73, Try.ntmps73
    go_wp2
    go_ret
    exact ⟨ret_bool HE.out.symm, rfl⟩
/-- the error of a cart at a corner. -/
def atE (m : Int) (S : List Int) (k : Int) : Int := if inB m k = true then (if S.contains k = true then 20 else 0) else 2
set_option maxRecDepth 100000 in
theorem at_any (r c m : Int) (hs : Side r c m) (a : Option Addr) (cap : Nat) (S : List Int) (k : Int) (w : World) (hS : IntsAt w a S) (hl : S.length ≤ 1000) :
    Calls Try.prog 106 #[parV r c a S.length cap, .int .i64 k] w fun e w' => e = .returned (.int .i64 (atE m S k)) ∧ Fut w w' := by
  have HCO := Lib.hid (fun W => corners_any r c m hs a S.length cap W)
  have HIS := Lib.hid (fun W => isIndex_any k m W)
  have HCT := Lib.hid (fun W (F : Fut w W) => contains_any a cap S k W (hS.fut F) hl)
  have HF : Hid (Fut w (w.alloc (.cells #[.int .i64 r, .int .i64 c, .slice a S.length cap] 24))) := Lib.hid (Fut.alloc _ _)
  have c0 : (w.alloc (.cells #[.int .i64 r, .int .i64 c, .slice a S.length cap] 24)).heap[w.heap.size]? = some (.cells #[.int .i64 r, .int .i64 c, .slice a S.length cap] 24) := World.alloc_heap_new _ _
  have HC0 := Lib.hid c0
  have HE : Hid (atE m S k = if inB m k = true then (if S.contains k = true then 20 else 0) else 2) := Lib.hid rfl
  generalize atE m S k = E at *
  generalize inB m k = ib at *
  generalize S.contains k = sb at *
  clear hs hS hl c0
  go_enter Try.func106, Try.ntmps106
  go_wp2_with fail
  refine (HCO.out _).mono ?_
  rintro _ w1 ⟨rfl, F⟩
  have HF1 := Lib.hid (HF.out.trans F)
  have c2 : w1.cell? ⟨w.heap.size, 2, none⟩ = some (.slice a S.length cap) := (RowKit.Below.cell F (p := ⟨w.heap.size, 2, none⟩) (by simp)).trans (by unfold World.cell?; rw [HC0.out]; rfl)
  clear F
  go_wp2_with fail
  refine (HIS.out _).mono ?_
  rintro _ _ ⟨rfl, rfl⟩
  cases ib
  · go_wp2_with fail
    go_ret
    exact ⟨ret_int (by rw [HE.out]; rfl), HF1.out⟩
  · go_wp2_with fail
    refine (HCT.out _ HF1.out).mono ?_
    rintro _ _ ⟨rfl, rfl⟩
    cases sb
    · go_wp2_with fail
      go_ret
      exact ⟨ret_int (by rw [HE.out]; rfl), HF1.out⟩
    · go_wp2_with fail
      go_ret
      exact ⟨ret_int (by rw [HE.out]; rfl), HF1.out⟩
/-- the error of an ascending list of indices. -/
def ascF (m : Int) (all : List Int) : List Int → Nat → Int
  | [], _ => 0
  | x :: t, k => if inB m x = true then (if 0 < k ∧ x ≤ nth all (k - 1) then 7 else ascF m all t (k + 1)) else 2
def ascE (m : Int) (l : List Int) : Int := ascF m l l 0
set_option maxRecDepth 100000 in
set_option maxHeartbeats 1000000 in
theorem asc_any (a : Option Addr) (cap : Nat) (zs : List Int) (m : Int) (w : World) (hS : IntsAt w a zs) (hl : zs.length ≤ 1000) :
    Calls Try.prog 74 #[.slice a zs.length cap, .int .i64 m] w fun e w' => e = .returned (.int .i64 (ascE m zs)) ∧ w = w' := by
  have HIS := Lib.hid (fun k => isIndex_any k m w)
  have HA := Lib.hid hS
  have hzx : (zs.length : Int) ≤ 1000 := by omega
  have HE : Hid (ascE m zs = ascF m zs (zs.drop 0) 0) := Lib.hid rfl
  generalize ascE m zs = E at *
  clear hS hl
  go_enter Try.func74, Try.ntmps74
  go_wp2_with fail
  go_loopw [9] (fun kv wr => ∃ k : Nat, k ≤ zs.length ∧ kv = .int .i64 k ∧ Hid (E = ascF m zs (zs.drop k) k) ∧ wr = w) (fun kv _ => zs.length - (intOf kv).toNat)
  case atStart => exact ⟨0, Nat.zero_le _, rfl, HE, rfl⟩
  case round =>
    obtain ⟨k, hk, rfl, HK, rfl⟩ := hrel
    by_cases hkl : k < zs.length
    · have hkx : (k : Int) < zs.length := by omega
      have hkk := HK.out
      rw [nth_drop zs k hkl, ascF] at hkk
      obtain ⟨b, o, rfl, hb, c1⟩ := HA.out k hkl
      have HI := Lib.hid (HIS.out (nth zs k))
      cases hi : inB m (nth zs k)
      · rw [hi] at HI hkk
        have HE2 := Lib.hid hkk
        clear hkk hi HIS
        generalize nth zs k = x at *
        go_wp2_with fail
        refine HI.out.mono ?_
        rintro _ _ ⟨rfl, rfl⟩
        go_wp2_with fail
        go_ret
        exact ⟨ret_int (by rw [HE2.out]; rfl), rfl⟩
      · rw [hi, if_pos rfl] at hkk
        rw [hi] at HI
        by_cases hk0 : 0 < k
        · have hk0x : (0 : Int) < k := by omega
          obtain ⟨b1, o1, e1, hb1, c2⟩ := HA.out (k - 1) (by omega)
          simp only [Option.some.injEq, Addr.mk.injEq, and_true] at e1
          obtain ⟨rfl, rfl⟩ := e1
          have hwk : IntKind.i64.wrap ((k : Int) - 1) = ((k - 1 : Nat) : Int) := by rw [IntWalk.i64_in _ ⟨by omega, by omega⟩]; omega
          have hwk2 : wrap64 ((k : Int) - 1) = ((k - 1 : Nat) : Int) := by unfold wrap64; omega
          have hk1x : ((k - 1 : Nat) : Int) < zs.length := by omega
          by_cases hle : nth zs k ≤ nth zs (k - 1)
          · rw [if_pos ⟨hk0, hle⟩] at hkk
            have HE2 := Lib.hid hkk
            clear hkk hi HIS HK
            generalize nth zs (k - 1) = y at *
            generalize nth zs k = x at *
            generalize k - 1 = k1 at *
            go_wp2_with fail
            refine HI.out.mono ?_
            rintro _ _ ⟨rfl, rfl⟩
            go_wp2_with fail
            go_ret
            exact ⟨ret_int HE2.out.symm, rfl⟩
          · rw [if_neg (fun h => hle h.2)] at hkk
            have HE2 := Lib.hid hkk
            clear hkk hi HIS HK
            generalize nth zs (k - 1) = y at *
            generalize nth zs k = x at *
            generalize k - 1 = k1 at *
            go_wp2_with fail
            refine HI.out.mono ?_
            rintro _ _ ⟨rfl, rfl⟩
            go_wp2_with fail
            clear hwk hwk2
            go_round
            case rel => exact ⟨k + 1, by omega, by go_num, HE2, by first | rfl | trivial⟩
            case measure => simp [intOf]; omega
        · obtain rfl : k = 0 := by omega
          rw [Nat.add_zero] at c1
          rw [if_neg (fun h => absurd h.1 (Nat.lt_irrefl 0))] at hkk
          have HE2 := Lib.hid hkk
          clear hkk hi HIS HK
          generalize nth zs 0 = x at *
          go_wp2_with fail
          refine HI.out.mono ?_
          rintro _ _ ⟨rfl, rfl⟩
          go_wp2_with fail
          go_round
          case rel => exact ⟨1, by omega, by go_num, HE2, by first | rfl | trivial⟩
          case measure => simp [intOf]; omega
    · obtain rfl : k = zs.length := by omega
      have hkk := HK.out
      rw [List.drop_length, ascF] at hkk
      have HE2 := Lib.hid hkk
      clear hkk
      go_wp2_with fail
      go_ret
      exact ⟨ret_int HE2.out.symm, rfl⟩
/-- the error of the yards, or of the tips. -/
def difF (m : Int) (S : List Int) (all : List Int) : List Int → Nat → Int
  | [], _ => 0
  | x :: t, k => if atE m S x = 0 then (if (all.take k).contains x = true then 6 else difF m S all t (k + 1)) else atE m S x
def difE (m : Int) (S l : List Int) : Int := difF m S l l 0
set_option maxRecDepth 100000 in
set_option maxHeartbeats 1000000 in
theorem dif_any (r c m : Int) (hs : Side r c m) (a : Option Addr) (cap : Nat) (S : List Int) (b : Option Addr) (bap : Nat) (zs : List Int) (w : World) (hS : IntsAt w a S) (hl : S.length ≤ 1000) (hZ : IntsAt w b zs) (hzl : zs.length ≤ 1000) (hzc : zs.length ≤ bap) :
    Calls Try.prog 75 #[parV r c a S.length cap, .slice b zs.length bap] w fun e w' => e = .returned (.int .i64 (difE m S zs)) ∧ Fut w w' := by
  have HAT := Lib.hid (fun k W (F : Fut w W) => at_any r c m hs a cap S k W (hS.fut F) hl)
  have HA := Lib.hid hZ
  have hzx : (zs.length : Int) ≤ 1000 := by omega
  have HE : Hid (difE m S zs = difF m S zs (zs.drop 0) 0) := Lib.hid rfl
  generalize difE m S zs = E at *
  have HF : Hid (Fut w (w.alloc (.cells #[.int .i64 r, .int .i64 c, .slice a S.length cap] 24))) := Lib.hid (Fut.alloc _ _)
  have c0 : (w.alloc (.cells #[.int .i64 r, .int .i64 c, .slice a S.length cap] 24)).heap[w.heap.size]? = some (.cells #[.int .i64 r, .int .i64 c, .slice a S.length cap] 24) := World.alloc_heap_new _ _
  have HW0 : Hid (∀ W, Fut (w.alloc (.cells #[.int .i64 r, .int .i64 c, .slice a S.length cap] 24)) W → W.cell? ⟨w.heap.size, 0, none⟩ = some (.int .i64 r) ∧ W.cell? ⟨w.heap.size, 1, none⟩ = some (.int .i64 c) ∧ W.cell? ⟨w.heap.size, 2, none⟩ = some (.slice a S.length cap)) := Lib.hid (fun W F => by
    have hb : w.heap.size < (w.alloc (.cells #[.int .i64 r, .int .i64 c, .slice a S.length cap] 24)).heap.size := by simp
    exact ⟨(RowKit.Below.cell F (p := ⟨w.heap.size, 0, none⟩) hb).trans (by unfold World.cell?; rw [c0]; rfl), (RowKit.Below.cell F (p := ⟨w.heap.size, 1, none⟩) hb).trans (by unfold World.cell?; rw [c0]; rfl), (RowKit.Below.cell F (p := ⟨w.heap.size, 2, none⟩) hb).trans (by unfold World.cell?; rw [c0]; rfl)⟩)
  clear hS hl hZ hzl hs c0
  go_enter Try.func75, Try.ntmps75
  go_wp2_with fail
  generalize w.alloc (.cells #[.int .i64 r, .int .i64 c, .slice a S.length cap] 24) = w1 at *
  go_loopw [10] (fun kv wr => ∃ k : Nat, k ≤ zs.length ∧ kv = .int .i64 k ∧ Hid (E = difF m S zs (zs.drop k) k) ∧ Hid (Fut w1 wr)) (fun kv _ => zs.length - (intOf kv).toNat)
  case atStart => exact ⟨0, Nat.zero_le _, rfl, HE, Lib.hid Fut.rfl⟩
  case round =>
    obtain ⟨k, hk, rfl, HK, HFk⟩ := hrel
    obtain ⟨wo, hwo⟩ : ∃ wo, wo = wr := ⟨_, rfl⟩
    subst hwo
    have HFW := Lib.hid (HF.out.trans HFk.out)
    by_cases hkl : k < zs.length
    · have hkx : (k : Int) < zs.length := by omega
      have hkk := HK.out
      rw [nth_drop zs k hkl, difF] at hkk
      obtain ⟨b1, o1, rfl, hb, c1⟩ := (HA.out.fut HFW.out) k hkl
      obtain ⟨d1, d2, d3⟩ := HW0.out wo HFk.out
      have HI := Lib.hid (HAT.out (nth zs k) wo HFW.out)
      have hst := fun W => slice_toI b1 o1 zs.length bap k (by omega) W
      have HCT := Lib.hid (fun W (F : Fut wo W) => contains_any (some ⟨b1, o1, none⟩) bap (zs.take k) (nth zs k) W ((HA.out.fut (HFW.out.trans F)).take k) (by rw [List.length_take]; omega))
      rw [List.length_take, Nat.min_eq_left (by omega)] at HCT
      generalize (zs.take k).contains (nth zs k) = bc at *
      generalize atE m S (nth zs k) = ae at *
      generalize nth zs k = x at *
      by_cases hae : ae = 0
      · subst hae
        rw [if_pos rfl] at hkk
        have HK2 := Lib.hid hkk
        clear hkk HK
        go_wp2_with fail
        refine HI.out.mono ?_
        rintro _ w2 ⟨rfl, F⟩
        have HF2 := Lib.hid F
        clear F d1 d2 d3 c1
        go_wp2_with fail
        refine (HCT.out _ HF2.out).mono ?_
        rintro _ _ ⟨rfl, rfl⟩
        cases bc
        · go_wp2_with fail
          go_round
          case rel => exact ⟨k + 1, by omega, by go_num, HK2, Lib.hid (HFk.out.trans HF2.out)⟩
          case measure => simp [intOf]; omega
        · go_wp2_with fail
          go_ret
          exact ⟨ret_int HK2.out.symm, HFW.out.trans HF2.out⟩
      · rw [if_neg hae] at hkk
        have HK2 := Lib.hid hkk
        clear hkk HK HCT
        go_wp2_with fail
        refine HI.out.mono ?_
        rintro _ w2 ⟨rfl, F⟩
        have HF2 := Lib.hid F
        clear F d1 d2 d3 c1
        go_wp2_with fail
        go_ret
        exact ⟨ret_int HK2.out.symm, HFW.out.trans HF2.out⟩
    · obtain rfl : k = zs.length := by omega
      have hkk := HK.out
      rw [List.drop_length, difF] at hkk
      have HE2 := Lib.hid hkk
      clear hkk
      go_wp2_with fail
      go_ret
      exact ⟨ret_int HE2.out.symm, HFW.out⟩
end
section
instance {w : World} : Inhabited (After w) := ⟨⟨w, Fut.rfl⟩⟩
/-- places as a value. -/
abbrev plaV (ya : Option Addr) (yn yc : Nat) (ta : Option Addr) (tn tc : Nat) : Value := .agg #[.slice ya yn yc, .slice ta tn tc]
/-- the box of a parish. -/
structure BoxP (w : World) (B : Nat) (r c : Int) (a : Option Addr) (n cap : Nat) : Prop where
  lt : B < w.heap.size
  c0 : w.cell? ⟨B, 0, none⟩ = some (.int .i64 r)
  c1 : w.cell? ⟨B, 1, none⟩ = some (.int .i64 c)
  c2 : w.cell? ⟨B, 2, none⟩ = some (.slice a n cap)
theorem BoxP.fut {w w' : World} {B : Nat} {r c : Int} {a : Option Addr} {n cap : Nat} (h : BoxP w B r c a n cap) (F : Fut w w') : BoxP w' B r c a n cap :=
  ⟨Nat.lt_of_lt_of_le h.lt (RowKit.Below.size F), (RowKit.Below.cell F (p := ⟨B, 0, none⟩) h.lt).trans h.c0, (RowKit.Below.cell F (p := ⟨B, 1, none⟩) h.lt).trans h.c1, (RowKit.Below.cell F (p := ⟨B, 2, none⟩) h.lt).trans h.c2⟩
theorem BoxP.new (w : World) (r c : Int) (a : Option Addr) (n cap : Nat) : BoxP (w.alloc (.cells #[.int .i64 r, .int .i64 c, .slice a n cap] 24)) w.heap.size r c a n cap := by
  have h := World.alloc_heap_new w (.cells #[.int .i64 r, .int .i64 c, .slice a n cap] 24)
  exact ⟨by simp, by unfold World.cell?; rw [h]; rfl, by unfold World.cell?; rw [h]; rfl, by unfold World.cell?; rw [h]; rfl⟩
/-- the box of places. -/
structure BoxQ (w : World) (B : Nat) (ya : Option Addr) (yn yc : Nat) (ta : Option Addr) (tn tc : Nat) : Prop where
  lt : B < w.heap.size
  c0 : w.cell? ⟨B, 0, none⟩ = some (.slice ya yn yc)
  c1 : w.cell? ⟨B, 1, none⟩ = some (.slice ta tn tc)
theorem BoxQ.fut {w w' : World} {B : Nat} {ya : Option Addr} {yn yc : Nat} {ta : Option Addr} {tn tc : Nat} (h : BoxQ w B ya yn yc ta tn tc) (F : Fut w w') : BoxQ w' B ya yn yc ta tn tc :=
  ⟨Nat.lt_of_lt_of_le h.lt (RowKit.Below.size F), (RowKit.Below.cell F (p := ⟨B, 0, none⟩) h.lt).trans h.c0, (RowKit.Below.cell F (p := ⟨B, 1, none⟩) h.lt).trans h.c1⟩
theorem BoxQ.new (w : World) (ya : Option Addr) (yn yc : Nat) (ta : Option Addr) (tn tc : Nat) : BoxQ (w.alloc (.cells #[.slice ya yn yc, .slice ta tn tc] 26)) w.heap.size ya yn yc ta tn tc := by
  have h := World.alloc_heap_new w (.cells #[.slice ya yn yc, .slice ta tn tc] 26)
  exact ⟨by simp, by unfold World.cell?; rw [h]; rfl, by unfold World.cell?; rw [h]; rfl⟩
/-- the error of a parish and places. -/
def chkP (r c : Int) (S Y T : List Int) : Int :=
  if decide (1 ≤ r ∧ r ≤ 4) = true then (if decide (1 ≤ c ∧ c ≤ 4) = true then (if ascE (r * c) S = 0 then (if T.length = Y.length then (if Y.length = 0 then 4 else if 3 < Y.length then 3 else if difE (r * c) S Y = 0 then difE (r * c) S T else difE (r * c) S Y) else 5) else ascE (r * c) S) else 1) else 1
/-- what came in: a parish and places that can be read. -/
structure InPQ (w : World) (a : Option Addr) (S : List Int) (ya : Option Addr) (yc : Nat) (Y : List Int) (ta : Option Addr) (tc : Nat) (T : List Int) : Prop where
  s : IntsAt w a S
  sl : S.length ≤ 1000
  y : IntsAt w ya Y
  yl : Y.length ≤ 1000
  yc : Y.length ≤ yc
  t : IntsAt w ta T
  tl : T.length ≤ 1000
  tc : T.length ≤ tc
theorem InPQ.fut {w w' : World} {a : Option Addr} {S : List Int} {ya : Option Addr} {yc : Nat} {Y : List Int} {ta : Option Addr} {tc : Nat} {T : List Int} (h : InPQ w a S ya yc Y ta tc T) (F : Fut w w') : InPQ w' a S ya yc Y ta tc T :=
  ⟨h.s.fut F, h.sl, h.y.fut F, h.yl, h.yc, h.t.fut F, h.tl, h.tc⟩
set_option maxRecDepth 100000 in
set_option maxHeartbeats 2000000 in
theorem chk_any (r c : Int) (a : Option Addr) (cap : Nat) (S : List Int) (ya : Option Addr) (yc : Nat) (Y : List Int) (ta : Option Addr) (tc : Nat) (T : List Int) (w : World) (h : InPQ w a S ya yc Y ta tc T) :
    Calls Try.prog 21 #[parV r c a S.length cap, plaV ya Y.length yc ta T.length tc] w fun e w' => e = .returned (.int .i64 (chkP r c S Y T)) ∧ Fut w w' := by
  have HS1 := Lib.hid (fun W => isSide_any r W)
  have HS2 := Lib.hid (fun W => isSide_any c W)
  have hA : Fut w ((w.alloc (.cells #[.int .i64 r, .int .i64 c, .slice a S.length cap] 24)).alloc (.cells #[.slice ya Y.length yc, .slice ta T.length tc] 26)) := (Fut.alloc _ _).trans (Fut.alloc _ _)
  have hBP := (BoxP.new w r c a S.length cap).fut (Fut.alloc _ (.cells #[.slice ya Y.length yc, .slice ta T.length tc] 26))
  have hBQ := BoxQ.new (w.alloc (.cells #[.int .i64 r, .int .i64 c, .slice a S.length cap] 24)) ya Y.length yc ta T.length tc
  rw [World.size_alloc] at hBQ
  have hyx : (Y.length : Int) ≤ 1000 := by have := h.yl; omega
  have htx : (T.length : Int) ≤ 1000 := by have := h.tl; omega
  have HCO := Lib.hid (fun (m : Int) (hs : Side r c m) W => corners_any r c m hs a S.length cap W)
  have HAS := Lib.hid (fun (m : Int) W (F : Fut w W) => asc_any a cap S m W (h.s.fut F) h.sl)
  have HDY := Lib.hid (fun (m : Int) (hs : Side r c m) W (F : Fut w W) => dif_any r c m hs a cap S ya yc Y W (h.s.fut F) h.sl (h.y.fut F) h.yl h.yc)
  have HDT := Lib.hid (fun (m : Int) (hs : Side r c m) W (F : Fut w W) => dif_any r c m hs a cap S ta tc T W (h.s.fut F) h.sl (h.t.fut F) h.tl h.tc)
  clear h
  have HA := Lib.hid hA
  have HBP := Lib.hid hBP
  have HBQ := Lib.hid hBQ
  unfold chkP
  by_cases h1 : decide (1 ≤ r ∧ r ≤ 4) = true
  · rw [if_pos h1]
    rw [h1] at HS1
    have h1' := of_decide_eq_true h1
    by_cases h2 : decide (1 ≤ c ∧ c ≤ 4) = true
    · rw [if_pos h2]
      rw [h2] at HS2
      have h2' := of_decide_eq_true h2
      have hs : Side r c (r * c) := ⟨h1'.1, h1'.2, h2'.1, h2'.2, rfl⟩
      generalize r * c = m at *
      replace HCO := Lib.hid (fun W => HCO.out m hs W)
      replace HAS := Lib.hid (fun W F => HAS.out m W F)
      replace HDY := Lib.hid (fun W F => HDY.out m hs W F)
      replace HDT := Lib.hid (fun W F => HDT.out m hs W F)
      generalize ascE m S = eA at *
      generalize difE m S Y = eY at *
      generalize difE m S T = eT at *
      obtain ⟨E, HE⟩ : ∃ E, Hid (E = if eA = 0 then (if T.length = Y.length then (if Y.length = 0 then 4 else if 3 < Y.length then 3 else if eY = 0 then eT else eY) else 5) else eA) := ⟨_, Lib.hid rfl⟩
      rw [← HE.out]
      clear h1 h2 h1' h2' hs hA hBP hBQ
      obtain ⟨_, p0, p1, p2⟩ := HBP.out
      obtain ⟨_, q0, q1⟩ := HBQ.out
      go_enter Try.func21, Try.ntmps21
      go_wp2_with fail
      generalize (w.alloc (.cells #[.int .i64 r, .int .i64 c, .slice a S.length cap] 24)).alloc (.cells #[.slice ya Y.length yc, .slice ta T.length tc] 26) = w1 at *
      refine (HS1.out _).mono ?_
      rintro _ _ ⟨rfl, rfl⟩
      go_wp2_with fail
      refine (HS2.out _).mono ?_
      rintro _ _ ⟨rfl, rfl⟩
      have b0 := cell_after p0
      have b1 := cell_after p1
      have b2 := cell_after p2
      have HC2 := Lib.hid (fun p : After w1 => HCO.out p.w')
      have HA2 := Lib.hid (fun p : After w1 => HAS.out p.w' (HA.out.trans p.F))
      go_wp2_with fail
      refine region_fut (by kernel_rfl) (by kernel_rfl) ?_
      repeat (go_big_quiet_step (first | (with_reducible (go_at_call 69; rename_i p; exact after_of (HC2.out p))) | (go_at_call 74; rename_i p; exact after_same (HA2.out p))))
      refine wpQuiet_nil ?_
      intro w2 hw'
      have F2 := after_fut hw'
      have HF2 := Lib.hid (HA.out.trans F2)
      have HBP2 := Lib.hid (HBP.out.fut F2)
      have HBQ2 := Lib.hid (HBQ.out.fut F2)
      clear hw' F2 b0 b1 b2 p0 p1 p2 q0 q1 HC2 HA2 HBP HBQ HA
      obtain ⟨_, p0, p1, p2⟩ := HBP2.out
      obtain ⟨_, q0, q1⟩ := HBQ2.out
      by_cases hA0 : eA = 0
      · subst hA0
        replace HE := Lib.hid (HE.out.trans (if_pos rfl))
        by_cases hl : T.length = Y.length
        · have hlx : (T.length : Int) = (Y.length : Int) := by omega
          replace HE := Lib.hid (HE.out.trans (if_pos hl))
          by_cases hy0 : Y.length = 0
          · have hy0x : (Y.length : Int) = 0 := by omega
            have ht0x : (T.length : Int) = 0 := by omega
            replace HE := Lib.hid (HE.out.trans (if_pos hy0))
            clear hl hlx hy0
            go_wp2_with fail
            go_ret
            exact ⟨ret_int HE.out.symm, HF2.out⟩
          · have hy0x : ¬ (Y.length : Int) = 0 := by omega
            replace HE := Lib.hid (HE.out.trans (if_neg hy0))
            clear hl
            generalize Y.length = yn at *
            by_cases hy3 : 3 < yn
            · have hy3x : (3 : Int) < yn := by omega
              replace HE := Lib.hid (HE.out.trans (if_pos hy3))
              go_wp2_with fail
              go_ret
              exact ⟨ret_int HE.out.symm, HF2.out⟩
            · have hy3x : ¬ (3 : Int) < yn := by omega
              replace HE := Lib.hid (HE.out.trans (if_neg hy3))
              by_cases hY0 : eY = 0
              · subst hY0
                replace HE := Lib.hid (HE.out.trans (if_pos rfl))
                go_wp2_with fail
                refine (HDY.out _ HF2.out).mono ?_
                rintro _ w3 ⟨rfl, F⟩
                have HF3 := Lib.hid (HF2.out.trans F)
                have HBP3 := Lib.hid (HBP2.out.fut F)
                have HBQ3 := Lib.hid (HBQ2.out.fut F)
                clear F p0 p1 p2 q0 q1
                obtain ⟨_, p0, p1, p2⟩ := HBP3.out
                obtain ⟨_, q0, q1⟩ := HBQ3.out
                go_wp2_with fail
                refine (HDT.out _ HF3.out).mono ?_
                rintro _ w4 ⟨rfl, F⟩
                have HF4 := Lib.hid (HF3.out.trans F)
                clear F
                go_wp2_with fail
                go_ret
                exact ⟨ret_int HE.out.symm, HF4.out⟩
              · replace HE := Lib.hid (HE.out.trans (if_neg hY0))
                go_wp2_with fail
                refine (HDY.out _ HF2.out).mono ?_
                rintro _ w3 ⟨rfl, F⟩
                have HF3 := Lib.hid (HF2.out.trans F)
                clear F
                go_wp2_with fail
                go_ret
                exact ⟨ret_int HE.out.symm, HF3.out⟩
        · have hlx : ¬ (T.length : Int) = (Y.length : Int) := by omega
          replace HE := Lib.hid (HE.out.trans (if_neg hl))
          go_wp2_with fail
          go_ret
          exact ⟨ret_int HE.out.symm, HF2.out⟩
      · replace HE := Lib.hid (HE.out.trans (if_neg hA0))
        go_wp2_with fail
        go_ret
        exact ⟨ret_int HE.out.symm, HF2.out⟩
    · rw [if_neg h2]
      rw [Bool.not_eq_true] at h2
      rw [h2] at HS2
      clear h1 h2 hA hBP hBQ HCO HAS HDY HDT
      obtain ⟨_, p0, p1, p2⟩ := HBP.out
      go_enter Try.func21, Try.ntmps21
      go_wp2_with fail
      refine (HS1.out _).mono ?_
      rintro _ _ ⟨rfl, rfl⟩
      go_wp2_with fail
      refine (HS2.out _).mono ?_
      rintro _ _ ⟨rfl, rfl⟩
      go_wp2_with fail
      go_ret
      exact ⟨rfl, HA.out⟩
  · rw [if_neg h1]
    rw [Bool.not_eq_true] at h1
    rw [h1] at HS1
    clear h1 hA hBP hBQ HCO HAS HDY HDT
    obtain ⟨_, p0, p1, p2⟩ := HBP.out
    go_enter Try.func21, Try.ntmps21
    go_wp2_with fail
    refine (HS1.out _).mono ?_
    rintro _ _ ⟨rfl, rfl⟩
    go_wp2_with fail
    go_ret
    exact ⟨rfl, HA.out⟩
end
section
/-- the corners to which one step leads. -/
def stL (c m : Int) (S : List Int) (k : Int) : List Int := (if ¬ (k + 1) % c = 0 ∧ atE m S (k + 1) = 0 then [k + 1] else []) ++ (if atE m S (k + c) = 0 then [k + c] else [])
set_option maxRecDepth 100000 in
set_option maxHeartbeats 2000000 in
theorem steps_any (r c m : Int) (hs : Side r c m) (a : Option Addr) (cap : Nat) (S : List Int) (k : Int) (hk : 0 ≤ k ∧ k < m) (w : World) (hS : IntsAt w a S) (hl : S.length ≤ 1000) :
    Calls Try.prog 108 #[parV r c a S.length cap, .int .i64 k] w fun e w' => ∃ v, e = .returned v ∧ Owns w' w.heap.size v (stL c m S k) ∧ Fut w w' := by
  obtain ⟨i0, hi0, hz0, hz1, hz2⟩ := info_parts info3
  have hm := hs.m
  have HAT := Lib.hid (fun x W (F : Fut w W) => at_any r c m hs a cap S x W (hS.fut F) hl)
  obtain ⟨_, _, hc1, hc4, _⟩ := hs
  obtain ⟨hk1, hk2⟩ := hk
  have hF : Fut w (w.alloc (.cells #[.int .i64 r, .int .i64 c, .slice a S.length cap] 24)) := Fut.alloc _ _
  have hBP := BoxP.new w r c a S.length cap
  obtain ⟨R, hR⟩ : ∃ R, R = (k + 1) % c := ⟨_, rfl⟩
  have hR2 : (k + 1).tmod c = R := by rw [Int.tmod_eq_emod_of_nonneg (by omega), hR]
  have hRb : 0 ≤ R ∧ R < 4 := by
    rw [hR]
    exact ⟨Int.emod_nonneg _ (by omega), by have := Int.emod_lt_of_pos (k + 1) (show 0 < c by omega); omega⟩
  have hw1 : IntKind.i64.wrap (k + 1) = k + 1 := IntWalk.i64_in _ ⟨by omega, by omega⟩
  have hw2 : IntKind.i64.wrap (k + c) = k + c := IntWalk.i64_in _ ⟨by omega, by omega⟩
  obtain ⟨hRb1, hRb2⟩ := hRb
  have hw3 : IntKind.i64.wrap R = R := IntWalk.i64_in _ ⟨by omega, by omega⟩
  have hc0 : ¬ c = 0 := by omega
  have hr0 : 0 ≤ k + 1 := by omega
  obtain ⟨L1, HL1⟩ : ∃ L1, Hid (L1 = if ¬ R = 0 ∧ atE m S (k + 1) = 0 then [k + 1] else []) := ⟨_, Lib.hid rfl⟩
  obtain ⟨L2, HL2⟩ : ∃ L2, Hid (L2 = if atE m S (k + c) = 0 then [k + c] else []) := ⟨_, Lib.hid rfl⟩
  have HST : Hid (stL c m S k = L1 ++ L2) := Lib.hid (by rw [HL1.out, HL2.out, hR]; rfl)
  have HA1 := Lib.hid (HAT.out (k + 1))
  have HA2 := Lib.hid (HAT.out (k + c))
  generalize atE m S (k + 1) = e1 at *
  generalize atE m S (k + c) = e2 at *
  rw [HST.out]
  have hR3 : (k + 1) % c = R := hR.symm
  have HM := Lib.hid hm
  clear hR hm HST hS hl HAT
  go_enter Try.func108, Try.ntmps108
  go_wp2_with fail
  generalize hW1 : w.alloc (.cells #[.int .i64 r, .int .i64 c, .slice a S.length cap] 24) = w1 at *
  clear hW1
  have p1 := hBP.c1
  have HBP := Lib.hid hBP
  have HF := Lib.hid hF
  clear hBP hF
  go_quiet (fail)
  have hF2 : Fut w1 (w1.drewN nq) := Fut.drewN _ _
  have HBP2 := Lib.hid (HBP.out.fut hF2)
  have HF2 := Lib.hid (HF.out.trans hF2)
  clear hF2 HBP HF p1
  generalize w1.drewN nq = w2 at *
  obtain ⟨_, p0, p1, p2⟩ := HBP2.out
  have hsz : w.heap.size ≤ w2.heap.size := RowKit.Below.size HF2.out
  obtain ⟨b1, hb1⟩ : ∃ b1, b1 = decide (¬ R = 0 ∧ e1 = 0) := ⟨_, rfl⟩
  have HB1 : Hid (L1 = if b1 = true then [k + 1] else []) := Lib.hid (by rw [HL1.out, hb1]; simp only [decide_eq_true_eq])
  obtain ⟨b2, hb2⟩ : ∃ b2, b2 = decide (e2 = 0) := ⟨_, rfl⟩
  have HB2 : Hid (L2 = if b2 = true then [k + c] else []) := Lib.hid (by rw [HL2.out, hb2]; simp only [decide_eq_true_eq])
  have HL1L : Hid (L1.length ≤ 1) := Lib.hid (by rw [HB1.out]; cases b1 <;> simp)
  have Hb1 := Lib.hid hb1
  have Hb2 := Lib.hid hb2
  clear hb1 hb2
  go_upto_region 3 with fail
  go_cut [24] from 14 to 24 (fun s24 wx => s24 = .bool b1 ∧ Hid (Fut w wx) ∧ Hid (BoxP wx w.heap.size r c a S.length cap))
  case first =>
    by_cases hR0 : R = 0
    · subst hR0
      obtain rfl : b1 = false := by rw [Hb1.out]; simp
      go_wp2_with fail
      go_meet
      exact ⟨rfl, HF2, HBP2⟩
    · by_cases he : e1 = 0
      · subst he
        obtain rfl : b1 = true := by rw [Hb1.out]; simp [hR0]
        go_wp2_with fail
        refine (HA1.out _ HF2.out).mono ?_
        rintro _ w3 ⟨rfl, F⟩
        have HF3 := Lib.hid (HF2.out.trans F)
        have HBP3 := Lib.hid (HBP2.out.fut F)
        clear F
        go_wp2_with fail
        go_meet
        exact ⟨by simp [hR0], HF3, HBP3⟩
      · obtain rfl : b1 = false := by rw [Hb1.out]; simp [he]
        go_wp2_with fail
        refine (HA1.out _ HF2.out).mono ?_
        rintro _ w3 ⟨rfl, F⟩
        have HF3 := Lib.hid (HF2.out.trans F)
        have HBP3 := Lib.hid (HBP2.out.fut F)
        clear F
        go_wp2_with fail
        go_meet
        exact ⟨by simp [he], HF3, HBP3⟩
  case rest =>
    obtain ⟨rfl, HF3, HBP3⟩ := hcut
    obtain ⟨w3, hw3'⟩ : ∃ w3, w3 = wc := ⟨_, rfl⟩
    subst hw3'
    clear HF2 HBP2 p0 p1 p2 hsz hw1 hw2 hw3 hR2 hR3 HL1 HA1 Hb1
    go_upto_if 24 with fail
    go_cut [5] from 24 to 28 (fun s5 wx => ∃ l cp, s5 = .slice l L1.length cp ∧ Hid (Owns wx w.heap.size (.slice l L1.length cp) L1) ∧ Hid (Fut w wx) ∧ Hid (BoxP wx w.heap.size r c a S.length cap))
    case first =>
      cases b1
      · obtain rfl : L1 = [] := HB1.out
        go_wp2_with fail
        go_meet
        exact ⟨none, 0, rfl, Lib.hid (World.ownsRow_nil _ _ _ _), HF3, HBP3⟩
      · obtain rfl : L1 = [k + 1] := HB1.out
        have HR : Hid ((w3.alloc (.cells #[.int .i64 (k + 1)] 3)).ownsRow w.heap.size 3 1 (.slice none 0 0) 0 []) := Lib.hid (World.ownsRow_nil _ _ _ _)
        have HZ : Hid (w.heap.size ≤ (w3.alloc (.cells #[.int .i64 (k + 1)] 3)).heap.size) := Lib.hid (RowKit.Below.size (HF3.out.trans (Fut.alloc _ _)))
        go_wp2_with (at_builtin; refine wpList_append_lies _ rfl _ _ 22 rfl w.heap.size 3 i0 (.int .i64 0) 1 8 Try.underlying22 hi0 hz0 hz1 hz2 rfl (by decide) _ 0 [] rfl HR.out ⟨w3.heap.size, 0, none⟩ 1 1 [.int .i64 (k + 1)] rfl rfl (cell_one (by simp [go_sem])) (by simp [Value.oneCell']) (by omega) (by unfold maxLen; omega) (by omega) HZ.out _ rfl ?_)
        intro g8 c8 w8 hown8 hgrow8 _ _
        have HO8 : Hid (Owns w8 w.heap.size (.slice (some ⟨g8, 0, none⟩) 1 c8) [k + 1]) := Lib.hid hown8
        have F8 : Fut w3 w8 := (Fut.alloc w3 (.cells #[.int .i64 (k + 1)] 3)).trans (fut_grown hgrow8)
        have HF8 := Lib.hid (HF3.out.trans F8)
        have HBP8 := Lib.hid (HBP3.out.fut F8)
        clear hown8 hgrow8 F8
        go_wp2_with fail
        go_meet
        exact ⟨_, _, rfl, HO8, HF8, HBP8⟩
    case rest =>
      obtain ⟨l, cp, rfl, HO4, HF4, HBP4⟩ := hcut
      obtain ⟨w4, hw4'⟩ : ∃ w4, w4 = wc := ⟨_, rfl⟩
      subst hw4'
      clear HF3 HBP3 HB1
      obtain ⟨_, p0, p1, p2⟩ := HBP4.out
      go_wp2_with fail
      refine (HA2.out _ HF4.out).mono ?_
      rintro _ w5 ⟨rfl, F⟩
      have HF5 := Lib.hid (HF4.out.trans F)
      have HO5 := Lib.hid (HO4.out.fut F)
      clear F p0 p1 p2 HBP4 HO4 HF4
      by_cases he : e2 = 0
      · subst he
        obtain rfl : b2 = true := by rw [Hb2.out]; simp
        obtain rfl : L2 = [k + c] := HB2.out
        have hL1 := HL1L.out
        have HR : Hid ((w5.alloc (.cells #[.int .i64 (k + c)] 3)).ownsRow w.heap.size 3 1 (.slice l L1.length cp) L1.length (L1.map (Value.int .i64))) := Lib.hid (HO5.out.fut (Fut.alloc _ _))
        have HZ : Hid (w.heap.size ≤ (w5.alloc (.cells #[.int .i64 (k + c)] 3)).heap.size) := Lib.hid (RowKit.Below.size (HF5.out.trans (Fut.alloc _ _)))
        go_wp2_with (at_builtin; refine wpList_append_lies _ rfl _ _ 22 rfl w.heap.size 3 i0 (.int .i64 0) 1 8 Try.underlying22 hi0 hz0 hz1 hz2 rfl (by decide) _ L1.length (L1.map (Value.int .i64)) rfl HR.out ⟨w5.heap.size, 0, none⟩ 1 1 [.int .i64 (k + c)] rfl rfl (cell_one (by simp [go_sem])) (by simp [Value.oneCell']) (by omega) (by unfold maxLen; omega) (by omega) HZ.out _ rfl ?_)
        intro g8 c8 w8 hown8 hgrow8 _ _
        have HO8 : Hid (Owns w8 w.heap.size (.slice (some ⟨g8, 0, none⟩) (L1.length + 1) c8) (L1 ++ [k + c])) := Lib.hid (by
          unfold Owns
          rw [List.length_append, List.length_singleton, List.map_append]
          exact hown8)
        have HF8 := Lib.hid (RowKit.Below.grown (HF5.out.trans (Fut.alloc w5 (.cells #[.int .i64 (k + c)] 3))) hgrow8 HZ.out fun q hq => (World.ownsRow.lt HR.out q hq).1)
        clear hown8 hgrow8
        go_wp2_with fail
        go_ret
        exact ⟨_, rfl, HO8.out, HF8.out⟩
      · obtain rfl : b2 = false := by rw [Hb2.out]; simp [he]
        obtain rfl : L2 = [] := HB2.out
        go_wp2_with fail
        go_ret
        exact ⟨_, rfl, by rw [List.append_nil]; exact HO5.out, HF5.out⟩
end
section
theorem stL_in {r c m : Int} (hs : Side r c m) {S : List Int} {k : Int} (_hk : 0 ≤ k) : ∀ x ∈ stL c m S k, k < x ∧ x < m := fun x hx => by
  obtain ⟨_, _, hc1, _, _⟩ := hs
  have at0 : ∀ y, atE m S y = 0 → y < m := fun y hy => by
    unfold atE at hy
    by_cases h : inB m y = true
    · unfold inB at h; simp at h; omega
    · rw [if_neg h] at hy; omega
  unfold stL at hx
  rcases List.mem_append.1 hx with hx | hx
  · by_cases h : ¬ (k + 1) % c = 0 ∧ atE m S (k + 1) = 0
    · rw [if_pos h] at hx
      obtain rfl : x = k + 1 := by simpa using hx
      exact ⟨by omega, at0 _ h.2⟩
    · rw [if_neg h] at hx; cases hx
  · by_cases h : atE m S (k + c) = 0
    · rw [if_pos h] at hx
      obtain rfl : x = k + c := by simpa using hx
      exact ⟨by omega, at0 _ h⟩
    · rw [if_neg h] at hx; cases hx
theorem stL_len (c m : Int) (S : List Int) (k : Int) : (stL c m S k).length ≤ 2 := by
  unfold stL
  rw [List.length_append]
  have h1 : (if ¬ (k + 1) % c = 0 ∧ atE m S (k + 1) = 0 then [k + 1] else []).length ≤ 1 := by split <;> simp
  have h2 : (if atE m S (k + c) = 0 then [k + c] else []).length ≤ 1 := by split <;> simp
  omega
/-- how many ways lead from a corner to another one, by so many steps at the most. -/
def wn (c m : Int) (S : List Int) (tz : Int) : Nat → Int → Nat
  | 0, k => if k = tz then 1 else 0
  | f + 1, k => if k = tz then 1 else ((stL c m S k).map (wn c m S tz f)).sum
theorem sum_le {l : List Int} {g : Int → Nat} {b : Nat} (h : ∀ x, g x ≤ b) : (l.map g).sum ≤ l.length * b := by
  induction l with
  | nil => simp
  | cons x l ih =>
    rw [List.map_cons, List.sum_cons, List.length_cons, Nat.succ_mul]
    have := h x
    omega
theorem wn_le (c m : Int) (S : List Int) (tz : Int) : ∀ (f : Nat) (k : Int), wn c m S tz f k ≤ 2 ^ f
  | 0, k => by unfold wn; split <;> simp
  | f + 1, k => by
    unfold wn
    have hp : 1 ≤ 2 ^ (f + 1) := Nat.one_le_two_pow
    split
    · exact hp
    · have h1 := sum_le (l := stL c m S k) (fun x => wn_le c m S tz f x)
      have h2 := stL_len c m S k
      have h3 := Nat.mul_le_mul_right (2 ^ f) h2
      rw [Nat.pow_succ]
      omega
theorem sum_take {l : List Int} {g : Int → Nat} {i : Nat} (h : i < l.length) : ((l.take (i + 1)).map g).sum = ((l.take i).map g).sum + g (nth l i) := by
  rw [List.take_succ_eq_append_getElem h, List.map_append, List.sum_append, nth_eq, List.getElem?_eq_getElem h]
  simp
set_option maxRecDepth 100000 in
set_option maxHeartbeats 2000000 in
theorem count_any (r c m : Int) (hs : Side r c m) (a : Option Addr) (cap : Nat) (S : List Int) (tz : Int) : ∀ (f : Nat) (k : Int) (w : World), 0 ≤ k → k < m → m - k ≤ f → f ≤ 16 → IntsAt w a S → S.length ≤ 1000 →
    Calls Try.prog 107 #[.func (.func 108) #[parV r c a S.length cap] #[], .int .i64 k, .int .i64 tz] w fun e w' => e = .returned (.int .i64 (wn c m S tz f k : Nat)) ∧ Fut w w' := by
  intro f
  induction f with
  | zero => intro k w h0 h1 h2; omega
  | succ f ih =>
    intro k w h0 h1 h2 h3 hS hl
    have HST := Lib.hid (steps_any r c m hs a cap S k ⟨h0, h1⟩ w hS hl)
    have HIN := Lib.hid (stL_in hs (S := S) h0)
    have hL2 := stL_len c m S k
    have HIH : Hid (∀ x, x ∈ stL c m S k → ∀ W, Fut w W → Calls Try.prog 107 #[.func (.func 108) #[parV r c a S.length cap] #[], .int .i64 x, .int .i64 tz] W fun e w' => e = .returned (.int .i64 (wn c m S tz f x : Nat)) ∧ Fut W w') := Lib.hid (fun x hx W F => ih x W (by have := HIN.out x hx; omega) (HIN.out x hx).2 (by have := (HIN.out x hx).1; omega) (by omega) (hS.fut F) hl)
    have HSL : Hid (∀ i, ((((stL c m S k).take i).map (wn c m S tz f)).sum) ≤ 131072) := Lib.hid (fun i => by
      have a1 := sum_le (l := (stL c m S k).take i) (fun x => wn_le c m S tz f x)
      have a2 : ((stL c m S k).take i).length ≤ 2 := by rw [List.length_take]; omega
      have a3 : 2 ^ f ≤ 2 ^ 16 := Nat.pow_le_pow_right (by decide) (by omega)
      have a4 := Nat.mul_le_mul a2 a3
      have a5 : 2 * 2 ^ 16 = 131072 := by decide
      omega)
    have HWL : Hid (∀ x, wn c m S tz f x ≤ 65536) := Lib.hid (fun x => Nat.le_trans (wn_le c m S tz f x) (by
      have a3 : 2 ^ f ≤ 2 ^ 16 := Nat.pow_le_pow_right (by decide) (by omega)
      exact a3))
    have HSS := Lib.hid (fun i (hi : i < (stL c m S k).length) => sum_take (g := wn c m S tz f) hi)
    have HNM := Lib.hid (fun i (hi : i < (stL c m S k).length) => show nth (stL c m S k) i ∈ stL c m S k from nth_mem hi)
    unfold wn
    by_cases hk : k = tz
    · rw [if_pos hk]
      subst hk
      clear HST HIN HIH HSL HWL HSS HNM hs hS ih
      go_enter Try.func107, Try.ntmps107
      go_wp2_with fail
      go_ret
      exact ⟨rfl, Fut.rfl⟩
    · rw [if_neg hk]
      have hS0 : (((stL c m S k).take 0).map (wn c m S tz f)).sum = 0 := by simp
      have HSE : Hid (((stL c m S k).map (wn c m S tz f)).sum = (((stL c m S k).take (stL c m S k).length).map (wn c m S tz f)).sum) := Lib.hid (by rw [List.take_length])
      rw [HSE.out]
      generalize wn c m S tz f = g at *
      generalize stL c m S k = L at *
      have HS0 := Lib.hid hS0
      have hLx : (L.length : Int) ≤ 2 := by omega
      clear hS0 HSE hs hS ih HIN
      go_enter Try.func107, Try.ntmps107
      go_wp2_with fail
      refine HST.out.mono ?_
      rintro _ w1 ⟨v, rfl, hO, F⟩
      obtain ⟨l, lc, rfl, hI⟩ := hO.ints
      have HI := Lib.hid hI
      have HF1 := Lib.hid F
      clear hO F hI HST
      go_wp2_with fail
      go_loopw [7, 17] (fun mv iv wr => ∃ i : Nat, i ≤ L.length ∧ mv = .int .i64 (((L.take i).map g).sum : Nat) ∧ iv = .int .i64 i ∧ Hid (Fut w1 wr)) (fun _ iv _ => L.length - (intOf iv).toNat)
      case atStart => exact ⟨0, Nat.zero_le _, by rw [HS0.out]; rfl, rfl, Lib.hid Fut.rfl⟩
      case round =>
        obtain ⟨i, hi, rfl, rfl, HFi⟩ := hrel
        obtain ⟨wo, hwo⟩ : ∃ wo, wo = wr := ⟨_, rfl⟩
        subst hwo
        by_cases hil : i < L.length
        · have hix : (i : Int) < L.length := by omega
          obtain ⟨b, o, rfl, _, c1⟩ := (HI.out.fut HFi.out) i hil
          have HC := Lib.hid (HIH.out _ (HNM.out i hil) wo (HF1.out.trans HFi.out))
          have hs1 := HSL.out i
          have hw1 := HWL.out (nth L i)
          have HS1 := Lib.hid (HSS.out i hil)
          generalize nth L i = x at *
          generalize ((L.take i).map g).sum = sm at *
          generalize g x = gx at *
          have hs1x : (sm : Int) ≤ 131072 := by omega
          have hw1x : (gx : Int) ≤ 65536 := by omega
          go_wp2_with fail
          refine HC.out.mono ?_
          rintro _ w2 ⟨rfl, F⟩
          have HF2 := Lib.hid (HFi.out.trans F)
          clear F c1
          go_wp2_with fail
          go_round
          case rel => exact ⟨i + 1, by omega, by rw [HS1.out]; go_num, by go_num, HF2⟩
          case measure => simp [intOf]; omega
        · obtain rfl : L.length = i := by omega
          go_wp2_with fail
          go_ret
          exact ⟨rfl, HF1.out.trans HFi.out⟩
/-- how many ways lead from a corner to another one. -/
def wayN (c m : Int) (S : List Int) (k tz : Int) : Nat := if atE m S k = 0 then wn c m S tz 16 k else 0
set_option maxRecDepth 100000 in
set_option maxHeartbeats 2000000 in
theorem pways_any (r c m : Int) (hs : Side r c m) (a : Option Addr) (cap : Nat) (S : List Int) (k tz : Int) (w : World) (hS : IntsAt w a S) (hl : S.length ≤ 1000) :
    Calls Try.prog 70 #[parV r c a S.length cap, .int .i64 k, .int .i64 tz] w fun e w' => e = .returned (.int .i64 (wayN c m S k tz : Nat)) ∧ Fut w w' := by
  have HAT := Lib.hid (fun W (F : Fut w W) => at_any r c m hs a cap S k W (hS.fut F) hl)
  have hF : Fut w (w.alloc (.cells #[.int .i64 r, .int .i64 c, .slice a S.length cap] 24)) := Fut.alloc _ _
  have hBP := BoxP.new w r c a S.length cap
  have HF := Lib.hid hF
  have HBP := Lib.hid hBP
  have HK : Hid (atE m S k = 0 → 0 ≤ k ∧ k < m) := Lib.hid (fun hy => by
    unfold atE at hy
    by_cases h : inB m k = true
    · unfold inB at h; simp at h; omega
    · rw [if_neg h] at hy; omega)
  have HCW := Lib.hid (fun (h0 : 0 ≤ k) (h1 : k < m) W (F : Fut w W) => count_any r c m hs a cap S tz 16 k W h0 h1 (by have := hs.m; omega) (Nat.le_refl _) (hS.fut F) hl)
  clear hF hBP hS hl hs
  obtain ⟨_, p0, p1, p2⟩ := HBP.out
  unfold wayN
  generalize hae : atE m S k = ae at *
  by_cases h0 : ae = 0
  · subst h0
    rw [if_pos rfl]
    obtain ⟨hk0, hk1⟩ := HK.out rfl
    replace HCW := Lib.hid (fun W F => HCW.out hk0 hk1 W F)
    generalize wn c m S tz 16 k = g at *
    clear hae hk0 hk1 HK
    go_enter Try.func70, Try.ntmps70
    go_wp2_with fail
    refine (HAT.out _ HF.out).mono ?_
    rintro _ w2 ⟨rfl, F⟩
    have HF2 := Lib.hid (HF.out.trans F)
    have HBP2 := Lib.hid (HBP.out.fut F)
    clear p0 p1 p2 F HBP HF
    obtain ⟨_, p0, p1, p2⟩ := HBP2.out
    go_wp2_with fail
    refine (HCW.out _ HF2.out).mono ?_
    rintro _ w3 ⟨rfl, F⟩
    have HF3 := Lib.hid (HF2.out.trans F)
    clear F
    go_wp2_with fail
    go_ret
    exact ⟨rfl, HF3.out⟩
  · rw [if_neg h0]
    clear hae HCW HK
    go_enter Try.func70, Try.ntmps70
    go_wp2_with fail
    refine (HAT.out _ HF.out).mono ?_
    rintro _ w2 ⟨rfl, F⟩
    have HF2 := Lib.hid (HF.out.trans F)
    clear p0 p1 p2 F HBP HF
    go_wp2_with fail
    go_ret
    exact ⟨rfl, HF2.out⟩
end
section
theorem chk_side {r c : Int} {S Y T : List Int} (h : chkP r c S Y T = 0) : Side r c (r * c) ∧ ascE (r * c) S = 0 ∧ T.length = Y.length ∧ 1 ≤ Y.length ∧ Y.length ≤ 3 ∧ difE (r * c) S Y = 0 ∧ difE (r * c) S T = 0 := by
  unfold chkP at h
  by_cases h1 : decide (1 ≤ r ∧ r ≤ 4) = true
  · rw [if_pos h1] at h
    by_cases h2 : decide (1 ≤ c ∧ c ≤ 4) = true
    · rw [if_pos h2] at h
      have h1 := of_decide_eq_true h1
      have h2 := of_decide_eq_true h2
      refine ⟨⟨h1.1, h1.2, h2.1, h2.2, rfl⟩, ?_⟩
      by_cases h3 : ascE (r * c) S = 0
      · rw [if_pos h3] at h
        by_cases h4 : T.length = Y.length
        · rw [if_pos h4] at h
          by_cases h5 : Y.length = 0
          · rw [if_pos h5] at h; omega
          · rw [if_neg h5] at h
            by_cases h6 : 3 < Y.length
            · rw [if_pos h6] at h; omega
            · rw [if_neg h6] at h
              by_cases h7 : difE (r * c) S Y = 0
              · rw [if_pos h7] at h
                exact ⟨h3, h4, by omega, by omega, h7, h⟩
              · rw [if_neg h7] at h; exact absurd h h7
        · rw [if_neg h4] at h; omega
      · rw [if_neg h3] at h; exact absurd h h3
    · rw [if_neg h2] at h; omega
  · rw [if_neg h1] at h; omega
/-- what Ways answers. -/
def wayE (r c : Int) (S Y T : List Int) (x y : Int) : Int := if chkP r c S Y T = 0 then (if inB (r * c) x = true then (if inB (r * c) y = true then 0 else 2) else 2) else chkP r c S Y T
def wayZ (r c : Int) (S Y T : List Int) (x y : Int) : Nat := if wayE r c S Y T x y = 0 then wayN c (r * c) S x y else 0
set_option maxRecDepth 100000 in
set_option maxHeartbeats 2000000 in
theorem ways_any (r c : Int) (a : Option Addr) (cap : Nat) (S : List Int) (ya : Option Addr) (yc : Nat) (Y : List Int) (ta : Option Addr) (tc : Nat) (T : List Int) (x y : Int) (w : World) (h : InPQ w a S ya yc Y ta tc T) :
    Calls Try.prog 16 #[parV r c a S.length cap, plaV ya Y.length yc ta T.length tc, .int .i64 x, .int .i64 y] w fun e w' => e = .returned (.tuple #[.int .i64 (wayZ r c S Y T x y : Nat), .int .i64 (wayE r c S Y T x y)]) ∧ Fut w w' := by
  have hA : Fut w ((w.alloc (.cells #[.int .i64 r, .int .i64 c, .slice a S.length cap] 24)).alloc (.cells #[.slice ya Y.length yc, .slice ta T.length tc] 26)) := (Fut.alloc _ _).trans (Fut.alloc _ _)
  have hBP := (BoxP.new w r c a S.length cap).fut (Fut.alloc _ (.cells #[.slice ya Y.length yc, .slice ta T.length tc] 26))
  have hBQ := BoxQ.new (w.alloc (.cells #[.int .i64 r, .int .i64 c, .slice a S.length cap] 24)) ya Y.length yc ta T.length tc
  rw [World.size_alloc] at hBQ
  have HCK := Lib.hid (fun W (F : Fut w W) => chk_any r c a cap S ya yc Y ta tc T W (h.fut F))
  have HA := Lib.hid hA
  have HBP := Lib.hid hBP
  have HBQ := Lib.hid hBQ
  obtain ⟨_, p0, p1, p2⟩ := hBP
  obtain ⟨_, q0, q1⟩ := hBQ
  unfold wayZ
  unfold wayE
  by_cases hc : chkP r c S Y T = 0
  · have hs := (chk_side hc).1
    rw [if_pos hc]
    rw [hc] at HCK
    have HCO := Lib.hid (fun W => corners_any r c _ hs a S.length cap W)
    have HPW := Lib.hid (fun W (F : Fut w W) => pways_any r c _ hs a cap S x y W (h.s.fut F) h.sl)
    generalize r * c = m at *
    have HIX := Lib.hid (fun W => isIndex_any x m W)
    have HIY := Lib.hid (fun W => isIndex_any y m W)
    generalize wayN c m S x y = g at *
    clear hc hs h hA
    generalize inB m x = bx at *
    generalize inB m y = by_ at *
    cases bx
    · show Calls Try.prog 16 _ w fun e w' => e = .returned (.tuple #[.int .i64 0, .int .i64 2]) ∧ Fut w w'
      go_enter Try.func16, Try.ntmps16
      go_wp2_with fail
      refine (HCK.out _ HA.out).mono ?_
      rintro _ w2 ⟨rfl, F⟩
      have HF2 := Lib.hid (HA.out.trans F)
      have HBP2 := Lib.hid (HBP.out.fut F)
      clear p0 p1 p2 q0 q1 F
      obtain ⟨_, p0, p1, p2⟩ := HBP2.out
      go_wp2_with fail
      refine (HCO.out _).mono ?_
      rintro _ w3 ⟨rfl, F⟩
      have HF3 := Lib.hid (HF2.out.trans F)
      clear p0 p1 p2 F
      go_wp2_with fail
      refine (HIX.out _).mono ?_
      rintro _ _ ⟨rfl, rfl⟩
      go_wp2_with fail
      go_ret2
      exact ⟨rfl, HF3.out⟩
    · cases by_
      · show Calls Try.prog 16 _ w fun e w' => e = .returned (.tuple #[.int .i64 0, .int .i64 2]) ∧ Fut w w'
        go_enter Try.func16, Try.ntmps16
        go_wp2_with fail
        refine (HCK.out _ HA.out).mono ?_
        rintro _ w2 ⟨rfl, F⟩
        have HF2 := Lib.hid (HA.out.trans F)
        have HBP2 := Lib.hid (HBP.out.fut F)
        clear p0 p1 p2 q0 q1 F
        obtain ⟨_, p0, p1, p2⟩ := HBP2.out
        go_wp2_with fail
        refine (HCO.out _).mono ?_
        rintro _ w3 ⟨rfl, F⟩
        have HF3 := Lib.hid (HF2.out.trans F)
        have HBP3 := Lib.hid (HBP2.out.fut F)
        clear p0 p1 p2 F
        obtain ⟨_, p0, p1, p2⟩ := HBP3.out
        go_wp2_with fail
        refine (HIX.out _).mono ?_
        rintro _ _ ⟨rfl, rfl⟩
        go_wp2_with fail
        refine (HCO.out _).mono ?_
        rintro _ w4 ⟨rfl, F⟩
        have HF4 := Lib.hid (HF3.out.trans F)
        clear p0 p1 p2 F
        go_wp2_with fail
        refine (HIY.out _).mono ?_
        rintro _ _ ⟨rfl, rfl⟩
        go_wp2_with fail
        go_ret2
        exact ⟨rfl, HF4.out⟩
      · show Calls Try.prog 16 _ w fun e w' => e = .returned (.tuple #[.int .i64 g, .int .i64 0]) ∧ Fut w w'
        go_enter Try.func16, Try.ntmps16
        go_wp2_with fail
        refine (HCK.out _ HA.out).mono ?_
        rintro _ w2 ⟨rfl, F⟩
        have HF2 := Lib.hid (HA.out.trans F)
        have HBP2 := Lib.hid (HBP.out.fut F)
        clear p0 p1 p2 q0 q1 F
        obtain ⟨_, p0, p1, p2⟩ := HBP2.out
        go_wp2_with fail
        refine (HCO.out _).mono ?_
        rintro _ w3 ⟨rfl, F⟩
        have HF3 := Lib.hid (HF2.out.trans F)
        have HBP3 := Lib.hid (HBP2.out.fut F)
        clear p0 p1 p2 F
        obtain ⟨_, p0, p1, p2⟩ := HBP3.out
        go_wp2_with fail
        refine (HIX.out _).mono ?_
        rintro _ _ ⟨rfl, rfl⟩
        go_wp2_with fail
        refine (HCO.out _).mono ?_
        rintro _ w4 ⟨rfl, F⟩
        have HF4 := Lib.hid (HF3.out.trans F)
        have HBP4 := Lib.hid (HBP3.out.fut F)
        clear p0 p1 p2 F
        obtain ⟨_, p0, p1, p2⟩ := HBP4.out
        go_wp2_with fail
        refine (HIY.out _).mono ?_
        rintro _ _ ⟨rfl, rfl⟩
        go_wp2_with fail
        refine (HPW.out _ HF4.out).mono ?_
        rintro _ w5 ⟨rfl, F⟩
        have HF5 := Lib.hid (HF4.out.trans F)
        clear F
        go_wp2_with fail
        go_ret2
        exact ⟨rfl, HF5.out⟩
  · rw [if_neg hc, if_neg hc]
    generalize chkP r c S Y T = ce at *
    clear hA h
    go_enter Try.func16, Try.ntmps16
    go_wp2_with fail
    refine (HCK.out _ HA.out).mono ?_
    rintro _ w2 ⟨rfl, F⟩
    have HF2 := Lib.hid (HA.out.trans F)
    clear p0 p1 p2 q0 q1 F
    go_wp2_with fail
    go_ret2
    exact ⟨rfl, HF2.out⟩
end
section
/-- rows of lists of one's own, the first k of them done. -/
structure FreeSt (w : World) (g n : Nat) (vs : Nat → Value) (k : Nat) (L : Nat → List Int) : Prop where
  outer : w.rowIs g 22 n vs
  done : ∀ i, i < k → Owns w (g + 1) (vs i) (L i)
  rest : ∀ i, k ≤ i → i < n → vs i = .slice none 0 0
theorem FreeSt.lists {w : World} {g n : Nat} {vs : Nat → Value} {L : Nat → List Int} (h : FreeSt w g n vs n L) : LstC w (some ⟨g, 0, none⟩) ((List.range n).map L) := fun i hi => by
  have hin : i < n := by simpa using hi
  have e : lth ((List.range n).map L) i = L i := by rw [lth_eq, List.getElem?_map, List.getElem?_range hin]; rfl
  rw [e]
  obtain ⟨a, cap, ev, h1, h2, hI⟩ := (h.done i hin).form
  exact ⟨g, 0, a, cap, rfl, h.outer.lt, by rw [Nat.zero_add, h.outer.cell hin, ev], h1, by unfold maxLen at h2; omega, hI⟩
/-- a cart's row of the table: so many tips. -/
def rowT (c m : Int) (S Y T : List Int) (k s : Nat) : List Int := (T.take s).map fun t => ((wayN c m S (nth Y k) t : Nat) : Int)
theorem rowT_succ (c m : Int) (S Y T : List Int) (k s : Nat) (h : s < T.length) : rowT c m S Y T k (s + 1) = rowT c m S Y T k s ++ [((wayN c m S (nth Y k) (nth T s) : Nat) : Int)] := by
  unfold rowT
  rw [List.take_succ_eq_append_getElem h, List.map_append, nth_eq T, List.getElem?_eq_getElem h]
  rfl
theorem rowT_len (c m : Int) (S Y T : List Int) (k s : Nat) : (rowT c m S Y T k s).length ≤ s := by unfold rowT; simp; omega
/-- the table. -/
def tabL (r c : Int) (S Y T : List Int) : List (List Int) := if chkP r c S Y T = 0 then (List.range Y.length).map fun k => rowT c (r * c) S Y T k T.length else []
set_option maxRecDepth 100000 in
set_option maxHeartbeats 8000000 in
theorem table_any (r c : Int) (a : Option Addr) (cap : Nat) (S : List Int) (ya : Option Addr) (yc : Nat) (Y : List Int) (ta : Option Addr) (tc : Nat) (T : List Int) (w : World) (h : InPQ w a S ya yc Y ta tc T) :
    Calls Try.prog 18 #[parV r c a S.length cap, plaV ya Y.length yc ta T.length tc] w (TupLC (chkP r c S Y T) (tabL r c S Y T) w) := by
  have hA : Fut w ((w.alloc (.cells #[.int .i64 r, .int .i64 c, .slice a S.length cap] 24)).alloc (.cells #[.slice ya Y.length yc, .slice ta T.length tc] 26)) := (Fut.alloc _ _).trans (Fut.alloc _ _)
  have hBP := (BoxP.new w r c a S.length cap).fut (Fut.alloc _ (.cells #[.slice ya Y.length yc, .slice ta T.length tc] 26))
  have hBQ := BoxQ.new (w.alloc (.cells #[.int .i64 r, .int .i64 c, .slice a S.length cap] 24)) ya Y.length yc ta T.length tc
  rw [World.size_alloc] at hBQ
  have HCK := Lib.hid (fun W (F : Fut w W) => chk_any r c a cap S ya yc Y ta tc T W (h.fut F))
  have HA := Lib.hid hA
  have HBP := Lib.hid hBP
  have HBQ := Lib.hid hBQ
  have HIN := Lib.hid h
  obtain ⟨_, p0, p1, p2⟩ := hBP
  obtain ⟨_, q0, q1⟩ := hBQ
  unfold tabL
  by_cases hc : chkP r c S Y T = 0
  · obtain ⟨hs, _, htl, hy1, hy3, _⟩ := chk_side hc
    rw [if_pos hc]
    rw [hc] at HCK ⊢
    have HPW := Lib.hid (fun x y W (F : Fut w W) => pways_any r c _ hs a cap S x y W (h.s.fut F) h.sl)
    generalize r * c = m at *
    have hmk2 := fun W => mk_rows Y.length (by omega) W
    have HSU := Lib.hid (fun k s (hs : s < T.length) => rowT_succ c m S Y T k s hs)
    have HLE := Lib.hid (rowT_len c m S Y T)
    have HF0 : Hid (∀ k, rowT c m S Y T k 0 = []) := Lib.hid (fun k => by unfold rowT; simp)
    have HY := Lib.hid h.y
    have HT := Lib.hid h.t
    generalize hE : (List.range Y.length).map (fun k => rowT c m S Y T k T.length) = R at *
    have hRL : R.length = Y.length := by rw [← hE]; simp
    have HE := Lib.hid hE
    have HRL := Lib.hid hRL
    have hyx : (Y.length : Int) ≤ 3 := by omega
    have htx : (T.length : Int) ≤ 3 := by omega
    clear htl
    have HWN := Lib.hid (fun x y => (rfl : wayN c m S x y = wayN c m S x y))
    clear hE hRL hc hs h hA HWN
    generalize rowT c m S Y T = fr at *
    generalize wayN c m S = wy at *
    go_enter Try.func18, Try.ntmps18
    go_wp2_with fail
    refine (HCK.out _ HA.out).mono ?_
    rintro _ w2 ⟨rfl, F⟩
    have HF2 := Lib.hid (HA.out.trans F)
    have HBP2 := Lib.hid (HBP.out.fut F)
    have HBQ2 := Lib.hid (HBQ.out.fut F)
    clear p0 p1 p2 q0 q1 F HCK HA HBP HBQ
    obtain ⟨_, q0, q1⟩ := HBQ2.out
    go_wp2_with fail
    have hG0 : FreeSt (w2.alloc (.cells (madeCells #[Value.slice none 0 0] Y.length) 22)) w2.heap.size Y.length (fun _ => .slice none 0 0) 0 (fun d => fr d T.length) :=
      ⟨World.rowIs_made w2 (.slice none 0 0) Y.length 22, fun i hi => absurd hi (Nat.not_lt_zero i), fun _ _ _ => rfl⟩
    have F1 : RowKit.Below w2.heap.size w2 (w2.alloc (.cells (madeCells #[Value.slice none 0 0] Y.length) 22)) := Fut.alloc _ _
    generalize w2.alloc (.cells (madeCells #[Value.slice none 0 0] Y.length) 22) = W1 at *
    have hgp : w.heap.size + 1 < w2.heap.size := HBQ2.out.lt
    have HQX : Hid (∀ wx, RowKit.Below w2.heap.size w2 wx → BoxP wx w.heap.size r c a S.length cap ∧ BoxQ wx (w.heap.size + 1) ya Y.length yc ta T.length tc ∧ Fut w wx) := Lib.hid (fun wx F => ⟨HBP2.out.fut F, HBQ2.out.fut F, HF2.out.trans F⟩)
    generalize hB : w2.heap.size = g at *
    have HB0 := Lib.hid F1
    have HG0 := Lib.hid hG0
    clear hG0 F1 hmk2 q0 q1
    obtain ⟨i0, hi0, hz0, hz1, hz2⟩ := info_parts info3
    go_loopw [25] (fun iv wr => ∃ (k : Nat) (vs : Nat → Value), k ≤ Y.length ∧ iv = .int .i64 k ∧ Hid (FreeSt wr g Y.length vs k (fun d => fr d T.length)) ∧ Hid (RowKit.Below g w2 wr)) (fun iv _ => Y.length - (intOf iv).toNat)
    case atStart => exact ⟨0, _, Nat.zero_le _, rfl, HG0, HB0⟩
    case round =>
      obtain ⟨k, vs, hk, rfl, HG, HF⟩ := hrel
      by_cases hlt : k < Y.length
      · have hkx : (k : Int) < Y.length := by omega
        have hgw : g < wr.heap.size := HG.out.outer.lt
        have h0 : Owns wr wr.heap.size (vs k) (fr k 0) := by
          rw [HF0.out, HG.out.rest k (Nat.le_refl _) hlt]
          exact World.ownsRow_nil _ _ _ _
        have HI0 : Hid (wr.grownBy wr (some g)) := Lib.hid ⟨rfl, rfl, rfl, Nat.le_refl _, fun _ _ _ => rfl⟩
        have HO0 := Lib.hid h0
        have HR0 := Lib.hid HG.out.outer
        have HSUk := Lib.hid (fun s hs => HSU.out k s hs)
        obtain ⟨_, q0, q1⟩ := (HQX.out wr HF.out).2.1
        obtain ⟨yb, yo, rfl, _, y1⟩ := (HY.out.fut (HQX.out wr HF.out).2.2) k hlt
        clear h0
        go_wp2_with fail
        have HGD := Lib.hid HG.out.done
        have HRS := Lib.hid HG.out.rest
        clear HG q0 q1 y1
        obtain ⟨wo, hwo⟩ : ∃ wo, wo = wr := ⟨_, rfl⟩
        subst hwo
        generalize nth Y k = yk at *
        go_loopw [33] (fun iv wr => ∃ (s : Nat) (us : Nat → Value), s ≤ T.length ∧ iv = .int .i64 s ∧ Hid (wr.rowIs g 22 Y.length us) ∧ Hid (∀ i, i ≠ k → us i = vs i) ∧ Hid (Owns wr wo.heap.size (us k) (fr k s)) ∧ Hid (wo.grownBy wr (some g)) ∧ Hid (RowKit.Below g w2 wr)) (fun iv _ => T.length - (intOf iv).toNat)
        case atStart => exact ⟨0, vs, Nat.zero_le _, rfl, HR0, Lib.hid (fun i _ => rfl), HO0, HI0, HF⟩
        case round =>
          obtain ⟨s, us, hsn, rfl, HR, HU, HO, HI, HBW⟩ := hrel
          by_cases hsl : s < T.length
          · have hsx : (s : Int) < T.length := by omega
            have HSS := Lib.hid (HSUk.out s hsl)
            have hlen := HLE.out k s
            have hQ := HQX.out wr HBW.out
            obtain ⟨tb, to_, rfl, _, t1⟩ := (HT.out.fut hQ.2.2) s hsl
            have HPX := Lib.hid (HPW.out yk (nth T s) wr.drew (hQ.2.2.trans (Fut.drewN wr 1)))
            obtain ⟨_, p0, p1, p2⟩ := hQ.1
            have HFW := Lib.hid hQ.2.2
            clear hQ
            generalize nth T s = tz at *
            generalize wy yk tz = wv at *
            generalize hfs : fr k s = rs at *
            have HFS := Lib.hid hfs
            clear hfs
            obtain ⟨av, ac, hav, hl1, hl2, _⟩ := HO.out.form
            have e1 := HR.out.cell hlt
            rw [hav] at e1
            have HOV : Hid (Owns wr wo.heap.size (.slice av rs.length ac) rs) := Lib.hid (by rw [← hav]; exact HO.out)
            have hgw3 := HR.out.lt
            have hzw := HI.out.size
            have HROW := Lib.hid (show wr.ownsRow wo.heap.size 3 1 (.slice av rs.length ac) rs.length (rs.map (Value.int .i64)) from HOV.out)
            go_upto_region 11 with fail
            clear t1
            go_region_law
              (first
                | (go_simp; go_at_call 70; refine HPX.out.mono ?_; rintro _ w5 ⟨rfl, F5⟩; have FA5 : Fut wr w5 := Fut.trans (Fut.drewN wr 1) F5; have y1 : w5.cell? ⟨g, k, none⟩ = some (.slice av rs.length ac) := (RowKit.Below.cell FA5 (p := ⟨g, k, none⟩) hgw3).trans e1; have y2 : (w5.alloc (.cells #[.int .i64 (wv : Int)] 3)).cell? ⟨g, k, none⟩ = some (.slice av rs.length ac) := alloc_old _ _ y1)
                | (refine step_append_src (by rfl) _ _ _ (by rfl) wo.heap.size 3 i0 (.int .i64 0) 8 Try.underlying22 hi0 hz0 hz1 hz2 rfl (.slice av rs.length ac) rs.length (rs.map (Value.int .i64)) (by rfl) (row_fut HROW.out (FA5.trans (Fut.alloc w5 (.cells #[.int .i64 (wv : Int)] 3)))) (.slice (some ⟨w5.heap.size, 0, none⟩) 1 1) 1 [.int .i64 (wv : Int)] (by rfl) (.inr ⟨⟨w5.heap.size, 0, none⟩, 1, rfl, rfl, cell_one (by simp [go_sem]), by simp [Value.oneCell']⟩) (by unfold maxLen; omega) (by omega) (by have h7 := RowKit.Below.size FA5; simp only [World.size_alloc]; omega) ?_; intro av9 ac9 w9 hown9 hgrow9; obtain ⟨g9, rfl⟩ := own_some hown9; have hR9 : w9.rowIs g 22 Y.length us := ((HR.out.of_block (RowKit.Below.block FA5 _ hgw3)).alloc (.cells #[.int .i64 (wv : Int)] 3)).of_block (hgrow9.block g (by have h7 := RowKit.Below.size FA5; simp only [World.size_alloc]; omega) (fun e => by have := (World.ownsRow.lt HROW.out g e.symm).1; omega)); have e2 := hR9.cell hlt; have e3 := hR9.frozen k))
            all_goals
              have F := FA5
              have hI3 : wo.grownBy w5 (some g) := HI.out.trans ⟨F.os, F.tape, F.output, F.size, fun k hk _ => F.block k hk⟩
              have hB3 : RowKit.Below g w2 w5 := HBW.out.trans (RowKit.Below.mono F (by have := RowKit.Below.size HBW.out; omega))
              have hOA : Owns (w5.alloc (.cells #[.int .i64 (wv : Int)] 3)) wo.heap.size (.slice av rs.length ac) rs := HOV.out.fut (F.trans (Fut.alloc _ _))
              have HO7 : Hid (Owns w9 wo.heap.size (.slice (some ⟨g9, 0, none⟩) (rs.length + 1) ac9) (fr k (s + 1))) := Lib.hid (by rw [HSS.out]; unfold Owns; simpa using hown9)
              have hIA : wo.grownBy (w5.alloc (.cells #[.int .i64 (wv : Int)] 3)) (some g) := hI3.trans (World.grownBy_alloc _ _ _)
              have HI7 : Hid (wo.grownBy w9 (some g)) := Lib.hid (grown_far hIA hgrow9 hOA)
              have HB7 : Hid (RowKit.Below g w2 w9) := Lib.hid (RowKit.Below.grown (hB3.alloc (by have := RowKit.Below.size hB3; have := RowKit.Below.size F; omega) _) hgrow9 (by have := RowKit.Below.size F; simp only [World.size_alloc]; omega) (fun q hq => by
                have := (World.ownsRow.lt hOA q hq).1
                omega))
              have HR8 := Lib.hid (hR9.set k (.slice (some ⟨g9, 0, none⟩) (rs.length + 1) ac9))
              have HO8 : Hid (Owns (w9.setCell ⟨g, k, none⟩ (.slice (some ⟨g9, 0, none⟩) (rs.length + 1) ac9)) wo.heap.size (.slice (some ⟨g9, 0, none⟩) (rs.length + 1) ac9) (fr k (s + 1))) := Lib.hid (HO7.out.grown (bm := g) (grown_set ⟨rfl, rfl, rfl, Nat.le_refl _, fun _ _ _ => rfl⟩) hgw)
              have HI8 : Hid (wo.grownBy (w9.setCell ⟨g, k, none⟩ (.slice (some ⟨g9, 0, none⟩) (rs.length + 1) ac9)) (some g)) := Lib.hid (grown_set HI7.out)
              have HB8 : Hid (RowKit.Below g w2 (w9.setCell ⟨g, k, none⟩ (.slice (some ⟨g9, 0, none⟩) (rs.length + 1) ac9))) := Lib.hid (HB7.out.setCell (p := ⟨g, k, none⟩) (Nat.le_refl _) _)
              clear hown9 hgrow9 hOA hIA e1 e2 e3 y1 y2 hR9 F FA5 F5 hI3 hB3 p0 p1 p2
              generalize w9.setCell ⟨g, k, none⟩ (.slice (some ⟨g9, 0, none⟩) (rs.length + 1) ac9) = w10 at *
              go_wp2
              go_roundw
            all_goals first
              | exact ⟨s + 1, _, by omega, by go_num, HR8, Lib.hid (fun i hi => by show (if i = k then _ else us i) = vs i; rw [if_neg hi]; exact HU.out i hi), Lib.hid (by show Owns _ _ (if k = k then _ else us k) _; rw [if_pos rfl]; exact HO8.out), HI8, HB8⟩
              | (simp [intOf]; omega)
          · obtain rfl : T.length = s := by omega
            have HG2 : Hid (FreeSt wr g Y.length us (k + 1) (fun d => fr d T.length)) := Lib.hid ⟨HR.out, fun i hi => by
              by_cases e : i = k
              · subst e; exact HO.out.base (by omega)
              · rw [HU.out i e]; exact (HGD.out i (by omega)).grown HI.out (Nat.lt_succ_self g), fun i hi hin => by
              rw [HU.out i (by omega)]; exact HRS.out i (by omega) hin⟩
            go_wp2
            go_round
            case rel => exact ⟨k + 1, us, by omega, by go_num, HG2, HBW⟩
            case measure => simp [intOf]; omega
      · obtain rfl : Y.length = k := by omega
        have HLL := Lib.hid HG.out.lists
        go_wp2
        go_ret2
        have hq := (HQX.out wr HF.out).2.2
        refine ⟨some ⟨g, 0, none⟩, Y.length, ?_, by have := HRL.out; omega, by omega, ?_, hq⟩
        · rw [HRL.out]; rfl
        · rw [← HE.out]; exact HLL.out
  · rw [if_neg hc]
    generalize chkP r c S Y T = ce at *
    clear hA h HIN
    go_enter Try.func18, Try.ntmps18
    go_wp2_with fail
    refine (HCK.out _ HA.out).mono ?_
    rintro _ w2 ⟨rfl, F⟩
    have HF2 := Lib.hid (HA.out.trans F)
    clear p0 p1 p2 q0 q1 F
    go_wp2_with fail
    go_ret2
    exact TupLC.nil ce HF2.out
end
section
theorem run_append_zeros (ty : TypeId) (n : Nat) (h0 : 0 < n) (hn : n ≤ 100000) (w : World) :
    (Builtin.append_ #[22, 3] ty #[.slice none 0 0, .int .i64 (n : Int)]).run Try.prog w = .ok (.slice (some ⟨w.heap.size, 0, none⟩) n (grownCap w n 0 3)) (w.drew.alloc (.cells (Builtin.zeroCells #[.int .i64 0] n ++ Builtin.zeroCells #[.int .i64 0] (grownCap w n 0 3 - n)) 3)) := by
  obtain ⟨i0, hi, hz, hs, hb⟩ := info_parts info3
  have hn0 : n ≠ 0 := by omega
  have hw2 : IntKind.i64.wrap (n : Int) = n := IntWalk.i64_in _ ⟨by omega, by omega⟩
  have h1 : ¬ ((n : Int) < 0) := by omega
  have h2 : ¬ (281474976710656 < (n : Int) * 8) := by omega
  have h63' : ¬ (9223372036854775807 < (n : Int)) := by omega
  have h48' : ¬ (281474976710656 < Builtin.nextslicecap n 0 * 8) := by rw [nextslicecap_zero h0]; omega
  simp [Builtin.append_, run_underlying Try.underlying22, run_underlying Try.underlying3, sizeOf, typeInfo, zeroValue, hi, hz, hs, hb, asInt, asIntOf, hw2, h1, h2, hn0, h63', h48', Question.forced, run_firstCells_none, newRow, grownCap, Value.cells]

theorem wpList_append_zeros {w : World} {ops : Array Oper} {rest : List Oper} {o : Oper} {a : Act} {Q : Exit → Act → World → Prop} (hgd : o.guard = none) (s x : Operand)
    (ho : o.op = .call { callee := .builtin .append, args := #[s, x], argTypes := #[22, 3] }) (n : Nat) (h0 : 0 < n) (hn : n ≤ 100000) (hs : a.eval s = .slice none 0 0) (hx : a.eval x = .int .i64 (n : Int))
    (h : ∀ g c w', w'.ownsRow w.heap.size 3 1 (.slice (some ⟨g, 0, none⟩) 0 c) 0 [] → n ≤ c → Fut w w' → wpList Try.prog ops Q rest (a.put o.dst (.slice (some ⟨g, 0, none⟩) n c)) w') : wpList Try.prog ops Q (o :: rest) a w := by
  refine wpList_plain hgd fun K hK => ?_
  have hrun := run_append_zeros o.type n h0 hn w
  have hge := grownCap_ge w n 0 3
  have hle := grownCap_le_maxLen w n 0 3 (by unfold maxLen; omega)
  have hF : Fut w (w.drew.alloc (.cells (Builtin.zeroCells #[.int .i64 0] n ++ Builtin.zeroCells #[.int .i64 0] (grownCap w n 0 3 - n)) 3)) := (Fut.drewN w 1).trans (Fut.alloc _ _)
  have hzs : ∀ k, (Builtin.zeroCells #[Value.int .i64 0] k).size = k := fun k => by unfold Builtin.zeroCells; simp
  have hown : (w.drew.alloc (.cells (Builtin.zeroCells #[.int .i64 0] n ++ Builtin.zeroCells #[.int .i64 0] (grownCap w n 0 3 - n)) 3)).ownsRow w.heap.size 3 1 (.slice (some ⟨w.heap.size, 0, none⟩) 0 (grownCap w n 0 3)) 0 [] := by
    refine ⟨rfl, .inr ⟨w.heap.size, grownCap w n 0 3, _, rfl, Nat.le_refl _, World.alloc_heap_new w.drew _, Nat.zero_le _, hle, ?_, rfl⟩⟩
    rw [Array.size_append, hzs, hzs]; omega
  unfold Oper.wp
  simp [execOp, ho, resolve, invoke, builtin, hs, hx, hrun, Result.andThen]
  exact hK _ _ (h _ _ _ hown hge hF)
set_option maxRecDepth 100000 in
set_option maxHeartbeats 1000000 in
/-- slices.Grow of nil. -/
theorem grow_any (n : Nat) (hn : n ≤ 100000) (w : World) : Calls Try.prog 101 #[.slice none 0 0, .int .i64 (n : Int)] w fun e w' => ∃ v, e = .returned v ∧ Owns w' w.heap.size v [] ∧ Fut w w' := by
  have hnx : (n : Int) ≤ 100000 := by omega
  by_cases h0 : 0 < n
  · have h0x : (0 : Int) < n := by omega
    go_enter Try.func101, Try.ntmps101
    go_wp2_with (at_builtin; refine wpList_append_zeros rfl _ _ rfl n h0 hn rfl rfl ?_)
    intro g c w1 hown hnc F
    have HO : Hid (Owns w1 w.heap.size (.slice (some ⟨g, 0, none⟩) 0 c) []) := Lib.hid hown
    have HF := Lib.hid F
    have hsl := fun W => slice_toI g 0 n c 0 (Nat.zero_le _) W
    clear hown F
    go_wp2_with fail
    go_ret
    exact ⟨_, rfl, HO.out, HF.out⟩
  · obtain rfl : n = 0 := by omega
    go_enter Try.func101, Try.ntmps101
    go_wp2_with fail
    go_ret
    exact ⟨_, rfl, World.ownsRow_nil _ _ _ _, Fut.rfl⟩
theorem run_append_nothing (ty : TypeId) (B n rc : Nat) (v : Value) (xs : List Value) (w : World) (h : w.ownsRow B 3 1 v n xs) : (Builtin.append_ #[22, 22] ty #[v, .slice none 0 rc]).run Try.prog w = .ok v w := by
  obtain ⟨i0, hi, _, _, _⟩ := info_parts info3
  rcases h.2 with ⟨rfl, rfl⟩ | ⟨g, cap, cur, rfl, _, _, hnc, _⟩
  · simp [Builtin.append_, run_underlying Try.underlying22, sizeOf, typeInfo, hi, Builtin.lenOf, Builtin.firstCells]
  · simp [Builtin.append_, run_underlying Try.underlying22, sizeOf, typeInfo, hi, Builtin.lenOf, Builtin.firstCells, hnc, storeCells]
theorem wpList_append_nothing {w : World} {ops : Array Oper} {rest : List Oper} {o : Oper} {a : Act} {Q : Exit → Act → World → Prop} (hgd : o.guard = none) (s x : Operand)
    (ho : o.op = .call { callee := .builtin .append, args := #[s, x], argTypes := #[22, 22] }) (B n rc : Nat) (v : Value) (xs : List Value) (hs : a.eval s = v) (hown : w.ownsRow B 3 1 v n xs) (hx : a.eval x = .slice none 0 rc)
    (h : wpList Try.prog ops Q rest (a.put o.dst v) w) : wpList Try.prog ops Q (o :: rest) a w := by
  refine wpList_plain hgd fun K hK => ?_
  have hrun := run_append_nothing o.type B n rc v xs w hown
  unfold Oper.wp
  simp [execOp, ho, resolve, invoke, builtin, hs, hx, hrun, Result.andThen]
  exact hK _ _ h
def szN (zss : List (List Int)) (k : Nat) : Nat := ((zss.take k).map List.length).sum
theorem szN_succ (zss : List (List Int)) (k : Nat) (h : k < zss.length) : szN zss (k + 1) = szN zss k + (lth zss k).length := by
  unfold szN
  rw [List.take_succ_eq_append_getElem h, List.map_append, List.sum_append, lth_eq, List.getElem?_eq_getElem h]
  simp
theorem szN_le (zss : List (List Int)) (b : Nat) (hb : ∀ k, k < zss.length → (lth zss k).length ≤ b) : ∀ k, k ≤ zss.length → szN zss k ≤ k * b
  | 0, _ => by unfold szN; simp
  | k + 1, h => by
    rw [szN_succ _ _ (by omega), Nat.succ_mul]
    have := szN_le zss b hb k (by omega)
    have := hb k (by omega)
    omega
theorem flat_take (zss : List (List Int)) (k : Nat) (h : k < zss.length) : (zss.take (k + 1)).flatten = (zss.take k).flatten ++ lth zss k := by
  rw [List.take_succ_eq_append_getElem h, List.flatten_append, lth_eq, List.getElem?_eq_getElem h]
  simp
theorem flat_len (zss : List (List Int)) : ∀ k, k ≤ zss.length → (zss.take k).flatten.length = szN zss k
  | 0, _ => by unfold szN; simp
  | k + 1, h => by rw [flat_take _ _ (by omega), List.length_append, flat_len zss k (by omega), szN_succ _ _ (by omega)]
set_option maxRecDepth 100000 in
set_option maxHeartbeats 2000000 in
/-- slices.Concat at numbers. -/
theorem concat_any (a : Option Addr) (cap : Nat) (zss : List (List Int)) (w : World) (hL : LstAt w a zss) (hl : zss.length ≤ 100) (hz : ∀ k, k < zss.length → (lth zss k).length ≤ 1000) :
    Calls Try.prog 46 #[.slice a zss.length cap] w fun e w' => ∃ v, e = .returned v ∧ Owns w' w.heap.size v zss.flatten ∧ Fut w w' := by
  obtain ⟨i0, hi0, hz0, hz1, hz2⟩ := info_parts info3
  have HL := Lib.hid hL
  have HZ := Lib.hid hz
  have hlx : (zss.length : Int) ≤ 100 := by omega
  have hsl := szN_le zss 1000 hz
  have HSL := Lib.hid (fun k (hk : k ≤ zss.length) => show szN zss k ≤ 100000 by have := hsl k hk; omega)
  have HSS := Lib.hid (fun k (hk : k < zss.length) => szN_succ zss k hk)
  have HS0 : Hid (szN zss 0 = 0) := Lib.hid (by unfold szN; simp)
  have HFT := Lib.hid (fun k (hk : k < zss.length) => flat_take zss k hk)
  have HFL := Lib.hid (fun k (hk : k ≤ zss.length) => flat_len zss k hk)
  have HG := Lib.hid (fun W => grow_any (szN zss zss.length) (HSL.out _ (Nat.le_refl _)) W)
  clear hL hz hsl
  go_enter Try.func46, Try.ntmps46
  go_wp2_with fail
  go_loopw [3, 11] (fun sv iv wr => ∃ k : Nat, k ≤ zss.length ∧ sv = .int .i64 (szN zss k : Nat) ∧ iv = .int .i64 k ∧ wr = w) (fun _ iv _ => zss.length - (intOf iv).toNat)
  case atStart => exact ⟨0, Nat.zero_le _, by rw [HS0.out]; rfl, rfl, rfl⟩
  case round =>
    obtain ⟨k, hk, rfl, rfl, rfl⟩ := hrel
    obtain ⟨wo, hwo⟩ : ∃ wo, wo = wr := ⟨_, rfl⟩
    subst hwo
    by_cases hkl : k < zss.length
    · have hkx : (k : Int) < zss.length := by omega
      obtain ⟨bb, off, l, lc, rfl, _, c1, _⟩ := HL.out k hkl
      have h1 := HSL.out k hk
      have h2 := HZ.out k hkl
      have HN := Lib.hid (HSS.out k hkl)
      generalize lth zss k = r at *
      generalize szN zss k = sm at *
      have h1x : (sm : Int) ≤ 100000 := by omega
      have h2x : (r.length : Int) ≤ 1000 := by omega
      go_wp2_with fail
      go_round
      case rel => exact ⟨k + 1, by omega, by rw [HN.out]; go_num, by go_num, by first | rfl | trivial⟩
      case measure => simp [intOf]; omega
    · obtain rfl : zss.length = k := by omega
      go_wp2_with fail
      refine (HG.out _).mono ?_
      rintro _ w1 ⟨v, rfl, hO, F⟩
      obtain ⟨l0, c0, rfl, _⟩ := hO.ints
      have HO1 := Lib.hid hO
      have HF1 := Lib.hid F
      clear hO F HG
      go_wp2_with fail
      go_loopw [6, 27] (fun sv iv wr => ∃ (k : Nat) (l : Option Addr) (c : Nat), k ≤ zss.length ∧ sv = .slice l (zss.take k).flatten.length c ∧ iv = .int .i64 k ∧ Hid (Owns wr wo.heap.size (.slice l (zss.take k).flatten.length c) (zss.take k).flatten) ∧ Hid (Fut wo wr)) (fun _ iv _ => zss.length - (intOf iv).toNat)
      case atStart => exact ⟨0, l0, c0, Nat.zero_le _, rfl, rfl, HO1, HF1⟩
      case round =>
        obtain ⟨k, l, c, hk, rfl, rfl, HO, HF⟩ := hrel
        clear HO1 HF1
        by_cases hkl : k < zss.length
        · have hkx : (k : Int) < zss.length := by omega
          obtain ⟨bb, off, rl, rc, rfl, _, c1, hIr⟩ := (HL.out.fut HF.out) k hkl
          have h1 := HSL.out k hk
          rw [← HFL.out k hk] at h1
          have h2 := HZ.out k hkl
          have HN := Lib.hid (HFT.out k hkl)
          generalize lth zss k = r at *
          generalize (zss.take k).flatten = acc at *
          have hsz := RowKit.Below.size HF.out
          cases rl with
          | none =>
            have hr0 : r = [] := by
              cases r with
              | nil => rfl
              | cons p t => obtain ⟨b, o, e, _⟩ := hIr 0 (by simp); cases e
            subst hr0
            rw [List.append_nil] at HN
            clear hIr
            go_wp2_with (at_builtin; refine wpList_append_nothing rfl _ _ rfl wo.heap.size acc.length rc (.slice l acc.length c) (acc.map (.int .i64)) rfl HO.out rfl ?_)
            go_wp2_with fail
            go_round
            case rel => exact ⟨k + 1, l, c, by omega, by rw [HN.out], by go_num, by rw [HN.out]; exact HO, HF⟩
            case measure => simp [intOf]; omega
          | some ad =>
            have HNW : Hid (∀ j u, (r.map (Value.int .i64))[j]? = some u → wr.cell? (ad.add j) = some u) := Lib.hid (fun j u hj => by
              have hlt : j < r.length := by simpa using (List.getElem?_eq_some_iff.1 hj).1
              obtain ⟨b, o, e, _, hc⟩ := hIr j hlt
              simp only [Option.some.injEq] at e
              subst e
              rw [Addr.add_lit, hc, ← hj, nth_eq]
              simp [List.getElem?_eq_getElem hlt])
            clear hIr
            go_wp2_with (at_builtin; refine wpList_append_own _ rfl _ _ 22 rfl wo.heap.size 3 i0 (.int .i64 0) 1 8 Try.underlying22 hi0 hz0 hz1 hz2 rfl (by decide) _ acc.length (acc.map (.int .i64)) rfl HO.out ad r.length rc (r.map (.int .i64)) rfl (by simp) HNW.out (by intro u hu; obtain ⟨z, _, rfl⟩ := List.mem_map.1 hu; rfl) (by unfold maxLen; omega) (by omega) hsz ?_)
            intro v' w7 hown' hgrow _
            have hO7 : Owns w7 wo.heap.size v' (acc ++ r) := by
              unfold Owns
              rw [List.length_append, List.map_append]
              exact hown'
            have HF7 := Lib.hid (RowKit.Below.grown HF.out hgrow hsz fun q hq => (World.ownsRow.lt HO.out q hq).1)
            obtain ⟨l7, c7, rfl, _⟩ := hO7.ints
            have HO7 := Lib.hid hO7
            clear hown' hgrow hO7
            go_wp2_with fail
            go_round
            case rel => exact ⟨k + 1, l7, c7, by omega, by rw [HN.out], by go_num, by rw [HN.out]; exact HO7, HF7⟩
            case measure => simp [intOf]; omega
        · obtain rfl : zss.length = k := by omega
          rw [List.take_length] at HO
          rw [List.take_length]
          go_wp2_with fail
          go_ret
          exact ⟨_, rfl, HO.out, HF.out⟩
end
section
theorem slice_fromI (b o n cap k : Nat) (h : k ≤ n) (_h2 : n ≤ cap) (W : World) : (Instr.sliceAt 22 (.slice (some ⟨b, o, none⟩) n cap) (some (.int .i64 k)) none none).run Try.prog W = .ok (.slice (some ⟨b, offK o k cap, none⟩) (n - k) (cap - k)) W := by
  have hu : Try.prog.underlying 22 = some (.slice (Try.prog.elem 22)) := by kernel_rfl
  have hs : (sizeOf (Try.prog.elem 22)).run Try.prog W = .ok 1 W := by kernel_rfl
  rw [run_sliceAt_slice _ _ _ _ _ _ hu, run_slice_l _ _ _ _ _ hu _ _ (by omega) (by omega), hs]
  unfold offK
  simp [sliced, Result.andThen, Addr.add]
  split
  · rfl
  · split
    · subst k; rfl
    · rfl
theorem IntsAt.drop {w : World} {b o k cap : Nat} {zs : List Int} (h : IntsAt w (some ⟨b, o, none⟩) zs) (hc : zs.length ≤ cap) : IntsAt w (some ⟨b, offK o k cap, none⟩) (zs.drop k) := fun j hj => by
  rw [List.length_drop] at hj
  obtain ⟨b', o', e, h1, h2⟩ := h (k + j) (by omega)
  simp only [Option.some.injEq, Addr.mk.injEq, and_true] at e
  obtain ⟨rfl, rfl⟩ := e
  have e2 : nth (zs.drop k) j = nth zs (k + j) := by rw [nth_eq, List.getElem?_drop, nth_eq]
  rw [e2]
  refine ⟨b, offK o k cap, rfl, h1, ?_⟩
  unfold offK
  rw [if_neg (by omega), Nat.add_assoc]
  exact h2
/-- rows without one of their numbers. -/
def woL (col : Nat) (rows : List (List Int)) : List (List Int) := rows.map fun r => r.take col ++ r.drop (col + 1)
theorem woL_take (col : Nat) (rows : List (List Int)) (k : Nat) (h : k < rows.length) : woL col (rows.take (k + 1)) = woL col (rows.take k) ++ [(lth rows k).take col ++ (lth rows k).drop (col + 1)] := by
  unfold woL
  rw [List.take_succ_eq_append_getElem h, List.map_append, lth_eq, List.getElem?_eq_getElem h]
  rfl
set_option maxRecDepth 100000 in
set_option maxHeartbeats 4000000 in
theorem without_any (col : Nat) (a : Option Addr) (cap : Nat) (rows : List (List Int)) (w : World) (hL : LstC w a rows) (hl : rows.length ≤ 100) (hz : ∀ k, k < rows.length → col < (lth rows k).length ∧ (lth rows k).length ≤ 1000) :
    Calls Try.prog 109 #[.int .i64 col, .slice a rows.length cap] w fun e w' => ∃ v, e = .returned v ∧ OwnL w' w.heap.size v (woL col rows) ∧ Fut w w' := by
  obtain ⟨i1, hi1, hy0, hy1, hy2⟩ := info_parts info22
  have HL := Lib.hid hL
  have HZ := Lib.hid hz
  have hlx : (rows.length : Int) ≤ 100 := by omega
  have HWT := Lib.hid (fun k (hk : k < rows.length) => woL_take col rows k hk)
  have HW0 : Hid (woL col (rows.take 0) = []) := Lib.hid rfl
  have HWA : Hid (woL col (rows.take rows.length) = woL col rows) := Lib.hid (by rw [List.take_length])
  have HWN : Hid (∀ k, k ≤ rows.length → (woL col (rows.take k)).length = k) := Lib.hid (fun k hk => by unfold woL; simp; omega)
  clear hL hz
  go_enter Try.func109, Try.ntmps109
  go_wp2_with fail
  go_loopw [5, 10] (fun ov iv wr => ∃ (k : Nat) (l : Option Addr) (c : Nat), k ≤ rows.length ∧ ov = .slice l k c ∧ iv = .int .i64 k ∧ Hid (OwnL wr w.heap.size (.slice l k c) (woL col (rows.take k))) ∧ Hid (Fut w wr)) (fun _ iv _ => rows.length - (intOf iv).toNat)
  case atStart => exact ⟨0, none, 0, Nat.zero_le _, rfl, rfl, by rw [HW0.out]; exact Lib.hid (OwnL.nil _ _), Lib.hid Fut.rfl⟩
  case round =>
    obtain ⟨k, l, cc, hk, rfl, rfl, HO, HF⟩ := hrel
    obtain ⟨wo, hwo⟩ : ∃ wo, wo = wr := ⟨_, rfl⟩
    subst hwo
    by_cases hkl : k < rows.length
    · have hkx : (k : Int) < rows.length := by omega
      obtain ⟨bb, off, rl, rc, rfl, _, c1, hq1, hq2, hIr⟩ := (HL.out.fut HF.out) k hkl
      obtain ⟨hz1, hz2⟩ := HZ.out k hkl
      have HWK := Lib.hid (HWT.out k hkl)
      have hwn := HWN.out k hk
      generalize lth rows k = r at *
      generalize woL col (rows.take k) = acc at *
      obtain ⟨rb, ro, er, _, _⟩ := hIr 0 (by omega)
      subst er
      have hzx : (col : Int) < r.length := by omega
      have hzx2 : (r.length : Int) ≤ 1000 := by omega
      have hs1 := fun W => slice_toI rb ro r.length rc col (by omega) W
      have hs2 : ∀ W, (Instr.sliceAt 22 (.slice (some ⟨rb, ro, none⟩) r.length rc) (some (.int .i64 ((col : Int) + 1))) none none).run Try.prog W = .ok (.slice (some ⟨rb, offK ro (col + 1) rc, none⟩) (r.length - (col + 1)) (rc - (col + 1))) W := fun W => slice_fromI rb ro r.length rc (col + 1) (by omega) hq1 W
      have hcw : IntKind.i64.wrap ((col : Int) + 1) = (col : Int) + 1 := IntWalk.i64_in _ ⟨by omega, by omega⟩
      have HCC : Hid (∀ W, Fut wo W → Calls Try.prog 46 #[.slice (some ⟨W.heap.size, 0, none⟩) 2 2] (W.alloc (.cells #[.slice (some ⟨rb, ro, none⟩) col rc, .slice (some ⟨rb, offK ro (col + 1) rc, none⟩) (r.length - (col + 1)) (rc - (col + 1))] 22)) fun e w' => ∃ v, e = .returned v ∧ Owns w' W.heap.size v (r.take col ++ r.drop (col + 1)) ∧ Fut W w') := Lib.hid (fun W F => by
        have hl1 : (r.take col).length = col := by rw [List.length_take]; omega
        have hl2 : (r.drop (col + 1)).length = r.length - (col + 1) := List.length_drop
        have hb : W.heap.size < (W.alloc (.cells #[.slice (some ⟨rb, ro, none⟩) col rc, .slice (some ⟨rb, offK ro (col + 1) rc, none⟩) (r.length - (col + 1)) (rc - (col + 1))] 22)).heap.size := by simp
        have hn := World.alloc_heap_new W (.cells #[.slice (some ⟨rb, ro, none⟩) col rc, .slice (some ⟨rb, offK ro (col + 1) rc, none⟩) (r.length - (col + 1)) (rc - (col + 1))] 22)
        have hLs : LstAt (W.alloc (.cells #[.slice (some ⟨rb, ro, none⟩) col rc, .slice (some ⟨rb, offK ro (col + 1) rc, none⟩) (r.length - (col + 1)) (rc - (col + 1))] 22)) (some ⟨W.heap.size, 0, none⟩) [r.take col, r.drop (col + 1)] := fun j hj => by
          have hj2 : j < 2 := hj
          rcases (by omega : j = 0 ∨ j = 1) with rfl | rfl
          · refine ⟨W.heap.size, 0, some ⟨rb, ro, none⟩, rc, rfl, hb, ?_, (hIr.take col).fut (F.trans (Fut.alloc _ _))⟩
            show _ = some (Value.slice _ (r.take col).length rc)
            rw [hl1]; unfold World.cell?; rw [hn]; rfl
          · refine ⟨W.heap.size, 0, some ⟨rb, offK ro (col + 1) rc, none⟩, rc - (col + 1), rfl, hb, ?_, (hIr.drop hq1).fut (F.trans (Fut.alloc _ _))⟩
            show _ = some (Value.slice _ (r.drop (col + 1)).length (rc - (col + 1)))
            rw [hl2]; unfold World.cell?; rw [hn]; rfl
        have h := concat_any (some ⟨W.heap.size, 0, none⟩) 2 [r.take col, r.drop (col + 1)] _ hLs (by simp) (fun j hj => by
          have hj2 : j < 2 := hj
          rcases (by omega : j = 0 ∨ j = 1) with rfl | rfl
          · show (r.take col).length ≤ 1000; omega
          · show (r.drop (col + 1)).length ≤ 1000; omega)
        refine h.mono ?_
        rintro _ w5 ⟨v5, rfl, hO, F5⟩
        refine ⟨v5, rfl, ?_, (Fut.alloc _ _).trans F5⟩
        have := hO.base (B' := W.heap.size) (by simp)
        simpa using this)
      obtain ⟨vals, hrow, hel⟩ := HO.out
      rw [hwn] at hrow
      have HROW := Lib.hid hrow
      have HEL := Lib.hid hel
      have HWN2 := Lib.hid hwn
      generalize r.take col ++ r.drop (col + 1) = rd at *
      have hk100 : k ≤ 100 := by omega
      have hszo := RowKit.Below.size HF.out
      clear hrow hel hwn hIr
      go_upto_region 5 with fail
      clear c1
      go_region_law
        (first
          | (go_simp; go_at_call 46; refine (HCC.out wo.drew (Fut.drewN wo 1)).mono ?_; rintro _ w5 ⟨v5, rfl, hO5, F5⟩; obtain ⟨l5, c5, rfl, _⟩ := hO5.ints; have FA5 : Fut wo w5 := Fut.trans (Fut.drewN wo 1) F5)
          | (refine step_append_src (by rfl) _ _ _ (by rfl) w.heap.size 22 i1 (.slice none 0 0) 24 Try.underlying35 hi1 hy0 hy1 hy2 rfl (.slice l k cc) k vals (by rfl) (row_fut HROW.out (FA5.trans (Fut.alloc w5 (.cells #[.slice l5 rd.length c5] 22)))) (.slice (some ⟨w5.heap.size, 0, none⟩) 1 1) 1 [.slice l5 rd.length c5] (by rfl) (.inr ⟨⟨w5.heap.size, 0, none⟩, 1, rfl, rfl, cell_one (by simp [go_sem]), by simp [Value.oneCell']⟩) (by unfold maxLen; omega) (by omega) (by have h7 := RowKit.Below.size FA5; simp only [World.size_alloc]; omega) ?_; intro av9 ac9 w9 hown9 hgrow9; obtain ⟨g9, rfl⟩ := own_some hown9))
      all_goals
        have hF5 : Fut w (w5.alloc (.cells #[.slice l5 rd.length c5] 22)) := (HF.out.trans FA5).trans (Fut.alloc _ _)
        have HO9 : Hid (OwnL w9 w.heap.size (.slice (some ⟨g9, 0, none⟩) (k + 1) ac9) (woL col (rows.take (k + 1)))) := Lib.hid (by
          rw [HWK.out]
          have h1 : (w5.alloc (.cells #[.slice l5 rd.length c5] 22)).ownsRow w.heap.size 22 1 (.slice l k cc) acc.length vals := by rw [HWN2.out]; exact row_fut HROW.out (FA5.trans (Fut.alloc _ _))
          have h2 := OwnL.app h1 (HEL.out.fut (FA5.trans (Fut.alloc w5 (.cells #[.slice l5 rd.length c5] 22)))) ((hO5.base (show w.heap.size ≤ wo.drew.heap.size from hszo)).fut (Fut.alloc w5 (.cells #[.slice l5 rd.length c5] 22))) (by rw [HWN2.out]; exact hown9) hgrow9
          rw [HWN2.out] at h2
          exact h2)
        have HF9 : Hid (Fut w w9) := Lib.hid (RowKit.Below.grown hF5 hgrow9 (RowKit.Below.size hF5) fun q hq => (World.ownsRow.lt HROW.out q hq).1)
        clear hown9 hgrow9 hF5 FA5 F5 hO5
        go_wp2
        go_roundw
      all_goals first
        | exact ⟨k + 1, some ⟨g9, 0, none⟩, ac9, by omega, by go_num, by go_num, HO9, HF9⟩
        | (simp [intOf]; omega)
    · obtain rfl : rows.length = k := by omega
      rw [HWA.out] at HO
      go_wp2_with fail
      go_ret
      exact ⟨_, rfl, HO.out, HF.out⟩
end
end Go.Proofs.Ytflllkamdihfaaa
