/- the parish's small functions: corners, isSide, at, Ascending, different -/
import Derived.Test.YtflllkamdihfaaaLB
namespace Go.Proofs.Ytflllkamdihfaaa
open Go.RowKit Go.Sort
/-- rows, columns, and corners of a parish. -/
def Side (r c m : Int) : Prop := 1 ≤ r ∧ r ≤ 4 ∧ 1 ≤ c ∧ c ≤ 4 ∧ r * c = m
theorem Side.m {r c m : Int} (h : Side r c m) : 1 ≤ m ∧ m ≤ 16 := by
  obtain ⟨h1, h2, h3, h4, rfl⟩ := h
  rcases (by omega : r = 1 ∨ r = 2 ∨ r = 3 ∨ r = 4) with rfl | rfl | rfl | rfl <;> omega
/-- a parish as a value. -/
abbrev parV (r c : Int) (a : Option Addr) (n cap : Nat) : Value := .agg #[.int .i64 r, .int .i64 c, .slice a n cap]
theorem corners_any (r c m : Int) (hs : Side r c m) (a : Option Addr) (n cap : Nat) (w : World) :
    Calls Try.prog 69 #[parV r c a n cap] w fun e w' => e = .returned (.int .i64 m) ∧ Fut w w' := by
  have hm := hs.m
  obtain ⟨h1, h2, h3, h4, h5⟩ := hs
  obtain ⟨hm1, hm2⟩ := hm
  have hw : IntKind.i64.wrap (r * c) = m := by rw [h5]; exact IntWalk.i64_in _ ⟨by omega, by omega⟩
  have hw2 : wrap64 (r * c) = m := by rw [h5]; unfold wrap64; omega
  have HF : Hid (Fut w (w.alloc (.cells #[.int .i64 r, .int .i64 c, .slice a n cap] 24))) := Lib.hid (Fut.alloc _ _)
  clear h5
  go_enter Try.func69, Try.ntmps69
  go_wp2
  go_ret
  exact ⟨rfl, HF.out⟩
theorem isSide_any (n : Int) (w : World) : Calls Try.prog 73 #[.int .i64 n] w fun e w' => e = .returned (.bool (decide (1 ≤ n ∧ n ≤ 4))) ∧ w = w' := by
  by_cases h1 : 1 ≤ n
  · by_cases h2 : n ≤ 4
    · have HE := Lib.hid (show decide (1 ≤ n ∧ n ≤ 4) = true by simp [h1, h2])
      generalize decide (1 ≤ n ∧ n ≤ 4) = b at *
      go_enter Try.func73, Try.ntmps73
      go_wp2
      go_ret
      exact ⟨ret_bool HE.out.symm, rfl⟩
    · have HE := Lib.hid (show decide (1 ≤ n ∧ n ≤ 4) = false by simp [h2])
      generalize decide (1 ≤ n ∧ n ≤ 4) = b at *
      go_enter Try.func73, Try.ntmps73
      go_wp2
      go_ret
      exact ⟨ret_bool HE.out.symm, rfl⟩
  · have HE := Lib.hid (show decide (1 ≤ n ∧ n ≤ 4) = false by simp [h1])
    generalize decide (1 ≤ n ∧ n ≤ 4) = b at *
    go_enter Try.func73, Try.ntmps73
    go_wp2
    go_ret
    exact ⟨ret_bool HE.out.symm, rfl⟩
/-- the error of a cart at a corner. -/
def atE (m : Int) (S : List Int) (k : Int) : Int := if inB m k = true then (if S.contains k = true then 20 else 0) else 2
set_option maxRecDepth 100000 in
theorem at_any (r c m : Int) (hs : Side r c m) (a : Option Addr) (cap : Nat) (S : List Int) (k : Int) (w : World) (hS : IntsAt w a S) (hl : S.length ≤ 1000) :
    Calls Try.prog 106 #[parV r c a S.length cap, .int .i64 k] w fun e w' => e = .returned (.int .i64 (atE m S k)) ∧ Fut w w' := by
  have HCO := Lib.hid (fun W => corners_any r c m hs a S.length cap W)
  have HIS := Lib.hid (fun W => isIndex_any k m W)
  have HCT := Lib.hid (fun W (F : Fut w W) => contains_any a cap S k W (hS.fut F) hl)
  have HF : Hid (Fut w (w.alloc (.cells #[.int .i64 r, .int .i64 c, .slice a S.length cap] 24))) := Lib.hid (Fut.alloc _ _)
  have c0 : (w.alloc (.cells #[.int .i64 r, .int .i64 c, .slice a S.length cap] 24)).heap[w.heap.size]? = some (.cells #[.int .i64 r, .int .i64 c, .slice a S.length cap] 24) := World.alloc_heap_new _ _
  have HC0 := Lib.hid c0
  have HE : Hid (atE m S k = if inB m k = true then (if S.contains k = true then 20 else 0) else 2) := Lib.hid rfl
  generalize atE m S k = E at *
  generalize inB m k = ib at *
  generalize S.contains k = sb at *
  clear hs hS hl c0
  go_enter Try.func106, Try.ntmps106
  go_wp2_with fail
  refine (HCO.out _).mono ?_
  rintro _ w1 ⟨rfl, F⟩
  have HF1 := Lib.hid (HF.out.trans F)
  have c2 : w1.cell? ⟨w.heap.size, 2, none⟩ = some (.slice a S.length cap) := (RowKit.Below.cell F (p := ⟨w.heap.size, 2, none⟩) (by simp)).trans (by unfold World.cell?; rw [HC0.out]; rfl)
  clear F
  go_wp2_with fail
  refine (HIS.out _).mono ?_
  rintro _ _ ⟨rfl, rfl⟩
  cases ib
  · go_wp2_with fail
    go_ret
    exact ⟨ret_int (by rw [HE.out]; rfl), HF1.out⟩
  · go_wp2_with fail
    refine (HCT.out _ HF1.out).mono ?_
    rintro _ _ ⟨rfl, rfl⟩
    cases sb
    · go_wp2_with fail
      go_ret
      exact ⟨ret_int (by rw [HE.out]; rfl), HF1.out⟩
    · go_wp2_with fail
      go_ret
      exact ⟨ret_int (by rw [HE.out]; rfl), HF1.out⟩
/-- the error of an ascending list of indices. -/
def ascF (m : Int) (all : List Int) : List Int → Nat → Int
  | [], _ => 0
  | x :: t, k => if inB m x = true then (if 0 < k ∧ x ≤ nth all (k - 1) then 7 else ascF m all t (k + 1)) else 2
def ascE (m : Int) (l : List Int) : Int := ascF m l l 0
set_option maxRecDepth 100000 in
set_option maxHeartbeats 1000000 in
theorem asc_any (a : Option Addr) (cap : Nat) (zs : List Int) (m : Int) (w : World) (hS : IntsAt w a zs) (hl : zs.length ≤ 1000) :
    Calls Try.prog 74 #[.slice a zs.length cap, .int .i64 m] w fun e w' => e = .returned (.int .i64 (ascE m zs)) ∧ w = w' := by
  have HIS := Lib.hid (fun k => isIndex_any k m w)
  have HA := Lib.hid hS
  have hzx : (zs.length : Int) ≤ 1000 := by omega
  have HE : Hid (ascE m zs = ascF m zs (zs.drop 0) 0) := Lib.hid rfl
  generalize ascE m zs = E at *
  clear hS hl
  go_enter Try.func74, Try.ntmps74
  go_wp2_with fail
  go_loopw [9] (fun kv wr => ∃ k : Nat, k ≤ zs.length ∧ kv = .int .i64 k ∧ Hid (E = ascF m zs (zs.drop k) k) ∧ wr = w) (fun kv _ => zs.length - (intOf kv).toNat)
  case atStart => exact ⟨0, Nat.zero_le _, rfl, HE, rfl⟩
  case round =>
    obtain ⟨k, hk, rfl, HK, rfl⟩ := hrel
    by_cases hkl : k < zs.length
    · have hkx : (k : Int) < zs.length := by omega
      have hkk := HK.out
      rw [nth_drop zs k hkl, ascF] at hkk
      obtain ⟨b, o, rfl, hb, c1⟩ := HA.out k hkl
      have HI := Lib.hid (HIS.out (nth zs k))
      cases hi : inB m (nth zs k)
      · rw [hi] at HI hkk
        have HE2 := Lib.hid hkk
        clear hkk hi HIS
        generalize nth zs k = x at *
        go_wp2_with fail
        refine HI.out.mono ?_
        rintro _ _ ⟨rfl, rfl⟩
        go_wp2_with fail
        go_ret
        exact ⟨ret_int (by rw [HE2.out]; rfl), rfl⟩
      · rw [hi, if_pos rfl] at hkk
        rw [hi] at HI
        by_cases hk0 : 0 < k
        · have hk0x : (0 : Int) < k := by omega
          obtain ⟨b1, o1, e1, hb1, c2⟩ := HA.out (k - 1) (by omega)
          simp only [Option.some.injEq, Addr.mk.injEq, and_true] at e1
          obtain ⟨rfl, rfl⟩ := e1
          have hwk : IntKind.i64.wrap ((k : Int) - 1) = ((k - 1 : Nat) : Int) := by rw [IntWalk.i64_in _ ⟨by omega, by omega⟩]; omega
          have hwk2 : wrap64 ((k : Int) - 1) = ((k - 1 : Nat) : Int) := by unfold wrap64; omega
          have hk1x : ((k - 1 : Nat) : Int) < zs.length := by omega
          by_cases hle : nth zs k ≤ nth zs (k - 1)
          · rw [if_pos ⟨hk0, hle⟩] at hkk
            have HE2 := Lib.hid hkk
            clear hkk hi HIS HK
            generalize nth zs (k - 1) = y at *
            generalize nth zs k = x at *
            generalize k - 1 = k1 at *
            go_wp2_with fail
            refine HI.out.mono ?_
            rintro _ _ ⟨rfl, rfl⟩
            go_wp2_with fail
            go_ret
            exact ⟨ret_int HE2.out.symm, rfl⟩
          · rw [if_neg (fun h => hle h.2)] at hkk
            have HE2 := Lib.hid hkk
            clear hkk hi HIS HK
            generalize nth zs (k - 1) = y at *
            generalize nth zs k = x at *
            generalize k - 1 = k1 at *
            go_wp2_with fail
            refine HI.out.mono ?_
            rintro _ _ ⟨rfl, rfl⟩
            go_wp2_with fail
            clear hwk hwk2
            go_round
            case rel => exact ⟨k + 1, by omega, by go_num, HE2, by first | rfl | trivial⟩
            case measure => simp [intOf]; omega
        · obtain rfl : k = 0 := by omega
          rw [Nat.add_zero] at c1
          rw [if_neg (fun h => absurd h.1 (Nat.lt_irrefl 0))] at hkk
          have HE2 := Lib.hid hkk
          clear hkk hi HIS HK
          generalize nth zs 0 = x at *
          go_wp2_with fail
          refine HI.out.mono ?_
          rintro _ _ ⟨rfl, rfl⟩
          go_wp2_with fail
          go_round
          case rel => exact ⟨1, by omega, by go_num, HE2, by first | rfl | trivial⟩
          case measure => simp [intOf]; omega
    · obtain rfl : k = zs.length := by omega
      have hkk := HK.out
      rw [List.drop_length, ascF] at hkk
      have HE2 := Lib.hid hkk
      clear hkk
      go_wp2_with fail
      go_ret
      exact ⟨ret_int HE2.out.symm, rfl⟩
/-- the error of the yards, or of the tips. -/
def difF (m : Int) (S : List Int) (all : List Int) : List Int → Nat → Int
  | [], _ => 0
  | x :: t, k => if atE m S x = 0 then (if (all.take k).contains x = true then 6 else difF m S all t (k + 1)) else atE m S x
def difE (m : Int) (S l : List Int) : Int := difF m S l l 0
set_option maxRecDepth 100000 in
set_option maxHeartbeats 1000000 in
theorem dif_any (r c m : Int) (hs : Side r c m) (a : Option Addr) (cap : Nat) (S : List Int) (b : Option Addr) (bap : Nat) (zs : List Int) (w : World) (hS : IntsAt w a S) (hl : S.length ≤ 1000) (hZ : IntsAt w b zs) (hzl : zs.length ≤ 1000) (hzc : zs.length ≤ bap) :
    Calls Try.prog 75 #[parV r c a S.length cap, .slice b zs.length bap] w fun e w' => e = .returned (.int .i64 (difE m S zs)) ∧ Fut w w' := by
  have HAT := Lib.hid (fun k W (F : Fut w W) => at_any r c m hs a cap S k W (hS.fut F) hl)
  have HA := Lib.hid hZ
  have hzx : (zs.length : Int) ≤ 1000 := by omega
  have HE : Hid (difE m S zs = difF m S zs (zs.drop 0) 0) := Lib.hid rfl
  generalize difE m S zs = E at *
  have HF : Hid (Fut w (w.alloc (.cells #[.int .i64 r, .int .i64 c, .slice a S.length cap] 24))) := Lib.hid (Fut.alloc _ _)
  have c0 : (w.alloc (.cells #[.int .i64 r, .int .i64 c, .slice a S.length cap] 24)).heap[w.heap.size]? = some (.cells #[.int .i64 r, .int .i64 c, .slice a S.length cap] 24) := World.alloc_heap_new _ _
  have HW0 : Hid (∀ W, Fut (w.alloc (.cells #[.int .i64 r, .int .i64 c, .slice a S.length cap] 24)) W → W.cell? ⟨w.heap.size, 0, none⟩ = some (.int .i64 r) ∧ W.cell? ⟨w.heap.size, 1, none⟩ = some (.int .i64 c) ∧ W.cell? ⟨w.heap.size, 2, none⟩ = some (.slice a S.length cap)) := Lib.hid (fun W F => by
    have hb : w.heap.size < (w.alloc (.cells #[.int .i64 r, .int .i64 c, .slice a S.length cap] 24)).heap.size := by simp
    exact ⟨(RowKit.Below.cell F (p := ⟨w.heap.size, 0, none⟩) hb).trans (by unfold World.cell?; rw [c0]; rfl), (RowKit.Below.cell F (p := ⟨w.heap.size, 1, none⟩) hb).trans (by unfold World.cell?; rw [c0]; rfl), (RowKit.Below.cell F (p := ⟨w.heap.size, 2, none⟩) hb).trans (by unfold World.cell?; rw [c0]; rfl)⟩)
  clear hS hl hZ hzl hs c0
  go_enter Try.func75, Try.ntmps75
  go_wp2_with fail
  generalize w.alloc (.cells #[.int .i64 r, .int .i64 c, .slice a S.length cap] 24) = w1 at *
  go_loopw [10] (fun kv wr => ∃ k : Nat, k ≤ zs.length ∧ kv = .int .i64 k ∧ Hid (E = difF m S zs (zs.drop k) k) ∧ Hid (Fut w1 wr)) (fun kv _ => zs.length - (intOf kv).toNat)
  case atStart => exact ⟨0, Nat.zero_le _, rfl, HE, Lib.hid Fut.rfl⟩
  case round =>
    obtain ⟨k, hk, rfl, HK, HFk⟩ := hrel
    obtain ⟨wo, hwo⟩ : ∃ wo, wo = wr := ⟨_, rfl⟩
    subst hwo
    have HFW := Lib.hid (HF.out.trans HFk.out)
    by_cases hkl : k < zs.length
    · have hkx : (k : Int) < zs.length := by omega
      have hkk := HK.out
      rw [nth_drop zs k hkl, difF] at hkk
      obtain ⟨b1, o1, rfl, hb, c1⟩ := (HA.out.fut HFW.out) k hkl
      obtain ⟨d1, d2, d3⟩ := HW0.out wo HFk.out
      have HI := Lib.hid (HAT.out (nth zs k) wo HFW.out)
      have hst := fun W => slice_toI b1 o1 zs.length bap k (by omega) W
      have HCT := Lib.hid (fun W (F : Fut wo W) => contains_any (some ⟨b1, o1, none⟩) bap (zs.take k) (nth zs k) W ((HA.out.fut (HFW.out.trans F)).take k) (by rw [List.length_take]; omega))
      rw [List.length_take, Nat.min_eq_left (by omega)] at HCT
      generalize (zs.take k).contains (nth zs k) = bc at *
      generalize atE m S (nth zs k) = ae at *
      generalize nth zs k = x at *
      by_cases hae : ae = 0
      · subst hae
        rw [if_pos rfl] at hkk
        have HK2 := Lib.hid hkk
        clear hkk HK
        go_wp2_with fail
        refine HI.out.mono ?_
        rintro _ w2 ⟨rfl, F⟩
        have HF2 := Lib.hid F
        clear F d1 d2 d3 c1
        go_wp2_with fail
        refine (HCT.out _ HF2.out).mono ?_
        rintro _ _ ⟨rfl, rfl⟩
        cases bc
        · go_wp2_with fail
          go_round
          case rel => exact ⟨k + 1, by omega, by go_num, HK2, Lib.hid (HFk.out.trans HF2.out)⟩
          case measure => simp [intOf]; omega
        · go_wp2_with fail
          go_ret
          exact ⟨ret_int HK2.out.symm, HFW.out.trans HF2.out⟩
      · rw [if_neg hae] at hkk
        have HK2 := Lib.hid hkk
        clear hkk HK HCT
        go_wp2_with fail
        refine HI.out.mono ?_
        rintro _ w2 ⟨rfl, F⟩
        have HF2 := Lib.hid F
        clear F d1 d2 d3 c1
        go_wp2_with fail
        go_ret
        exact ⟨ret_int HK2.out.symm, HFW.out.trans HF2.out⟩
    · obtain rfl : k = zs.length := by omega
      have hkk := HK.out
      rw [List.drop_length, difF] at hkk
      have HE2 := Lib.hid hkk
      clear hkk
      go_wp2_with fail
      go_ret
      exact ⟨ret_int HE2.out.symm, HFW.out⟩
end Go.Proofs.Ytflllkamdihfaaa
