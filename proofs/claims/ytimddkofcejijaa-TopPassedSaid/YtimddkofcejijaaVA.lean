/- Layer 2, of layer 1: what a worth and claims are, and that a list is sorted by a closure. -/
import Derived.Test.YtimddkofcejijaaRows
import Derived.WalkKit
import Derived.WalkSpells
import Derived.WalkLawsBesides
import Derived.RegionTactic
import Derived.BigRegion
import Derived.Deep.RegionHeld3
import Derived.Deep.RegionWith
import Derived.Deep.QuietTactic
import Derived.BigQuiet
import Derived.Lib.Hide
import Derived.Shelf.SlSortCmp.Insertion
import Derived.IntWalk
namespace Go.Proofs.Ytimddkofcejijaa.Cl
open Go.RowKit
set_option maxRecDepth 100000
abbrev row5 (a b c d e : Int) : Value := .agg #[.int .i64 a, .int .i64 b, .int .i64 c, .int .i64 d, .int .i64 e]
abbrev hv (n x a b c d e : Int) : Value := .agg #[.int .i64 n, .int .i64 x, .int .i64 a, .int .i64 b, .int .i64 c, .int .i64 d, .int .i64 e]
abbrev Pt (a : Int) : Prop := 0 ≤ a ∧ a ≤ 1000000
theorem bcell {W w1 : World} (hb : Below W.heap.size W w1) : (∀ b o, b < W.heap.size → w1.cell? ⟨b, o, none⟩ = W.cell? ⟨b, o, none⟩) ∧ (∀ b o, b < W.heap.size → w1.frozen? ⟨b, o, none⟩ = W.frozen? ⟨b, o, none⟩) :=
        ⟨fun b o h => hb.cell (p := ⟨b, o, none⟩) h, fun b o h => hb.frozen (p := ⟨b, o, none⟩) h⟩
/-- a list's element. -/
def nth (zs : List Int) (k : Nat) : Int := zs[k]?.getD 0
theorem nth_eq (zs : List Int) (k : Nat) : nth zs k = zs[k]?.getD 0 := rfl
/-- the slice at a reads as these numbers. -/
def IntsAt (w : World) (a : Option Addr) (zs : List Int) : Prop :=
  ∀ j, j < zs.length → ∃ b off, a = some ⟨b, off, none⟩ ∧ b < w.heap.size ∧ w.cell? ⟨b, off + j, none⟩ = some (.int .i64 (nth zs j))
theorem IntsAt.below {w w' : World} {a : Option Addr} {zs : List Int} (h : IntsAt w a zs) (hb : Below w.heap.size w w') : IntsAt w' a zs := fun j hj => by
  obtain ⟨b, off, rfl, h1, h2⟩ := h j hj
  exact ⟨b, off, rfl, Nat.lt_of_lt_of_le h1 hb.size, by rw [← h2]; exact hb.cell (p := ⟨b, off + j, none⟩) h1⟩
theorem ret_int {k : IntKind} {a b : Int} (h : a = b) : Ending.returned (.int k a) = .returned (.int k b) := by rw [h]
theorem ret_int2 {k l : IntKind} {a b c d : Int} (h : a = b) (h' : c = d) : Ending.returned (.tuple #[.int k a, .int l c]) = .returned (.tuple #[.int k b, .int l d]) := by rw [h, h']
theorem ret_bool {a b : Bool} (h : a = b) : Ending.returned (.bool a) = .returned (.bool b) := by rw [h]
def isClaimB (c : Int) : Bool := decide (1 ≤ c ∧ c ≤ 1000)
def chk (x : Int) (zs : List Int) : Int := if zs.length = 0 then 4 else if 5 < zs.length then 3 else if zs.all isClaimB && decide (0 ≤ x) && decide (x ≤ zs.sum) then 0 else 1
theorem take_succ' (zs : List Int) (k : Nat) (hk : k < zs.length) : zs.take (k + 1) = zs.take k ++ [nth zs k] := by
  rw [List.take_add_one, nth_eq, List.getElem?_eq_getElem hk]; rfl
theorem sum_snoc (l : List Int) (x : Int) : (l ++ [x]).sum = l.sum + x := by simp
theorem isClaim_any (c : Int) (w : World) : Calls Try.prog 119 #[.int .i64 c] w fun e w' => e = .returned (.bool (isClaimB c)) ∧ w = w' := by
  go_enter Try.func119, Try.ntmps119
  go_wp2
  all_goals
    go_ret
    exact ⟨ret_bool (by simp [isClaimB]; omega), rfl⟩
theorem check_loop (zs : List Int) (k : Nat) (hk : k < zs.length) (h : (zs.take k).all isClaimB = true) (hs : 0 ≤ (zs.take k).sum ∧ (zs.take k).sum ≤ 1000 * k) (hc : isClaimB (nth zs k) = true) :
    (zs.take (k+1)).all isClaimB = true ∧ (0 ≤ (zs.take (k+1)).sum ∧ (zs.take (k+1)).sum ≤ 1000 * ((k + 1 : Nat) : Int)) ∧ (zs.take k).sum + nth zs k = (zs.take (k+1)).sum := by
  rw [take_succ' zs k hk, sum_snoc]
  have : 1 ≤ (nth zs k) ∧ (nth zs k) ≤ 1000 := by simpa [isClaimB] using hc
  refine ⟨by simp [h, hc], ⟨by omega, by omega⟩, rfl⟩
theorem check_any (x : Int) (a : Option Addr) (cap : Nat) (zs : List Int) (w : World) (hl : zs.length ≤ 9223372036854775807) (hA : IntsAt w a zs) : Calls Try.prog 107 #[.int .i64 x, .slice a zs.length cap] w fun e w' => e = .returned (.int .i64 (chk x zs)) ∧ w = w' := by
  by_cases h0 : zs.length = 0
  · have e : chk x zs = 4 := by simp [chk, h0]
    rw [e]; rw [h0]; clear e
    go_enter Try.func107, Try.ntmps107
    go_wp2
    go_ret
    exact ⟨rfl, rfl⟩
  by_cases h5 : 5 < zs.length
  · have e : chk x zs = 3 := by simp [chk, h0, h5]
    rw [e]; clear e
    go_enter Try.func107, Try.ntmps107
    go_wp2
    go_ret
    exact ⟨rfl, rfl⟩
  have H : Hid (∀ b, ((zs.all isClaimB && decide (0 ≤ x) && decide (x ≤ zs.sum)) = b) → chk x zs = if b then 0 else 1) := fun b hb => by rw [← hb]; simp only [chk, h0, h5, if_false]
  have hz : ((zs.length : Int) == 0) = false := by rw [beq_eq_false_iff_ne]; omega
  go_enter Try.func107, Try.ntmps107
  go_wp2
  go_loop [5, 16] (fun s i => ∃ k : Nat, k ≤ zs.length ∧ i = .int .i64 k ∧ s = .int .i64 (zs.take k).sum ∧ (zs.take k).all isClaimB = true ∧ (0 ≤ (zs.take k).sum ∧ (zs.take k).sum ≤ 1000 * k)) (fun _ i => zs.length - (intOf i).toNat)
  case atStart => exact ⟨0, Nat.zero_le _, rfl, rfl, by simp, by simp⟩
  case round =>
    obtain ⟨k, hk, rfl, rfl, hall, hs1, hs2⟩ := hrel
    by_cases hlt : k < zs.length
    · obtain ⟨b, off, rfl, hb, hcell⟩ := hA k hlt
      by_cases hc : isClaimB (nth zs k) = true
      · have hn := check_loop zs k hlt hall ⟨hs1, hs2⟩ hc
        have H2 := Lib.hid hn; clear hn
        have H3 := Lib.hid hall; clear hall hA
        have hcb : 1 ≤ (nth zs k) ∧ (nth zs k) ≤ 1000 := by simpa [isClaimB] using hc
        obtain ⟨hc1, hc2⟩ := hcb
        go_wp2_with (go_at_call 119; refine (isClaim_any _ _).mono ?_; rintro e w' ⟨rfl, rfl⟩)
        go_round
        case rel => exact ⟨k + 1, by omega, by go_num, by rw [H2.out.2.2], H2.out.1, H2.out.2.1⟩
        case measure => simp [intOf]; omega
      · have hcf : isClaimB (nth zs k) = false := by simpa using hc
        have e : chk x zs = 1 := by
          refine H.out false ?_
          have : zs.all isClaimB = false := by
            rw [List.all_eq_false]
            exact ⟨nth zs k, by rw [nth_eq, List.getElem?_eq_getElem hlt]; simp, by simp [hcf]⟩
          simp [this]
        have E := Lib.hid e; clear e hc H hA hall
        go_wp2_with (go_at_call 119; refine (isClaim_any _ _).mono ?_; rintro e w' ⟨rfl, rfl⟩)
        go_ret
        exact ⟨ret_int E.out.symm, rfl⟩
    · obtain rfl : k = zs.length := by omega
      have e : zs.take zs.length = zs := List.take_length
      rw [e] at hall hs1 hs2 ⊢
      have e2 : ∀ b, (decide (0 ≤ x) && decide (x ≤ zs.sum)) = b → chk x zs = if b then 0 else 1 := fun b hb => H.out b (by rw [hall, ← hb]; simp)
      have E2 := Lib.hid e2
      clear e2 H hA hall e
      go_wp2
      all_goals
        go_ret
        refine ⟨ret_int ?_, rfl⟩
        first
        | (rw [E2.out true (by simp; omega)]; rfl)
        | (rw [E2.out false (by simp; omega)]; rfl)
open Go.Sort
def sRen : Go.Shelf.Ren := ⟨fun | 20 => 130 | n => n, fun | 22 => 25 | 24 => 3 | 25 => 98 | n => n, fun n => n⟩
theorem sLay : SlLaysF.n20 Try.prog sRen :=
  { mixed := (by kernel_rfl)
    f20 := ⟨Try.f130.name, by decide, Try.func130.trans (congrArg some (by kernel_rfl))⟩
    t0 := Try.underlying0
    a0 := Try.isAgg0
    z0 := Try.sizeOf0
    v0 := Try.zeroValue0
    t3 := Try.underlying3
    a3 := Try.isAgg3
    z3 := Try.sizeOf3
    v3 := Try.zeroValue3
    t4 := Try.underlying4
    a4 := Try.isAgg4
    z4 := Try.sizeOf4
    v4 := Try.zeroValue4
    t22 := Try.underlying25
    a22 := Try.isAgg25
    z22 := Try.sizeOf25
    v22 := Try.zeroValue25
    a24 := Try.isAgg3
    z24 := Try.sizeOf3
    t25 := Try.underlying98
    a25 := Try.isAgg98
    z25 := Try.sizeOf98
    v25 := Try.zeroValue98 }
def cmpI (x y : Int) : Int := if x < y then -1 else if y < x then 1 else 0
theorem isNaN_any (x : Int) (w : World) : Calls Try.prog 121 #[.int .i64 x] w fun e w' => e = .returned (.bool false) ∧ w = w' := by
  go_enter Try.func121, Try.ntmps121
  go_wp2
  go_ret
  exact ⟨ret_bool (by simp), rfl⟩
theorem compare_any (x y : Int) (w : World) : Calls Try.prog 112 #[.int .i64 x, .int .i64 y] w fun e w' => e = .returned (.int .i64 (cmpI x y)) ∧ w = w' := by
  have H : Hid (cmpI x y = if x < y then -1 else if y < x then 1 else 0) := rfl
  generalize cmpI x y = r at H ⊢
  go_enter Try.func112, Try.ntmps112
  go_wp2_with (go_at_call 121; refine (isNaN_any _ _).mono ?_; rintro e w' ⟨rfl, rfl⟩)
  all_goals
    go_ret
    refine ⟨ret_int ?_, rfl⟩
    rw [H.out]
    split <;> (try split) <;> omega
abbrev enc5 (i : Fin 5) : Value := .int .i64 (i.val : Int)
/-- The five cells of a row of parts. -/
def cells5 (f : Fin 5 → Int) : Array Value := #[.int .i64 (f 0), .int .i64 (f 1), .int .i64 (f 2), .int .i64 (f 3), .int .i64 (f 4)]
theorem closure_any (f : Fin 5 → Int) (i j : Fin 5) (mb : Nat) (W : World) (hm : ∀ k : Fin 5, W.cell? ⟨mb, k.val, none⟩ = some (.int .i64 (f k))) :
    Calls Try.prog 111 #[enc5 i, enc5 j, .pointer (some ⟨mb, 0, none⟩)] W fun e w' => e = .returned (.int .i64 (cmpI (f i) (f j))) ∧ ∃ q, w' = W.drewN q := by
  have hi := hm i
  have hj := hm j
  have bi := i.isLt
  have bj := j.isLt
  clear hm
  generalize f i = x at hi ⊢
  generalize f j = y at hj ⊢
  obtain ⟨i, _⟩ := i
  obtain ⟨j, _⟩ := j
  dsimp only at *
  have bi' : (i : Int) < 5 := by omega
  have bj' : (j : Int) < 5 := by omega
  generalize hz : cmpI x y = z
  have HC : Hid (∀ w, Calls Try.prog 112 #[.int .i64 x, .int .i64 y] w fun e w' => e = .returned (.int .i64 z) ∧ w = w') := fun w => by rw [← hz]; exact compare_any x y w
  clear hz
  go_enter Try.func111, Try.ntmps111
  go_wp2
  go_quiet ((go_at_call 112; exact Calls.quiet_of_same ((HC.out _).mono fun _ _ h => ⟨h.1, h.2.symm⟩)))
  go_wp2
  go_ret
  exact ⟨rfl, _, rfl⟩
theorem cell_sortWorld {α : Type} [Inhabited α] (enc : α → Value) (w : World) (blk off m : Nat) (dk : Array α) (os : Array Obj) (a : Addr) (hne : a.block ≠ blk) (hlt : a.block < w.heap.size) :
    (sortWorld enc w blk off m dk os).cell? a = w.cell? a := by
  unfold sortWorld
  rw [cell?_grow (h := by simpa using hlt), cell?_putRow_other _ _ _ _ _ _ (.inl hne)]
  rfl
theorem reads_any (f : Fin 5 → Int) (mb blk size : Nat) (w : World) (hne : mb ≠ blk) (hlt : mb < w.heap.size) (hm : ∀ k : Fin 5, w.cell? ⟨mb, k.val, none⟩ = some (.int .i64 (f k))) :
    CmpReads Try.prog 111 #[.pointer (some ⟨mb, 0, none⟩)] enc5 (fun i j => cmpI (f i) (f j)) blk 0 size w := fun m os dk hdk x y =>
  closure_any f x y mb _ fun k => by rw [cell_sortWorld _ _ _ _ _ _ _ ⟨mb, k.val, none⟩ hne hlt]; exact hm k
theorem oneCell5 : OneCell enc5 := fun _ => rfl
abbrev sorted5 (f : Fin 5 → Int) (d : Array (Fin 5)) : Array (Fin 5) := Sort.insertionSort (ltOf fun i j => cmpI (f i) (f j)) d 0 d.size
theorem insert_any (f : Fin 5 → Int) (mb blk cap : Nat) (d : Array (Fin 5)) (w : World) (hne : mb ≠ blk) (hlt : mb < w.heap.size) (hm : ∀ k : Fin 5, w.cell? ⟨mb, k.val, none⟩ = some (.int .i64 (f k)))
    (hH : Holds enc5 w blk 0 d) (hd : d.size ≤ 5) :
    Calls Try.prog 130 #[.slice (some ⟨blk, 0, none⟩) d.size cap, .int .i64 0, .int .i64 d.size, .func (.func 111) #[] #[.pointer (some ⟨mb, 0, none⟩)]] w fun e w' =>
      e = .returned (.tuple #[]) ∧ ∃ n, w' = (putRow enc5 w blk 0 (sorted5 f d)).drewN n :=
  Any.insertionSortCmpFunc_one sLay enc5 oneCell5 (fun i j => cmpI (f i) (f j)) 111 #[.pointer (some ⟨mb, 0, none⟩)] blk 0 cap 0 d.size d w (enters_of Try.func111 (by kernel_rfl) rfl) (reads_any f mb blk d.size w hne hlt hm) hH (Nat.zero_le _) (Nat.le_refl _) (by omega)
theorem stable_any (f : Fin 5 → Int) (mb blk cap : Nat) (d : Array (Fin 5)) (w : World) (hne : mb ≠ blk) (hlt : mb < w.heap.size) (hm : ∀ k : Fin 5, w.cell? ⟨mb, k.val, none⟩ = some (.int .i64 (f k)))
    (hH : Holds enc5 w blk 0 d) (hd : d.size ≤ 5) :
    Calls Try.prog 120 #[.slice (some ⟨blk, 0, none⟩) d.size cap, .int .i64 d.size, .func (.func 111) #[] #[.pointer (some ⟨mb, 0, none⟩)]] w fun e w' =>
      e = .returned (.tuple #[]) ∧ ∃ n, w' = (putRow enc5 w blk 0 (sorted5 f d)).drewN n := by
  have hcon := insert_any f mb blk cap d w hne hlt hm hH hd
  generalize sorted5 f d = r at hcon ⊢
  clear hm hH hne hlt
  have H := Lib.hid hcon; clear hcon
  have hd' : (d.size : Int) < 20 := by omega
  go_enter Try.func120, Try.ntmps120
  go_wp2_with fail
  refine wp_loop_rounds 1 ?_
  rw [rounds_succ]
  go_wp2_with (go_at_call 130; refine (H.out).mono ?_; rintro e w' ⟨rfl, n, rfl⟩)
  refine wp_loop_rounds 1 ?_
  rw [rounds_succ]
  go_wp2
  go_end0
  exact ⟨rfl, n, rfl⟩
theorem sort_any (f : Fin 5 → Int) (mb blk cap : Nat) (d : Array (Fin 5)) (w : World) (hne : mb ≠ blk) (hlt : mb < w.heap.size) (hm : ∀ k : Fin 5, w.cell? ⟨mb, k.val, none⟩ = some (.int .i64 (f k)))
    (hH : Holds enc5 w blk 0 d) (hd : d.size ≤ 5) :
    Calls Try.prog 110 #[.slice (some ⟨blk, 0, none⟩) d.size cap, .func (.func 111) #[] #[.pointer (some ⟨mb, 0, none⟩)]] w fun e w' =>
      e = .returned (.tuple #[]) ∧ ∃ n, w' = (putRow enc5 w blk 0 (sorted5 f d)).drewN n := by
  have hcon := stable_any f mb blk cap d w hne hlt hm hH hd
  generalize sorted5 f d = r at hcon ⊢
  clear hm hH hne hlt
  have H := Lib.hid hcon; clear hcon
  go_enter Try.func110, Try.ntmps110
  go_wp2_with (go_at_call 120; refine (H.out).mono ?_; rintro e w' ⟨rfl, n, rfl⟩)
  go_end0
  exact ⟨rfl, n, rfl⟩
end Go.Proofs.Ytimddkofcejijaa.Cl
