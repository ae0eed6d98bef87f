/- firstBar: firstBar_any -/
import Derived.Test.YtflllkamdihfaaaLU
import Derived.Test.YtflllkamdihfaaaLV
import Derived.Test.YtflllkamdihfaaaLI
namespace Go.Proofs.Ytflllkamdihfaaa
open Go.RowKit Go.Sort
/-- the first bar that begins with one of the corners from i on. -/
def fbL (g : List Int → Nat → Option (List Int)) (S : List Int) : Nat → Nat → Option (List Int)
  | 0, _ => none
  | f + 1, i => match g (S ++ [(i : Int)]) (i + 1) with
    | some R => some ((i : Int) :: R)
    | none => fbL g S f (i + 1)
def fbE (c m : Int) (Y T : List Int) : Nat → List Int → Nat → Option (List Int)
  | 0, S, _ => if barB c m S Y T = true then some [] else none
  | k + 1, S, i => fbL (fun S' i' => fbE c m Y T k S' i') S (m.toNat - i) i
theorem fbL_len {g : List Int → Nat → Option (List Int)} {k : Nat} (hg : ∀ S i R, g S i = some R → R.length = k) {S : List Int} : ∀ (f i : Nat) (R : List Int), fbL g S f i = some R → R.length = k + 1
  | 0, _, _, h => by rw [fbL] at h; cases h
  | f + 1, i, R, h => by
    rw [fbL] at h
    cases hgi : g (S ++ [(i : Int)]) (i + 1) with
    | some R' =>
      rw [hgi] at h
      cases h
      rw [List.length_cons, hg _ _ _ hgi]
    | none =>
      rw [hgi] at h
      exact fbL_len hg f (i + 1) R h
theorem fb_len (c m : Int) (Y T : List Int) : ∀ (k : Nat) (S : List Int) (i : Nat) (R : List Int), fbE c m Y T k S i = some R → R.length = k
  | 0, S, i, R, h => by
    rw [fbE] at h
    split at h
    · cases h; rfl
    · cases h
  | k + 1, S, i, R, h => fbL_len (fun S' i' R' h' => fb_len c m Y T k S' i' R' h') _ _ _ h
/-- a bar and whether there is one. -/
def TupO (E : Option (List Int)) (w : World) (e : Ending) (w' : World) : Prop := ∃ l lc, e = .returned (.tuple #[.slice l (E.getD []).length lc, .bool E.isSome]) ∧ (E.getD []).length ≤ lc ∧ IntsAt w' l (E.getD []) ∧ Fut w w'
theorem TupO.none {w w' : World} (F : Fut w w') : TupO none w (.returned (.tuple #[.slice none 0 0, .bool false])) w' := ⟨Option.none, 0, rfl, Nat.le_refl _, fun j hj => absurd hj (by simp), F⟩
theorem TupO.nil {w w' : World} (F : Fut w w') : TupO (some []) w (.returned (.tuple #[.slice Option.none 0 0, .bool true])) w' := ⟨Option.none, 0, rfl, Nat.le_refl _, fun j hj => absurd hj (by simp), F⟩
set_option maxRecDepth 100000 in
set_option maxHeartbeats 8000000 in
theorem firstBar_any (r c m : Int) (hs : Side r c m) (ya : Option Addr) (yc : Nat) (Y : List Int) (ta : Option Addr) (tc : Nat) (T : List Int) : ∀ (k : Nat) (i : Nat) (a : Option Addr) (cap : Nat) (S : List Int) (w : World), k ≤ 3 → i ≤ m.toNat → S.length + k ≤ 1000 → InPQ w a S ya yc Y ta tc T →
    Calls Try.prog 93 #[parV r c a S.length cap, plaV ya Y.length yc ta T.length tc, .int .i64 (k : Int), .int .i64 (i : Int)] w (TupO (fbE c m Y T k S i) w) := by
  intro k
  induction k with
  | zero =>
    intro i a cap S w hk him hl h
    have hA : Fut w ((w.alloc (.cells #[.int .i64 r, .int .i64 c, .slice a S.length cap] 24)).alloc (.cells #[.slice ya Y.length yc, .slice ta T.length tc] 26)) := (Fut.alloc _ _).trans (Fut.alloc _ _)
    have hBP := (BoxP.new w r c a S.length cap).fut (Fut.alloc _ (.cells #[.slice ya Y.length yc, .slice ta T.length tc] 26))
    have hBQ := BoxQ.new (w.alloc (.cells #[.int .i64 r, .int .i64 c, .slice a S.length cap] 24)) ya Y.length yc ta T.length tc
    rw [World.size_alloc] at hBQ
    have HIB := Lib.hid (fun W (F : Fut w W) => isBarred_any r c m hs a cap S ya yc Y ta tc T W (h.fut F))
    have HA := Lib.hid hA
    obtain ⟨_, p0, p1, p2⟩ := hBP
    obtain ⟨_, q0, q1⟩ := hBQ
    rw [fbE]
    generalize barB c m S Y T = b at *
    obtain ⟨E, HE⟩ : ∃ E : Option (List Int), Hid (E = if b = true then some [] else none) := ⟨_, Lib.hid rfl⟩
    rw [← HE.out]
    show Calls Try.prog 93 #[parV r c a S.length cap, plaV ya Y.length yc ta T.length tc, .int .i64 0, .int .i64 (i : Int)] w _
    clear hA h hs
    go_enter Try.func93, Try.ntmps93
    go_wp2_with fail
    refine (HIB.out _ HA.out).mono ?_
    rintro _ w2 ⟨rfl, F⟩
    have HF2 := Lib.hid (HA.out.trans F)
    clear p0 p1 p2 q0 q1 F
    go_wp2_with fail
    go_ret2
    rw [HE.out]
    cases b
    · exact TupO.none HF2.out
    · exact TupO.nil HF2.out
  | succ k ih =>
    intro i a cap S w hk him hl h
    have hA : Fut w ((w.alloc (.cells #[.int .i64 r, .int .i64 c, .slice a S.length cap] 24)).alloc (.cells #[.slice ya Y.length yc, .slice ta T.length tc] 26)) := (Fut.alloc _ _).trans (Fut.alloc _ _)
    have hBP := (BoxP.new w r c a S.length cap).fut (Fut.alloc _ (.cells #[.slice ya Y.length yc, .slice ta T.length tc] 26))
    have hBQ := BoxQ.new (w.alloc (.cells #[.int .i64 r, .int .i64 c, .slice a S.length cap] 24)) ya Y.length yc ta T.length tc
    rw [World.size_alloc] at hBQ
    have HCO := Lib.hid (fun W => corners_any r c m hs a S.length cap W)
    have HST := Lib.hid (fun (x : Int) la W (F : Fut w W) (hI : IntsAt W la [x]) => shutToo_any r c a cap S la 1 [x] W (h.s.fut F) (by omega) hI (by simp))
    have HIH := Lib.hid (fun (x : Int) (i' : Nat) (iv : Int) (hv : (i' : Int) = iv) (a' : Option Addr) (cap' : Nat) W (F : Fut w W) (hi : i' ≤ m.toNat) (hI : IntsAt W a' (S ++ [x])) => show Calls Try.prog 93 #[parV r c a' (S.length + 1) cap', plaV ya Y.length yc ta T.length tc, .int .i64 (k : Int), .int .i64 iv] W (TupO (fbE c m Y T k (S ++ [x]) i') W) by
      subst hv
      have h9 := ih i' a' cap' (S ++ [x]) W (by omega) hi (by simp; omega) ⟨hI, by simp; omega, h.y.fut F, h.yl, h.yc, h.t.fut F, h.tl, h.tc⟩
      rw [List.length_append] at h9
      exact h9)
    have HLN := Lib.hid (fun (x : Int) (i' : Nat) R (e : fbE c m Y T k (S ++ [x]) i' = some R) => fb_len c m Y T k (S ++ [x]) i' R e)
    have hm := hs.m
    have HA := Lib.hid hA
    have HBP := Lib.hid hBP
    have HBQ := Lib.hid hBQ
    rw [fbE]
    obtain ⟨E, HE⟩ : ∃ E : Option (List Int), Hid (E = fbL (fun S' i' => fbE c m Y T k S' i') S (m.toNat - i) i) := ⟨_, Lib.hid rfl⟩
    rw [← HE.out]
    obtain ⟨n, hmn⟩ : ∃ n : Nat, m = (n : Int) := ⟨m.toNat, by omega⟩
    subst hmn
    rw [Int.toNat_natCast] at him HE HIH
    have hm16 : n ≤ 16 := by omega
    have hk0 : (((k + 1 : Nat) : Int) == 0) = false := by simp; omega
    have hk1 : ((k + 1 : Nat) : Int) - 1 = (k : Int) := by omega
    have hkx : ((k + 1 : Nat) : Int) ≤ 3 := by omega
    have hwk : IntKind.i64.wrap (k : Int) = (k : Int) := IntWalk.i64_in _ ⟨by omega, by omega⟩
    generalize fbE c (n : Int) Y T k = g at *
    clear hA h hs hBP hBQ ih hm hl
    go_enter Try.func93, Try.ntmps93
    go_wp2_with fail
    generalize (w.alloc (.cells #[.int .i64 r, .int .i64 c, .slice a S.length cap] 24)).alloc (.cells #[.slice ya Y.length yc, .slice ta T.length tc] 26) = w1 at *
    have HF0 : Hid (Fut w1 w1) := Lib.hid Fut.rfl
    go_loopw [10] (fun iv wr => ∃ j : Nat, j ≤ n ∧ iv = .int .i64 j ∧ Hid (E = fbL (fun S' i' => g S' i') S (n - j) j) ∧ Hid (Fut w1 wr)) (fun iv _ => n - (intOf iv).toNat)
    case atStart => exact ⟨i, him, rfl, HE, HF0⟩
    case round =>
      obtain ⟨j, hj, rfl, HJ, HF⟩ := hrel
      obtain ⟨_, p0, p1, p2⟩ := HBP.out.fut HF.out
      clear HF0 HE him
      go_wp2_with fail
      refine (HCO.out _).mono ?_
      rintro _ w2 ⟨rfl, F⟩
      have HF2 := Lib.hid (HF.out.trans F)
      clear p0 p1 p2 F
      by_cases hjl : j < n
      · have hjx : (j : Int) < n := by omega
        have hjj := HJ.out
        obtain ⟨n2, hn2⟩ : ∃ n2, n - j = n2 + 1 := ⟨n - j - 1, by omega⟩
        rw [hn2, fbL] at hjj
        have hnj : n - (j + 1) = n2 := by omega
        have HJJ := Lib.hid hjj
        clear hjj HJ
        have hBP2 := HBP.out.fut HF2.out
        have hBQ2 := HBQ.out.fut HF2.out
        have hlp := hBP2.lt
        have hlq := hBQ2.lt
        obtain ⟨_, p0, p1, p2⟩ := hBP2
        obtain ⟨_, q0, q1⟩ := hBQ2
        have hwj : IntKind.i64.wrap ((j : Int) + 1) = (j : Int) + 1 := IntWalk.i64_in _ ⟨by omega, by omega⟩
        go_upto_region 6 with fail
        go_region_held3 (fun w' => w'.cell? ⟨w.heap.size, 0, none⟩ = some (.int .i64 r) ∧ w'.cell? ⟨w.heap.size, 1, none⟩ = some (.int .i64 c) ∧ w'.cell? ⟨w.heap.size, 2, none⟩ = some (.slice a S.length cap) ∧ w'.cell? ⟨w.heap.size + 1, 0, none⟩ = some (.slice ya Y.length yc) ∧ w'.cell? ⟨w.heap.size + 1, 1, none⟩ = some (.slice ta T.length tc)) (first | exact hS6 | exact hS5 | exact ⟨p0, p1, p2, q0, q1⟩ | exact ⟨alloc_old _ _ p0, alloc_old _ _ p1, alloc_old _ _ p2, alloc_old _ _ q0, alloc_old _ _ q1⟩)
          (first
            | (go_at_call 95; refine (HST.out (j : Int) (some ⟨w2.heap.size, 0, none⟩) _ (HA.out.trans (HF2.out.trans ((Fut.alloc w2 (.cells #[.int .i64 (j : Int)] 3)).trans (Fut.drewN _ 1)))) ((ints_new w2 [(j : Int)]).fut (Fut.drewN _ 1))).mono ?_; rintro _ w5 ⟨a5, c5, rfl, _, hI5, F5⟩; have FA5 : Fut w2 w5 := ((Fut.alloc w2 (.cells #[.int .i64 (j : Int)] 3)).trans (Fut.drewN _ 1)).trans F5; have hS5 : w5.cell? ⟨w.heap.size, 0, none⟩ = some (.int .i64 r) ∧ w5.cell? ⟨w.heap.size, 1, none⟩ = some (.int .i64 c) ∧ w5.cell? ⟨w.heap.size, 2, none⟩ = some (.slice a S.length cap) ∧ w5.cell? ⟨w.heap.size + 1, 0, none⟩ = some (.slice ya Y.length yc) ∧ w5.cell? ⟨w.heap.size + 1, 1, none⟩ = some (.slice ta T.length tc) := ⟨(RowKit.Below.cell FA5 (p := ⟨w.heap.size, 0, none⟩) hlp).trans p0, (RowKit.Below.cell FA5 (p := ⟨w.heap.size, 1, none⟩) hlp).trans p1, (RowKit.Below.cell FA5 (p := ⟨w.heap.size, 2, none⟩) hlp).trans p2, (RowKit.Below.cell FA5 (p := ⟨w.heap.size + 1, 0, none⟩) hlq).trans q0, (RowKit.Below.cell FA5 (p := ⟨w.heap.size + 1, 1, none⟩) hlq).trans q1⟩)
            | (go_at_call 93; refine (HIH.out (j : Int) (j + 1) ((j : Int) + 1) (by omega) a5 c5 w5 (HA.out.trans (HF2.out.trans FA5)) (by omega) hI5).mono ?_; rintro _ w6 ⟨l6, lc6, rfl, hl6, hI6, F6⟩; have hS6 : w6.cell? ⟨w.heap.size, 0, none⟩ = some (.int .i64 r) ∧ w6.cell? ⟨w.heap.size, 1, none⟩ = some (.int .i64 c) ∧ w6.cell? ⟨w.heap.size, 2, none⟩ = some (.slice a S.length cap) ∧ w6.cell? ⟨w.heap.size + 1, 0, none⟩ = some (.slice ya Y.length yc) ∧ w6.cell? ⟨w.heap.size + 1, 1, none⟩ = some (.slice ta T.length tc) := ⟨(RowKit.Below.cell F6 (p := ⟨w.heap.size, 0, none⟩) (World.block_lt_of_cell? _ _ hS5.1)).trans hS5.1, (RowKit.Below.cell F6 (p := ⟨w.heap.size, 1, none⟩) (World.block_lt_of_cell? _ _ hS5.2.1)).trans hS5.2.1, (RowKit.Below.cell F6 (p := ⟨w.heap.size, 2, none⟩) (World.block_lt_of_cell? _ _ hS5.2.2.1)).trans hS5.2.2.1, (RowKit.Below.cell F6 (p := ⟨w.heap.size + 1, 0, none⟩) (World.block_lt_of_cell? _ _ hS5.2.2.2.1)).trans hS5.2.2.2.1, (RowKit.Below.cell F6 (p := ⟨w.heap.size + 1, 1, none⟩) (World.block_lt_of_cell? _ _ hS5.2.2.2.2)).trans hS5.2.2.2.2⟩))
        have HF6 := Lib.hid (HF2.out.trans (FA5.trans F6))
        have HI6 := Lib.hid hI6
        have HLJ := Lib.hid (HLN.out (j : Int) (j + 1))
        clear hI6 hl6 F6 FA5 F5 hI5 hS5 hS6 p0 p1 p2 q0 q1 hlp hlq HLN hwk hwj
        obtain ⟨i0, hi0, hz0, hz1, hz2⟩ := info_parts info3
        generalize g (S ++ [(j : Int)]) (j + 1) = og at *
        cases og with
        | none =>
          have HJ2 : Hid (E = fbL (fun S' i' => g S' i') S (n - (j + 1)) (j + 1)) := Lib.hid (by rw [hnj]; exact HJJ.out)
          clear HJJ hn2 hnj
          go_wp2_with fail
          go_roundw
          all_goals first
            | exact ⟨j + 1, by omega, by go_num, HJ2, HF6⟩
            | ((repeat apply Exists.intro); exact ⟨⟨j + 1, by omega, by go_num, HJ2, HF6⟩, rfl⟩)
            | (simp [intOf]; omega)
        | some R =>
          have hRl : R.length ≤ 3 := by have := HLJ.out R rfl; omega
          have HEE : Hid (E = some ((j : Int) :: R)) := Lib.hid HJJ.out
          clear HLJ HJJ hn2 hnj
          simp only [Option.getD_some, Option.isSome_some] at *
          have hOW : (w6.alloc (.cells #[.int .i64 (j : Int)] 3)).ownsRow w6.heap.size 3 1 (.slice (some ⟨w6.heap.size, 0, none⟩) 1 1) 1 [.int .i64 (j : Int)] := World.ownsRow_lit w6 #[.int .i64 (j : Int)] 1 (Nat.le_refl _) (by unfold maxLen; omega) rfl
          have HOW := Lib.hid hOW
          clear hOW
          cases l6 with
          | none =>
            obtain rfl : R = [] := by
              cases R with
              | nil => rfl
              | cons p t => obtain ⟨b, o, e, _⟩ := HI6.out 0 (by simp); cases e
            go_wp2_with (at_builtin; refine wpList_append_nothing rfl _ _ rfl w6.heap.size 1 lc6 (.slice (some ⟨w6.heap.size, 0, none⟩) 1 1) [.int .i64 (j : Int)] rfl HOW.out rfl ?_)
            go_wp2_with fail
            go_ret2
            rw [HEE.out]
            exact ⟨some ⟨w6.heap.size, 0, none⟩, 1, rfl, Nat.le_refl _, ints_new w6 [(j : Int)], (HA.out.trans HF6.out).trans (Fut.alloc _ _)⟩
          | some ad =>
            have HNW : Hid (∀ x u, (R.map (Value.int .i64))[x]? = some u → (w6.alloc (.cells #[.int .i64 (j : Int)] 3)).cell? (ad.add x) = some u) := Lib.hid (fun x u hx => by
              have hlt : x < R.length := by simpa using (List.getElem?_eq_some_iff.1 hx).1
              obtain ⟨b, o, e, _, hc⟩ := (HI6.out.fut (Fut.alloc w6 (.cells #[.int .i64 (j : Int)] 3))) x hlt
              simp only [Option.some.injEq] at e
              subst e
              rw [Addr.add_lit, hc, ← hx, nth_eq]
              simp [List.getElem?_eq_getElem hlt])
            go_wp2_with (at_builtin; refine wpList_append_own _ rfl _ _ 22 rfl w6.heap.size 3 i0 (.int .i64 0) 1 8 Try.underlying22 hi0 hz0 hz1 hz2 rfl (by decide) _ 1 [.int .i64 (j : Int)] rfl HOW.out ad R.length lc6 (R.map (.int .i64)) rfl (by simp) HNW.out (by intro u hu; obtain ⟨z, _, rfl⟩ := List.mem_map.1 hu; rfl) (by unfold maxLen; omega) (by omega) (by simp) ?_)
            intro v' w7 hown' hgrow _
            have hO7 : Owns w7 w6.heap.size v' ((j : Int) :: R) := by
              unfold Owns
              rw [List.length_cons, Nat.add_comm]
              exact hown'
            have HF7 : Hid (Fut w6 w7) := Lib.hid (RowKit.Below.grown (Fut.alloc w6 (.cells #[.int .i64 (j : Int)] 3)) hgrow (by simp) fun q hq => (World.ownsRow.lt HOW.out q hq).1)
            obtain ⟨l7, c7, rfl, hc7, _⟩ := hO7.form
            obtain ⟨l8, c8, e8, hI7⟩ := hO7.ints
            cases e8
            have HI7 := Lib.hid hI7
            have HC7 := Lib.hid hc7
            clear hown' hgrow hO7 hI7 hc7
            go_wp2_with fail
            go_ret2
            rw [HEE.out]
            exact ⟨_, _, rfl, HC7.out, HI7.out, HA.out.trans (HF6.out.trans HF7.out)⟩
      · obtain rfl : n = j := by omega
        have hjj := HJ.out
        rw [Nat.sub_self, fbL] at hjj
        go_wp2_with fail
        go_ret2
        rw [hjj]
        exact TupO.none (HA.out.trans HF2.out)
end Go.Proofs.Ytflllkamdihfaaa
