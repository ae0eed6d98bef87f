/- Layer 2: the maps of the examples, and equal lists. -/
import Derived.Test.YtimddkofcejijaaRY
namespace Go.Proofs.Ytimddkofcejijaa
open Go.RowKit Go.Sort
def AS : List (Int × Int) := [(0, 1), (1, 2), (2, 3), (0, 3)]
def BS : List (Int × Int) := [(0, 1), (0, 2), (0, 3)]
def CS : List (Int × Int) := [(0, 1), (1, 2), (0, 2), (2, 3)]
def DS : List (Int × Int) := [(0, 1), (0, 2), (0, 3), (1, 2), (1, 3), (2, 3)]
theorem vA : chkM 4 AS = 0 := by decide +kernel
theorem vB : chkM 4 BS = 0 := by decide +kernel
theorem vC : chkM 4 CS = 0 := by decide +kernel
theorem vD : chkM 4 DS = 0 := by decide +kernel
theorem v1 : listM (oddM CS (2 ^ CS.length - 1)) = [2, 3] := by decide +kernel
theorem v2 : fewR 4 DS = [0, 5] := by decide +kernel
theorem v3 : countR 4 DS = 8 := by decide +kernel
theorem v4 : roundL 4 CS [3] = [0, 1, 3, 3, 2] := by decide +kernel
theorem v4' : twE 4 CS [3] = 0 := by decide +kernel
theorem v5 : goesR 4 AS [0, 1, 2, 3] = [1, 1, 1, 1] := by decide +kernel
theorem v5' : goesE 4 AS [0, 1, 2, 3] = 0 := by decide +kernel
theorem v6 : cutR 4 AS [0, 1] = [1, 3] := by decide +kernel
theorem v6' : cutE 4 AS [0, 1] = 0 := by decide +kernel
theorem v7 : cutsR 4 CS = [[0, 1, 3]] := by decide +kernel
theorem v8 : cutsR 4 DS = [[0, 1, 2]] := by decide +kernel
theorem v9 : evenR 4 BS = true := by decide +kernel
theorem v10 : evenR 4 DS = false := by decide +kernel
theorem v11 : goesE 4 AS [0, 2] = 12 := by decide +kernel
theorem v12 : twE 4 BS [0, 1] = 14 := by decide +kernel
theorem v13 : provE 4 BS [[1], [2], [3]] = 0 := by decide +kernel
theorem v14 : provE 4 BS [[0], [1]] = 6 := by decide +kernel
theorem k1 : listM (oddM AS (2 ^ AS.length - 1)) = [] := by decide +kernel
theorem k2 : listM (oddM BS (2 ^ BS.length - 1)) = [0, 1, 2, 3] := by decide +kernel
theorem k3 : fewR 4 BS = [0, 1, 2] := by decide +kernel
theorem k4 : fewR 4 CS = [3] := by decide +kernel
theorem k5 : countR 4 AS = 2 := by decide +kernel
theorem k6 : countR 4 BS = 1 := by decide +kernel
theorem k7 : countR 4 CS = 2 := by decide +kernel
theorem k8 : roundL 4 AS [] = [0, 1, 2, 3] := by decide +kernel
theorem k8' : twE 4 AS [] = 0 := by decide +kernel
theorem k9 : roundL 4 BS [0, 1, 2] = [0, 0, 1, 1, 2, 2] := by decide +kernel
theorem k9' : twE 4 BS [0, 1, 2] = 0 := by decide +kernel
theorem k10 : twE 4 CS [0] = 14 := by decide +kernel
theorem k11 : goesE 4 AS [0, 1] = 21 := by decide +kernel
theorem k12 : goesE 4 AS [0, 0] = 4 := by decide +kernel
theorem k13 : cutsR 4 BS = [[0], [1], [2]] := by decide +kernel
theorem k14 : cutsR 4 AS = [] := by decide +kernel
theorem k15 : cutE 4 AS [] = 5 := by decide +kernel
theorem k17 : twE 4 CS [3, 3] = 7 := by decide +kernel
theorem k18 : provE 4 BS [[0, 1]] = 14 := by decide +kernel
theorem k19 : provE 4 BS [[0, 1, 2, 3]] = 5 := by decide +kernel
theorem k20 : chkM 7 [] = 1 := by decide +kernel
theorem k21 : chkM 2 [] = 5 := by decide +kernel
theorem k22 : chkM 2 [(1, 0)] = 7 := by decide +kernel
theorem k23 : chkM 2 [(0, 2)] = 2 := by decide +kernel
theorem ints_new (w : World) (zs : List Int) : IntsAt (w.alloc (.cells (zs.map (Value.int .i64)).toArray 3)) (some ⟨w.heap.size, 0, none⟩) zs := fun j hj => by
  refine ⟨w.heap.size, 0, rfl, by simp, ?_⟩
  rw [World.cell?_alloc_at _ _ _ _ rfl, Nat.zero_add, nth_eq]
  simp [hj]
theorem list_id (v : Value) (w : World) : Calls Try.prog 47 #[v] w fun e w' => e = .returned v ∧ w = w' := by
  go_enter Try.func47, Try.ntmps47
  go_wp2
  go_ret
  exact ⟨rfl, rfl⟩
set_option maxRecDepth 100000 in
theorem st_A (w : World) : Calls Try.prog 44 #[] w fun e w' => ∃ l lc, e = .returned (mapV 4 l 4 lc) ∧ StrAt w' l AS ∧ Fut w w' := by
  have HD := Lib.hid (fun W => drawn_any 4 (some ⟨W.heap.size, 0, none⟩) 8 [0, 1, 1, 2, 2, 3, 0, 3] _ (ints_new W [0, 1, 1, 2, 2, 3, 0, 3]) (by decide))
  go_enter Try.func44, Try.ntmps44
  go_wp2_with fail
  have hR := BoxW.new w (.int .i64 0) (.slice none 0 0) 24
  have hF1 : Fut w (w.alloc (.cells #[.int .i64 0, .slice none 0 0] 24)) := Fut.alloc _ _
  have hz : (w.alloc (.cells #[.int .i64 0, .slice none 0 0] 24)).heap.size = w.heap.size + 1 := by simp
  generalize w.alloc (.cells #[.int .i64 0, .slice none 0 0] 24) = W1 at *
  have HDD := HD.out W1
  rw [hz] at HDD
  rw [show pairsL [0, 1, 1, 2, 2, 3, 0, 3] = AS from rfl, show AS.length = 4 from rfl] at HDD
  refine HDD.mono ?_
  rintro _ w2 ⟨l, lc, rfl, hS, F, hlb⟩
  have hF2 := Fut.trans (Fut.trans hF1 (Fut.alloc W1 _)) F
  have hR2 := hR.fut (Fut.trans (Fut.alloc W1 _) F)
  have HS := Lib.hid hS
  have HF := Lib.hid hF2
  clear hR hF1 hS F hF2 HD
  obtain ⟨r0, r1, r2, r3, r4⟩ := hR2
  go_wp2
  refine bodyPost_ret (v := mapV 4 l 4 lc) (by simp [results, Try.results44, go_sem, *]) rfl ?_
  have hne : ∀ b off, l = some ⟨b, off, none⟩ → b ≠ w.heap.size := fun b off e => by have := hlb b off e; simp at this; omega
  exact ⟨l, lc, rfl, (HS.out.far hne _).far hne _, ((HF.out.setCell (p := ⟨w.heap.size, 0, none⟩) (Nat.le_refl _) _).setCell (p := ⟨w.heap.size, 1, none⟩) (Nat.le_refl _) _)⟩
set_option maxRecDepth 100000 in
theorem st_B (w : World) : Calls Try.prog 45 #[] w fun e w' => ∃ l lc, e = .returned (mapV 4 l 3 lc) ∧ StrAt w' l BS ∧ Fut w w' := by
  have HD := Lib.hid (fun W => drawn_any 4 (some ⟨W.heap.size, 0, none⟩) 6 [0, 1, 0, 2, 0, 3] _ (ints_new W [0, 1, 0, 2, 0, 3]) (by decide))
  go_enter Try.func45, Try.ntmps45
  go_wp2_with fail
  have hR := BoxW.new w (.int .i64 0) (.slice none 0 0) 24
  have hF1 : Fut w (w.alloc (.cells #[.int .i64 0, .slice none 0 0] 24)) := Fut.alloc _ _
  have hz : (w.alloc (.cells #[.int .i64 0, .slice none 0 0] 24)).heap.size = w.heap.size + 1 := by simp
  generalize w.alloc (.cells #[.int .i64 0, .slice none 0 0] 24) = W1 at *
  have HDD := HD.out W1
  rw [hz] at HDD
  rw [show pairsL [0, 1, 0, 2, 0, 3] = BS from rfl, show BS.length = 3 from rfl] at HDD
  refine HDD.mono ?_
  rintro _ w2 ⟨l, lc, rfl, hS, F, hlb⟩
  have hF2 := Fut.trans (Fut.trans hF1 (Fut.alloc W1 _)) F
  have hR2 := hR.fut (Fut.trans (Fut.alloc W1 _) F)
  have HS := Lib.hid hS
  have HF := Lib.hid hF2
  clear hR hF1 hS F hF2 HD
  obtain ⟨r0, r1, r2, r3, r4⟩ := hR2
  go_wp2
  refine bodyPost_ret (v := mapV 4 l 3 lc) (by simp [results, Try.results45, go_sem, *]) rfl ?_
  have hne : ∀ b off, l = some ⟨b, off, none⟩ → b ≠ w.heap.size := fun b off e => by have := hlb b off e; simp at this; omega
  exact ⟨l, lc, rfl, (HS.out.far hne _).far hne _, ((HF.out.setCell (p := ⟨w.heap.size, 0, none⟩) (Nat.le_refl _) _).setCell (p := ⟨w.heap.size, 1, none⟩) (Nat.le_refl _) _)⟩
set_option maxRecDepth 100000 in
theorem st_C (w : World) : Calls Try.prog 46 #[] w fun e w' => ∃ l lc, e = .returned (mapV 4 l 4 lc) ∧ StrAt w' l CS ∧ Fut w w' := by
  have HD := Lib.hid (fun W => drawn_any 4 (some ⟨W.heap.size, 0, none⟩) 8 [0, 1, 1, 2, 0, 2, 2, 3] _ (ints_new W [0, 1, 1, 2, 0, 2, 2, 3]) (by decide))
  go_enter Try.func46, Try.ntmps46
  go_wp2_with fail
  have hR := BoxW.new w (.int .i64 0) (.slice none 0 0) 24
  have hF1 : Fut w (w.alloc (.cells #[.int .i64 0, .slice none 0 0] 24)) := Fut.alloc _ _
  have hz : (w.alloc (.cells #[.int .i64 0, .slice none 0 0] 24)).heap.size = w.heap.size + 1 := by simp
  generalize w.alloc (.cells #[.int .i64 0, .slice none 0 0] 24) = W1 at *
  have HDD := HD.out W1
  rw [hz] at HDD
  rw [show pairsL [0, 1, 1, 2, 0, 2, 2, 3] = CS from rfl, show CS.length = 4 from rfl] at HDD
  refine HDD.mono ?_
  rintro _ w2 ⟨l, lc, rfl, hS, F, hlb⟩
  have hF2 := Fut.trans (Fut.trans hF1 (Fut.alloc W1 _)) F
  have hR2 := hR.fut (Fut.trans (Fut.alloc W1 _) F)
  have HS := Lib.hid hS
  have HF := Lib.hid hF2
  clear hR hF1 hS F hF2 HD
  obtain ⟨r0, r1, r2, r3, r4⟩ := hR2
  go_wp2
  refine bodyPost_ret (v := mapV 4 l 4 lc) (by simp [results, Try.results46, go_sem, *]) rfl ?_
  have hne : ∀ b off, l = some ⟨b, off, none⟩ → b ≠ w.heap.size := fun b off e => by have := hlb b off e; simp at this; omega
  exact ⟨l, lc, rfl, (HS.out.far hne _).far hne _, ((HF.out.setCell (p := ⟨w.heap.size, 0, none⟩) (Nat.le_refl _) _).setCell (p := ⟨w.heap.size, 1, none⟩) (Nat.le_refl _) _)⟩
set_option maxRecDepth 100000 in
theorem st_D (w : World) : Calls Try.prog 53 #[] w fun e w' => ∃ l lc, e = .returned (mapV 4 l 6 lc) ∧ StrAt w' l DS ∧ Fut w w' := by
  have HD := Lib.hid (fun W => drawn_any 4 (some ⟨W.heap.size, 0, none⟩) 12 [0, 1, 0, 2, 0, 3, 1, 2, 1, 3, 2, 3] _ (ints_new W [0, 1, 0, 2, 0, 3, 1, 2, 1, 3, 2, 3]) (by decide))
  go_enter Try.func53, Try.ntmps53
  go_wp2_with fail
  have hR := BoxW.new w (.int .i64 0) (.slice none 0 0) 24
  have hF1 : Fut w (w.alloc (.cells #[.int .i64 0, .slice none 0 0] 24)) := Fut.alloc _ _
  have hz : (w.alloc (.cells #[.int .i64 0, .slice none 0 0] 24)).heap.size = w.heap.size + 1 := by simp
  generalize w.alloc (.cells #[.int .i64 0, .slice none 0 0] 24) = W1 at *
  have HDD := HD.out W1
  rw [hz] at HDD
  rw [show pairsL [0, 1, 0, 2, 0, 3, 1, 2, 1, 3, 2, 3] = DS from rfl, show DS.length = 6 from rfl] at HDD
  refine HDD.mono ?_
  rintro _ w2 ⟨l, lc, rfl, hS, F, hlb⟩
  have hF2 := Fut.trans (Fut.trans hF1 (Fut.alloc W1 _)) F
  have hR2 := hR.fut (Fut.trans (Fut.alloc W1 _) F)
  have HS := Lib.hid hS
  have HF := Lib.hid hF2
  clear hR hF1 hS F hF2 HD
  obtain ⟨r0, r1, r2, r3, r4⟩ := hR2
  go_wp2
  refine bodyPost_ret (v := mapV 4 l 6 lc) (by simp [results, Try.results53, go_sem, *]) rfl ?_
  have hne : ∀ b off, l = some ⟨b, off, none⟩ → b ≠ w.heap.size := fun b off e => by have := hlb b off e; simp at this; omega
  exact ⟨l, lc, rfl, (HS.out.far hne _).far hne _, ((HF.out.setCell (p := ⟨w.heap.size, 0, none⟩) (Nat.le_refl _) _).setCell (p := ⟨w.heap.size, 1, none⟩) (Nat.le_refl _) _)⟩
def sameB (xs ys : List Int) : Bool := decide (xs = ys)
theorem same_any (a c : Option Addr) (cap dap : Nat) (xs ys : List Int) (w : World) (hx : xs.length ≤ 9223372036854775807) (_hy : ys.length ≤ 9223372036854775807) (hA : IntsAt w a xs) (hC : IntsAt w c ys) :
    Calls Try.prog 17 #[.slice a xs.length cap, .slice c ys.length dap] w fun e w' => e = .returned (.bool (sameB xs ys)) ∧ ∃ q, w' = w.drewN q := by
  by_cases hl : xs.length = ys.length
  · have hne : ((xs.length : Int) != ys.length) = false := by simp; omega
    have HS : Hid (∀ b, (xs = ys ↔ b = true) → sameB xs ys = b) := fun b h => by unfold sameB; cases b <;> simp_all
    generalize sameB xs ys = r at HS ⊢
    have HL := Lib.hid hl
    have HA := Lib.hid hA
    have HC := Lib.hid hC
    clear hl hA hC
    go_enter Try.func17, Try.ntmps17
    go_wp2
    go_loopw [5] (fun iv wr => ∃ (k q : Nat), k ≤ xs.length ∧ iv = .int .i64 k ∧ wr = w.drewN q ∧ Hid (∀ j, j < k → nth xs j = nth ys j)) (fun iv _ => xs.length - (intOf iv).toNat)
    case atStart => exact ⟨0, 0, Nat.zero_le _, rfl, rfl, fun j hj => absurd hj (Nat.not_lt_zero _)⟩
    case round =>
      obtain ⟨k, q, hk, rfl, rfl, hal⟩ := hrel
      by_cases hlt : k < xs.length
      · obtain ⟨b, off, rfl, hb, hcell⟩ := HA.out k hlt
        obtain ⟨b', off', rfl, hb', hcell'⟩ := HC.out k (by have := HL.out; omega)
        have hky : (k : Int) < ys.length := by have := HL.out; omega
        have hkx : (k : Int) < xs.length := by omega
        have p1 : (w.drewN q).cell? ⟨b, off + k, none⟩ = some (.int .i64 (nth xs k)) := hcell
        have p2 : (w.drewN q).cell? ⟨b', off' + k, none⟩ = some (.int .i64 (nth ys k)) := hcell'
        clear hcell hcell'
        generalize hw : w.drewN q = wq at p1 p2
        have HW := Lib.hid hw
        clear hw
        by_cases he : nth xs k = nth ys k
        · have hne2 : (nth xs k != nth ys k) = false := by simpa using he
          have HN : Hid (∀ j, j < k + 1 → nth xs j = nth ys j) := fun j hj => by
            by_cases e : j = k
            · subst e; exact he
            · exact hal.out j (by omega)
          clear he
          go_wp2_with fail
          go_quiet (fail)
          go_wp2
          go_roundw
          case rel => exact ⟨k + 1, q + nq, by omega, by go_num, by rw [← HW.out, World.drewN_drewN], HN⟩
          case measure => simp [intOf]; omega
        · have hne2 : (nth xs k != nth ys k) = true := by simpa using he
          have E : Hid (r = false) := HS.out false ⟨fun h => absurd (by rw [h]) he, fun h => by cases h⟩
          clear he
          go_wp2_with fail
          go_quiet (fail)
          go_wp2
          go_ret
          exact ⟨ret_bool E.out.symm, q + nq, by rw [← HW.out, World.drewN_drewN]⟩
      · have E : Hid (r = true) := HS.out true ⟨fun _ => rfl, fun _ => by
          apply List.ext_getElem HL.out
          intro j h1 h2
          have := hal.out j (by omega)
          unfold nth at this
          rw [List.getElem?_eq_getElem h1, List.getElem?_eq_getElem h2] at this
          exact this⟩
        clear hal
        go_wp2
        go_ret
        exact ⟨ret_bool E.out.symm, q, rfl⟩
  · have hne : ((xs.length : Int) != ys.length) = true := by simp; omega
    have e : sameB xs ys = false := by unfold sameB; rw [decide_eq_false_iff_not]; intro h; exact hl (by rw [h])
    rw [e]
    clear hl e hA hC
    go_enter Try.func17, Try.ntmps17
    go_wp2
    go_ret
    exact ⟨rfl, 0, rfl⟩
end Go.Proofs.Ytimddkofcejijaa
