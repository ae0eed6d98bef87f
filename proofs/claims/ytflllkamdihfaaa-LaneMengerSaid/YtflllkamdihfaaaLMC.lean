/- merged: LU LV LW LX LY LZ LAA LAB LAC LAD LAE LAF LAG LAH LAI -/
import Derived.Test.YtflllkamdihfaaaLMB
import Derived.Test.YtflllkamdihfaaaLMA
import Derived.Laws.ResultCell
namespace Go.Proofs.Ytflllkamdihfaaa
open Go.RowKit Go.Sort
section
theorem results_one_cell {fn : Func} {p : Tmp} {ty : TypeId} (h : fn.results = #[.cell p ty]) (tmps : Array Value) (P : Program) (w : World) :
    (results fn tmps).run P w = ((asAddr (tmps.getD p undef)).run P w).andThen fun a w₁ => (loadVar ty a).run P w₁ := by
  simp only [results, h]
  simp [Sem.run_bind, Result.andThen]
theorem res95 {tmps : Array Value} {w : World} {B : Nat} {cs : Array Value} (h4 : tmps.getD 4 undef = .pointer (some ⟨B, 0, none⟩)) (hc : cs.size = 3) (hw : w.heap[B]? = some (.cells cs 24)) :
    (results Try.f95 tmps).run Try.prog w = .ok (.agg cs) w := by
  rw [results_one_cell rfl, h4]
  have hr := run_loadVar_row (P := Try.prog) w B 24 24 cs (0, 0) _ hw Try.underlying24 rfl (by rw [hc]; kernel_rfl)
  simp [asAddr, hr, Result.andThen]
theorem store3 {w : World} {B : Nat} {t : TypeId} {x y z : Value} (u v s : Value) (h : w.heap[B]? = some (.cells #[x, y, z] t)) :
    (w.cell? ⟨B, 0, none⟩ = some x ∧ w.frozen? ⟨B, 0, none⟩ = false) ∧ ((w.setCell ⟨B, 0, none⟩ u).cell? ⟨B, 1, none⟩ = some y ∧ (w.setCell ⟨B, 0, none⟩ u).frozen? ⟨B, 1, none⟩ = false) ∧
    (((w.setCell ⟨B, 0, none⟩ u).setCell ⟨B, 1, none⟩ v).cell? ⟨B, 2, none⟩ = some z ∧ ((w.setCell ⟨B, 0, none⟩ u).setCell ⟨B, 1, none⟩ v).frozen? ⟨B, 2, none⟩ = false) ∧
    (((w.setCell ⟨B, 0, none⟩ u).setCell ⟨B, 1, none⟩ v).setCell ⟨B, 2, none⟩ s).heap[B]? = some (.cells #[u, v, s] t) := by
  have h1 : (w.setCell ⟨B, 0, none⟩ u).heap[B]? = some (.cells #[u, y, z] t) := by rw [setCell_eq_setRow w B 0 _ t (0, 0) u h, setRow_heap _ _ _ _ _ _ h]; rfl
  have h2 : ((w.setCell ⟨B, 0, none⟩ u).setCell ⟨B, 1, none⟩ v).heap[B]? = some (.cells #[u, v, z] t) := by rw [setCell_eq_setRow _ B 1 _ t (0, 0) v h1, setRow_heap _ _ _ _ _ _ h1]; rfl
  have h3 : (((w.setCell ⟨B, 0, none⟩ u).setCell ⟨B, 1, none⟩ v).setCell ⟨B, 2, none⟩ s).heap[B]? = some (.cells #[u, v, s] t) := by rw [setCell_eq_setRow _ B 2 _ t (0, 0) s h2, setRow_heap _ _ _ _ _ _ h2]; rfl
  refine ⟨⟨?_, ?_⟩, ⟨?_, ?_⟩, ⟨?_, ?_⟩, h3⟩
  · unfold World.cell?; rw [h]; rfl
  · unfold World.frozen?; rw [h]; rfl
  · unfold World.cell?; rw [h1]; rfl
  · unfold World.frozen?; rw [h1]; rfl
  · unfold World.cell?; rw [h2]; rfl
  · unfold World.frozen?; rw [h2]; rfl
set_option maxRecDepth 100000 in
set_option maxHeartbeats 4000000 in
theorem shutToo_any (r c : Int) (a : Option Addr) (cap : Nat) (S : List Int) (la : Option Addr) (lc : Nat) (L : List Int) (w : World) (hS : IntsAt w a S) (hl : S.length ≤ 1000) (hL : IntsAt w la L) (hll : L.length ≤ 1000) :
    Calls Try.prog 95 #[parV r c a S.length cap, .slice la L.length lc] w fun e w' => ∃ a' cap', e = .returned (parV r c a' (S ++ L).length cap') ∧ (S ++ L).length ≤ cap' ∧ IntsAt w' a' (S ++ L) ∧ Fut w w' := by
  have hA : Fut w ((w.alloc (.cells #[.int .i64 r, .int .i64 c, .slice a S.length cap] 24)).alloc (.cells #[.int .i64 0, .int .i64 0, .slice none 0 0] 24)) := (Fut.alloc _ _).trans (Fut.alloc _ _)
  have hC := concat_two a la S.length L.length cap lc S L ((w.alloc (.cells #[.int .i64 r, .int .i64 c, .slice a S.length cap] 24)).alloc (.cells #[.int .i64 0, .int .i64 0, .slice none 0 0] 24)) (hS.fut hA) (hL.fut hA) rfl rfl hl hll
  have h1 : ((w.alloc (.cells #[.int .i64 r, .int .i64 c, .slice a S.length cap] 24)).alloc (.cells #[.int .i64 0, .int .i64 0, .slice none 0 0] 24)).heap[w.heap.size]? = some (.cells #[.int .i64 r, .int .i64 c, .slice a S.length cap] 24) := by
    rw [RowKit.Below.heap_alloc _ _ _ (by simp)]
    exact World.alloc_heap_new _ _
  have h2 : ((w.alloc (.cells #[.int .i64 r, .int .i64 c, .slice a S.length cap] 24)).alloc (.cells #[.int .i64 0, .int .i64 0, .slice none 0 0] 24)).heap[w.heap.size + 1]? = some (.cells #[.int .i64 0, .int .i64 0, .slice none 0 0] 24) := by
    have := World.alloc_heap_new (w.alloc (.cells #[.int .i64 r, .int .i64 c, .slice a S.length cap] 24)) (.cells #[.int .i64 0, .int .i64 0, .slice none 0 0] 24)
    simpa using this
  simp only [World.size_alloc] at hC
  have HC := Lib.hid hC
  have HA := Lib.hid hA
  have H1 := Lib.hid h1
  have H2 := Lib.hid h2
  clear hA hC h1 h2 hS hL
  go_enter Try.func95, Try.ntmps95
  go_wp2_with fail
  refine HC.out.mono ?_
  rintro _ w5 ⟨v5, rfl, hO, F5⟩
  obtain ⟨l5, c5, rfl, hI⟩ := hO.ints
  have p := RowKit.Below.block F5 _ (show w.heap.size < _ by simp; omega)
  rw [H1.out] at p
  have q := RowKit.Below.block F5 _ (show w.heap.size + 1 < _ by simp; try omega)
  rw [H2.out] at q
  have p2 : w5.cell? ⟨w.heap.size, 2, none⟩ = some (.slice a S.length cap) := by unfold World.cell?; rw [p]; rfl
  have pf : w5.frozen? ⟨w.heap.size, 2, none⟩ = false := by unfold World.frozen?; rw [p]; rfl
  go_upto_region 2 with fail
  have e6 := setCell_eq_setRow w5 w.heap.size 2 _ 24 (0, 0) (Value.slice l5 (S.length + L.length) c5) p
  have p6 : (w5.setCell ⟨w.heap.size, 2, none⟩ (Value.slice l5 (S.length + L.length) c5)).heap[w.heap.size]? = some (.cells #[.int .i64 r, .int .i64 c, .slice l5 (S.length + L.length) c5] 24) := by rw [e6, setRow_heap _ _ _ _ _ _ p]; rfl
  have q6 : (w5.setCell ⟨w.heap.size, 2, none⟩ (Value.slice l5 (S.length + L.length) c5)).heap[w.heap.size + 1]? = some (.cells #[.int .i64 0, .int .i64 0, .slice none 0 0] 24) := by rw [e6, setRow_other _ _ _ _ (by omega)]; exact q
  have hW : w.heap.size + 2 ≤ w5.heap.size := by have := RowKit.Below.size F5; simp at this; omega
  have HO6 := Lib.hid (hO.but (But.setCell (Z := fun q => q = w.heap.size) (But.refl _ _) (p := ⟨w.heap.size, 2, none⟩) (.inl rfl) (Value.slice l5 (S.length + L.length) c5)) (fun q hq => by simp at *; omega))
  have HF6 := Lib.hid (RowKit.Below.setCell (HA.out.trans F5) (p := ⟨w.heap.size, 2, none⟩) (Nat.le_refl _) (Value.slice l5 (S.length + L.length) c5))
  clear e6 p q p2 pf hO hI F5
  generalize w5.setCell ⟨w.heap.size, 2, none⟩ (Value.slice l5 (S.length + L.length) c5) = w6 at *
  have p0 : w6.cell? ⟨w.heap.size, 0, none⟩ = some (.int .i64 r) := by unfold World.cell?; rw [p6]; rfl
  have p1 : w6.cell? ⟨w.heap.size, 1, none⟩ = some (.int .i64 c) := by unfold World.cell?; rw [p6]; rfl
  have p2 : w6.cell? ⟨w.heap.size, 2, none⟩ = some (.slice l5 (S.length + L.length) c5) := by unfold World.cell?; rw [p6]; rfl
  obtain ⟨⟨y1, y2⟩, ⟨y3, y4⟩, ⟨y5, y6⟩, y7⟩ := store3 (.int .i64 r) (.int .i64 c) (.slice l5 (S.length + L.length) c5) q6
  go_wp2_with fail
  refine bodyPost_ret (res95 rfl rfl y7) rfl ?_
  have hb : But (fun q => q = w.heap.size + 1) w6 (((w6.setCell ⟨w.heap.size + 1, 0, none⟩ (.int .i64 r)).setCell ⟨w.heap.size + 1, 1, none⟩ (.int .i64 c)).setCell ⟨w.heap.size + 1, 2, none⟩ (.slice l5 (S.length + L.length) c5)) :=
    But.setCell (Z := fun q => q = w.heap.size + 1) (p := ⟨w.heap.size + 1, 2, none⟩) (But.setCell (Z := fun q => q = w.heap.size + 1) (p := ⟨w.heap.size + 1, 1, none⟩) (But.setCell (Z := fun q => q = w.heap.size + 1) (p := ⟨w.heap.size + 1, 0, none⟩) (But.refl _ _) (.inl rfl) _) (.inl rfl) _) (.inl rfl) _
  have hO9 := HO6.out.but hb (fun q hq => by simp at *; omega)
  obtain ⟨a9, c9, e9, hc9, _⟩ := hO9.form
  obtain ⟨a8, c8, e8, hI9⟩ := hO9.ints
  cases e9
  cases e8
  have hF9 := RowKit.Below.setCell (RowKit.Below.setCell (RowKit.Below.setCell HF6.out (p := ⟨w.heap.size + 1, 0, none⟩) (by simp) (.int .i64 r)) (p := ⟨w.heap.size + 1, 1, none⟩) (by simp) (.int .i64 c)) (p := ⟨w.heap.size + 1, 2, none⟩) (by simp) (.slice l5 (S.length + L.length) c5)
  exact ⟨_, _, by rw [List.length_append], hc9, hI9, hF9⟩
end
section
/-- no way goes from a yard to a tip. -/
def barT (c m : Int) (S : List Int) (y : Int) : List Int → Bool
  | [] => true
  | t :: T => if wayN c m S y t = 0 then barT c m S y T else false
def barF (c m : Int) (S T : List Int) : List Int → Bool
  | [] => true
  | y :: Y => if barT c m S y T = true then barF c m S T Y else false
def barB (c m : Int) (S Y T : List Int) : Bool := barF c m S T Y
set_option maxRecDepth 100000 in
set_option maxHeartbeats 4000000 in
theorem isBarred_any (r c m : Int) (hs : Side r c m) (a : Option Addr) (cap : Nat) (S : List Int) (ya : Option Addr) (yc : Nat) (Y : List Int) (ta : Option Addr) (tc : Nat) (T : List Int) (w : World) (h : InPQ w a S ya yc Y ta tc T) :
    Calls Try.prog 96 #[parV r c a S.length cap, plaV ya Y.length yc ta T.length tc] w fun e w' => e = .returned (.bool (barB c m S Y T)) ∧ Fut w w' := by
  have hA : Fut w ((w.alloc (.cells #[.int .i64 r, .int .i64 c, .slice a S.length cap] 24)).alloc (.cells #[.slice ya Y.length yc, .slice ta T.length tc] 26)) := (Fut.alloc _ _).trans (Fut.alloc _ _)
  have hBP := (BoxP.new w r c a S.length cap).fut (Fut.alloc _ (.cells #[.slice ya Y.length yc, .slice ta T.length tc] 26))
  have hBQ := BoxQ.new (w.alloc (.cells #[.int .i64 r, .int .i64 c, .slice a S.length cap] 24)) ya Y.length yc ta T.length tc
  rw [World.size_alloc] at hBQ
  have HPW := Lib.hid (fun (x y : Int) W (F : Fut w W) => pways_any r c m hs a cap S x y W (h.s.fut F) h.sl)
  have HY := Lib.hid h.y
  have HT := Lib.hid h.t
  have hyx : (Y.length : Int) ≤ 1000 := by have := h.yl; omega
  have htx : (T.length : Int) ≤ 1000 := by have := h.tl; omega
  have HA := Lib.hid hA
  have HBP := Lib.hid hBP
  have HBQ := Lib.hid hBQ
  obtain ⟨_, q0, q1⟩ := hBQ
  obtain ⟨E, hE⟩ : ∃ E, E = barF c m S T Y := ⟨_, rfl⟩
  unfold barB
  rw [← hE]
  have HE := Lib.hid hE
  clear hE h hA hBP hs
  go_enter Try.func96, Try.ntmps96
  go_wp2_with fail
  generalize (w.alloc (.cells #[.int .i64 r, .int .i64 c, .slice a S.length cap] 24)).alloc (.cells #[.slice ya Y.length yc, .slice ta T.length tc] 26) = w1 at *
  have HF0 : Hid (Fut w1 w1) := Lib.hid Fut.rfl
  clear q0 q1
  go_loopw [12] (fun iv wr => ∃ k : Nat, k ≤ Y.length ∧ iv = .int .i64 k ∧ Hid (E = barF c m S T (Y.drop k)) ∧ Hid (Fut w1 wr)) (fun iv _ => Y.length - (intOf iv).toNat)
  case atStart => exact ⟨0, Nat.zero_le _, rfl, HE, HF0⟩
  case round =>
    obtain ⟨k, hk, rfl, HK, HF⟩ := hrel
    by_cases hkl : k < Y.length
    · have hkx : (k : Int) < Y.length := by omega
      have hkk := HK.out
      rw [nth_drop Y k hkl, barF] at hkk
      obtain ⟨yb, yo, rfl, _, e1⟩ := (HY.out.fut (HA.out.trans HF.out)) k hkl
      generalize nth Y k = yk at *
      have HKK := Lib.hid hkk
      obtain ⟨_, q0, q1⟩ := HBQ.out.fut HF.out
      have HT0 : Hid (barT c m S yk T = barT c m S yk (T.drop 0)) := Lib.hid rfl
      clear hkk HK
      go_wp2_with fail
      clear e1 q0 q1
      go_loopw [19] (fun jv wq => ∃ j : Nat, j ≤ T.length ∧ jv = .int .i64 j ∧ Hid (barT c m S yk T = barT c m S yk (T.drop j)) ∧ Hid (Fut w1 wq)) (fun jv _ => T.length - (intOf jv).toNat)
      case atStart => exact ⟨0, Nat.zero_le _, rfl, HT0, HF⟩
      case round =>
        obtain ⟨j, hj, rfl, HJ, HG⟩ := hrel
        by_cases hjl : j < T.length
        · have hjx : (j : Int) < T.length := by omega
          have hjj := HJ.out
          rw [nth_drop T j hjl, barT] at hjj
          obtain ⟨tb, t_o, rfl, _, e2⟩ := (HT.out.fut (HA.out.trans HG.out)) j hjl
          generalize nth T j = tj at *
          have HPX := Lib.hid (fun W (F : Fut w W) => HPW.out yk tj W F)
          obtain ⟨_, p0, p1, p2⟩ := HBP.out.fut HG.out
          generalize hwz : wayN c m S yk tj = z at *
          by_cases hz : z = 0
          · have hzx : ¬ (0 : Int) < (z : Int) := by omega
            rw [if_pos hz] at hjj
            have HJ2 := Lib.hid hjj
            clear hjj hwz HJ
            go_wp2_with fail
            refine (HPX.out _ (HA.out.trans HG.out)).mono ?_
            rintro _ w3 ⟨rfl, G⟩
            have HG3 := Lib.hid (HG.out.trans G)
            clear p0 p1 p2 G e2
            go_wp2_with fail
            go_roundw
            case rel => first | exact ⟨j + 1, by omega, by go_num, HJ2, HG3⟩ | ((repeat apply Exists.intro); exact ⟨⟨j + 1, by omega, by go_num, HJ2, HG3⟩, rfl⟩)
            case measure => simp [intOf]; omega
          · have hzx : (0 : Int) < (z : Int) := by omega
            rw [if_neg hz] at hjj
            have HEF : Hid (E = false) := Lib.hid (by rw [HKK.out, hjj]; rfl)
            clear hjj hwz HJ
            go_wp2_with fail
            refine (HPX.out _ (HA.out.trans HG.out)).mono ?_
            rintro _ w3 ⟨rfl, G⟩
            have HG3 := Lib.hid (HG.out.trans G)
            clear p0 p1 p2 G e2
            go_wp2_with fail
            go_ret
            exact ⟨by rw [HEF.out]; rfl, HA.out.trans HG3.out⟩
        · obtain rfl : T.length = j := by omega
          have hjj := HJ.out
          rw [List.drop_length, barT] at hjj
          have HK2 : Hid (E = barF c m S T (Y.drop (k + 1))) := Lib.hid (by rw [HKK.out, if_pos hjj])
          clear hjj
          go_wp2_with fail
          go_roundw
          case rel => first | exact ⟨k + 1, by omega, by go_num, HK2, HG⟩ | ((repeat apply Exists.intro); exact ⟨⟨k + 1, by omega, by go_num, HK2, HG⟩, rfl⟩)
          case measure => simp [intOf]; omega
    · obtain rfl : Y.length = k := by omega
      have hkk := HK.out
      rw [List.drop_length, barF] at hkk
      subst hkk
      go_wp2_with fail
      go_ret
      exact ⟨rfl, HA.out.trans HF.out⟩
end
section
/-- the first bar that begins with one of the corners from i on. -/
def fbL (g : List Int → Nat → Option (List Int)) (S : List Int) : Nat → Nat → Option (List Int)
  | 0, _ => none
  | f + 1, i => match g (S ++ [(i : Int)]) (i + 1) with
    | some R => some ((i : Int) :: R)
    | none => fbL g S f (i + 1)
def fbE (c m : Int) (Y T : List Int) : Nat → List Int → Nat → Option (List Int)
  | 0, S, _ => if barB c m S Y T = true then some [] else none
  | k + 1, S, i => fbL (fun S' i' => fbE c m Y T k S' i') S (m.toNat - i) i
theorem fbL_len {g : List Int → Nat → Option (List Int)} {k : Nat} (hg : ∀ S i R, g S i = some R → R.length = k) {S : List Int} : ∀ (f i : Nat) (R : List Int), fbL g S f i = some R → R.length = k + 1
  | 0, _, _, h => by rw [fbL] at h; cases h
  | f + 1, i, R, h => by
    rw [fbL] at h
    cases hgi : g (S ++ [(i : Int)]) (i + 1) with
    | some R' =>
      rw [hgi] at h
      cases h
      rw [List.length_cons, hg _ _ _ hgi]
    | none =>
      rw [hgi] at h
      exact fbL_len hg f (i + 1) R h
theorem fb_len (c m : Int) (Y T : List Int) : ∀ (k : Nat) (S : List Int) (i : Nat) (R : List Int), fbE c m Y T k S i = some R → R.length = k
  | 0, S, i, R, h => by
    rw [fbE] at h
    split at h
    · cases h; rfl
    · cases h
  | k + 1, S, i, R, h => fbL_len (fun S' i' R' h' => fb_len c m Y T k S' i' R' h') _ _ _ h
/-- a bar and whether there is one. -/
def TupO (E : Option (List Int)) (w : World) (e : Ending) (w' : World) : Prop := ∃ l lc, e = .returned (.tuple #[.slice l (E.getD []).length lc, .bool E.isSome]) ∧ (E.getD []).length ≤ lc ∧ IntsAt w' l (E.getD []) ∧ Fut w w'
theorem TupO.none {w w' : World} (F : Fut w w') : TupO none w (.returned (.tuple #[.slice none 0 0, .bool false])) w' := ⟨Option.none, 0, rfl, Nat.le_refl _, fun j hj => absurd hj (by simp), F⟩
theorem TupO.nil {w w' : World} (F : Fut w w') : TupO (some []) w (.returned (.tuple #[.slice Option.none 0 0, .bool true])) w' := ⟨Option.none, 0, rfl, Nat.le_refl _, fun j hj => absurd hj (by simp), F⟩
set_option maxRecDepth 100000 in
set_option maxHeartbeats 8000000 in
theorem firstBar_any (r c m : Int) (hs : Side r c m) (ya : Option Addr) (yc : Nat) (Y : List Int) (ta : Option Addr) (tc : Nat) (T : List Int) : ∀ (k : Nat) (i : Nat) (a : Option Addr) (cap : Nat) (S : List Int) (w : World), k ≤ 3 → i ≤ m.toNat → S.length + k ≤ 1000 → InPQ w a S ya yc Y ta tc T →
    Calls Try.prog 93 #[parV r c a S.length cap, plaV ya Y.length yc ta T.length tc, .int .i64 (k : Int), .int .i64 (i : Int)] w (TupO (fbE c m Y T k S i) w) := by
  intro k
  induction k with
  | zero =>
    intro i a cap S w hk him hl h
    have hA : Fut w ((w.alloc (.cells #[.int .i64 r, .int .i64 c, .slice a S.length cap] 24)).alloc (.cells #[.slice ya Y.length yc, .slice ta T.length tc] 26)) := (Fut.alloc _ _).trans (Fut.alloc _ _)
    have hBP := (BoxP.new w r c a S.length cap).fut (Fut.alloc _ (.cells #[.slice ya Y.length yc, .slice ta T.length tc] 26))
    have hBQ := BoxQ.new (w.alloc (.cells #[.int .i64 r, .int .i64 c, .slice a S.length cap] 24)) ya Y.length yc ta T.length tc
    rw [World.size_alloc] at hBQ
    have HIB := Lib.hid (fun W (F : Fut w W) => isBarred_any r c m hs a cap S ya yc Y ta tc T W (h.fut F))
    have HA := Lib.hid hA
    obtain ⟨_, p0, p1, p2⟩ := hBP
    obtain ⟨_, q0, q1⟩ := hBQ
    rw [fbE]
    generalize barB c m S Y T = b at *
    obtain ⟨E, HE⟩ : ∃ E : Option (List Int), Hid (E = if b = true then some [] else none) := ⟨_, Lib.hid rfl⟩
    rw [← HE.out]
    show Calls Try.prog 93 #[parV r c a S.length cap, plaV ya Y.length yc ta T.length tc, .int .i64 0, .int .i64 (i : Int)] w _
    clear hA h hs
    go_enter Try.func93, Try.ntmps93
    go_wp2_with fail
    refine (HIB.out _ HA.out).mono ?_
    rintro _ w2 ⟨rfl, F⟩
    have HF2 := Lib.hid (HA.out.trans F)
    clear p0 p1 p2 q0 q1 F
    go_wp2_with fail
    go_ret2
    rw [HE.out]
    cases b
    · exact TupO.none HF2.out
    · exact TupO.nil HF2.out
  | succ k ih =>
    intro i a cap S w hk him hl h
    have hA : Fut w ((w.alloc (.cells #[.int .i64 r, .int .i64 c, .slice a S.length cap] 24)).alloc (.cells #[.slice ya Y.length yc, .slice ta T.length tc] 26)) := (Fut.alloc _ _).trans (Fut.alloc _ _)
    have hBP := (BoxP.new w r c a S.length cap).fut (Fut.alloc _ (.cells #[.slice ya Y.length yc, .slice ta T.length tc] 26))
    have hBQ := BoxQ.new (w.alloc (.cells #[.int .i64 r, .int .i64 c, .slice a S.length cap] 24)) ya Y.length yc ta T.length tc
    rw [World.size_alloc] at hBQ
    have HCO := Lib.hid (fun W => corners_any r c m hs a S.length cap W)
    have HST := Lib.hid (fun (x : Int) la W (F : Fut w W) (hI : IntsAt W la [x]) => shutToo_any r c a cap S la 1 [x] W (h.s.fut F) (by omega) hI (by simp))
    have HIH := Lib.hid (fun (x : Int) (i' : Nat) (iv : Int) (hv : (i' : Int) = iv) (a' : Option Addr) (cap' : Nat) W (F : Fut w W) (hi : i' ≤ m.toNat) (hI : IntsAt W a' (S ++ [x])) => show Calls Try.prog 93 #[parV r c a' (S.length + 1) cap', plaV ya Y.length yc ta T.length tc, .int .i64 (k : Int), .int .i64 iv] W (TupO (fbE c m Y T k (S ++ [x]) i') W) by
      subst hv
      have h9 := ih i' a' cap' (S ++ [x]) W (by omega) hi (by simp; omega) ⟨hI, by simp; omega, h.y.fut F, h.yl, h.yc, h.t.fut F, h.tl, h.tc⟩
      rw [List.length_append] at h9
      exact h9)
    have HLN := Lib.hid (fun (x : Int) (i' : Nat) R (e : fbE c m Y T k (S ++ [x]) i' = some R) => fb_len c m Y T k (S ++ [x]) i' R e)
    have hm := hs.m
    have HA := Lib.hid hA
    have HBP := Lib.hid hBP
    have HBQ := Lib.hid hBQ
    rw [fbE]
    obtain ⟨E, HE⟩ : ∃ E : Option (List Int), Hid (E = fbL (fun S' i' => fbE c m Y T k S' i') S (m.toNat - i) i) := ⟨_, Lib.hid rfl⟩
    rw [← HE.out]
    obtain ⟨n, hmn⟩ : ∃ n : Nat, m = (n : Int) := ⟨m.toNat, by omega⟩
    subst hmn
    rw [Int.toNat_natCast] at him HE HIH
    have hm16 : n ≤ 16 := by omega
    have hk0 : (((k + 1 : Nat) : Int) == 0) = false := by simp; omega
    have hk1 : ((k + 1 : Nat) : Int) - 1 = (k : Int) := by omega
    have hkx : ((k + 1 : Nat) : Int) ≤ 3 := by omega
    have hwk : IntKind.i64.wrap (k : Int) = (k : Int) := IntWalk.i64_in _ ⟨by omega, by omega⟩
    generalize fbE c (n : Int) Y T k = g at *
    clear hA h hs hBP hBQ ih hm hl
    go_enter Try.func93, Try.ntmps93
    go_wp2_with fail
    generalize (w.alloc (.cells #[.int .i64 r, .int .i64 c, .slice a S.length cap] 24)).alloc (.cells #[.slice ya Y.length yc, .slice ta T.length tc] 26) = w1 at *
    have HF0 : Hid (Fut w1 w1) := Lib.hid Fut.rfl
    go_loopw [10] (fun iv wr => ∃ j : Nat, j ≤ n ∧ iv = .int .i64 j ∧ Hid (E = fbL (fun S' i' => g S' i') S (n - j) j) ∧ Hid (Fut w1 wr)) (fun iv _ => n - (intOf iv).toNat)
    case atStart => exact ⟨i, him, rfl, HE, HF0⟩
    case round =>
      obtain ⟨j, hj, rfl, HJ, HF⟩ := hrel
      obtain ⟨_, p0, p1, p2⟩ := HBP.out.fut HF.out
      clear HF0 HE him
      go_wp2_with fail
      refine (HCO.out _).mono ?_
      rintro _ w2 ⟨rfl, F⟩
      have HF2 := Lib.hid (HF.out.trans F)
      clear p0 p1 p2 F
      by_cases hjl : j < n
      · have hjx : (j : Int) < n := by omega
        have hjj := HJ.out
        obtain ⟨n2, hn2⟩ : ∃ n2, n - j = n2 + 1 := ⟨n - j - 1, by omega⟩
        rw [hn2, fbL] at hjj
        have hnj : n - (j + 1) = n2 := by omega
        have HJJ := Lib.hid hjj
        clear hjj HJ
        have hBP2 := HBP.out.fut HF2.out
        have hBQ2 := HBQ.out.fut HF2.out
        have hlp := hBP2.lt
        have hlq := hBQ2.lt
        obtain ⟨_, p0, p1, p2⟩ := hBP2
        obtain ⟨_, q0, q1⟩ := hBQ2
        have hwj : IntKind.i64.wrap ((j : Int) + 1) = (j : Int) + 1 := IntWalk.i64_in _ ⟨by omega, by omega⟩
        go_upto_region 6 with fail
        go_region_held3 (fun w' => w'.cell? ⟨w.heap.size, 0, none⟩ = some (.int .i64 r) ∧ w'.cell? ⟨w.heap.size, 1, none⟩ = some (.int .i64 c) ∧ w'.cell? ⟨w.heap.size, 2, none⟩ = some (.slice a S.length cap) ∧ w'.cell? ⟨w.heap.size + 1, 0, none⟩ = some (.slice ya Y.length yc) ∧ w'.cell? ⟨w.heap.size + 1, 1, none⟩ = some (.slice ta T.length tc)) (first | exact hS6 | exact hS5 | exact ⟨p0, p1, p2, q0, q1⟩ | exact ⟨alloc_old _ _ p0, alloc_old _ _ p1, alloc_old _ _ p2, alloc_old _ _ q0, alloc_old _ _ q1⟩)
          (first
            | (go_at_call 95; refine (HST.out (j : Int) (some ⟨w2.heap.size, 0, none⟩) _ (HA.out.trans (HF2.out.trans ((Fut.alloc w2 (.cells #[.int .i64 (j : Int)] 3)).trans (Fut.drewN _ 1)))) ((ints_new w2 [(j : Int)]).fut (Fut.drewN _ 1))).mono ?_; rintro _ w5 ⟨a5, c5, rfl, _, hI5, F5⟩; have FA5 : Fut w2 w5 := ((Fut.alloc w2 (.cells #[.int .i64 (j : Int)] 3)).trans (Fut.drewN _ 1)).trans F5; have hS5 : w5.cell? ⟨w.heap.size, 0, none⟩ = some (.int .i64 r) ∧ w5.cell? ⟨w.heap.size, 1, none⟩ = some (.int .i64 c) ∧ w5.cell? ⟨w.heap.size, 2, none⟩ = some (.slice a S.length cap) ∧ w5.cell? ⟨w.heap.size + 1, 0, none⟩ = some (.slice ya Y.length yc) ∧ w5.cell? ⟨w.heap.size + 1, 1, none⟩ = some (.slice ta T.length tc) := ⟨(RowKit.Below.cell FA5 (p := ⟨w.heap.size, 0, none⟩) hlp).trans p0, (RowKit.Below.cell FA5 (p := ⟨w.heap.size, 1, none⟩) hlp).trans p1, (RowKit.Below.cell FA5 (p := ⟨w.heap.size, 2, none⟩) hlp).trans p2, (RowKit.Below.cell FA5 (p := ⟨w.heap.size + 1, 0, none⟩) hlq).trans q0, (RowKit.Below.cell FA5 (p := ⟨w.heap.size + 1, 1, none⟩) hlq).trans q1⟩)
            | (go_at_call 93; refine (HIH.out (j : Int) (j + 1) ((j : Int) + 1) (by omega) a5 c5 w5 (HA.out.trans (HF2.out.trans FA5)) (by omega) hI5).mono ?_; rintro _ w6 ⟨l6, lc6, rfl, hl6, hI6, F6⟩; have hS6 : w6.cell? ⟨w.heap.size, 0, none⟩ = some (.int .i64 r) ∧ w6.cell? ⟨w.heap.size, 1, none⟩ = some (.int .i64 c) ∧ w6.cell? ⟨w.heap.size, 2, none⟩ = some (.slice a S.length cap) ∧ w6.cell? ⟨w.heap.size + 1, 0, none⟩ = some (.slice ya Y.length yc) ∧ w6.cell? ⟨w.heap.size + 1, 1, none⟩ = some (.slice ta T.length tc) := ⟨(RowKit.Below.cell F6 (p := ⟨w.heap.size, 0, none⟩) (World.block_lt_of_cell? _ _ hS5.1)).trans hS5.1, (RowKit.Below.cell F6 (p := ⟨w.heap.size, 1, none⟩) (World.block_lt_of_cell? _ _ hS5.2.1)).trans hS5.2.1, (RowKit.Below.cell F6 (p := ⟨w.heap.size, 2, none⟩) (World.block_lt_of_cell? _ _ hS5.2.2.1)).trans hS5.2.2.1, (RowKit.Below.cell F6 (p := ⟨w.heap.size + 1, 0, none⟩) (World.block_lt_of_cell? _ _ hS5.2.2.2.1)).trans hS5.2.2.2.1, (RowKit.Below.cell F6 (p := ⟨w.heap.size + 1, 1, none⟩) (World.block_lt_of_cell? _ _ hS5.2.2.2.2)).trans hS5.2.2.2.2⟩))
        have HF6 := Lib.hid (HF2.out.trans (FA5.trans F6))
        have HI6 := Lib.hid hI6
        have HLJ := Lib.hid (HLN.out (j : Int) (j + 1))
        clear hI6 hl6 F6 FA5 F5 hI5 hS5 hS6 p0 p1 p2 q0 q1 hlp hlq HLN hwk hwj
        obtain ⟨i0, hi0, hz0, hz1, hz2⟩ := info_parts info3
        generalize g (S ++ [(j : Int)]) (j + 1) = og at *
        cases og with
        | none =>
          have HJ2 : Hid (E = fbL (fun S' i' => g S' i') S (n - (j + 1)) (j + 1)) := Lib.hid (by rw [hnj]; exact HJJ.out)
          clear HJJ hn2 hnj
          go_wp2_with fail
          go_roundw
          all_goals first
            | exact ⟨j + 1, by omega, by go_num, HJ2, HF6⟩
            | ((repeat apply Exists.intro); exact ⟨⟨j + 1, by omega, by go_num, HJ2, HF6⟩, rfl⟩)
            | (simp [intOf]; omega)
        | some R =>
          have hRl : R.length ≤ 3 := by have := HLJ.out R rfl; omega
          have HEE : Hid (E = some ((j : Int) :: R)) := Lib.hid HJJ.out
          clear HLJ HJJ hn2 hnj
          simp only [Option.getD_some, Option.isSome_some] at *
          have hOW : (w6.alloc (.cells #[.int .i64 (j : Int)] 3)).ownsRow w6.heap.size 3 1 (.slice (some ⟨w6.heap.size, 0, none⟩) 1 1) 1 [.int .i64 (j : Int)] := World.ownsRow_lit w6 #[.int .i64 (j : Int)] 1 (Nat.le_refl _) (by unfold maxLen; omega) rfl
          have HOW := Lib.hid hOW
          clear hOW
          cases l6 with
          | none =>
            obtain rfl : R = [] := by
              cases R with
              | nil => rfl
              | cons p t => obtain ⟨b, o, e, _⟩ := HI6.out 0 (by simp); cases e
            go_wp2_with (at_builtin; refine wpList_append_nothing rfl _ _ rfl w6.heap.size 1 lc6 (.slice (some ⟨w6.heap.size, 0, none⟩) 1 1) [.int .i64 (j : Int)] rfl HOW.out rfl ?_)
            go_wp2_with fail
            go_ret2
            rw [HEE.out]
            exact ⟨some ⟨w6.heap.size, 0, none⟩, 1, rfl, Nat.le_refl _, ints_new w6 [(j : Int)], (HA.out.trans HF6.out).trans (Fut.alloc _ _)⟩
          | some ad =>
            have HNW : Hid (∀ x u, (R.map (Value.int .i64))[x]? = some u → (w6.alloc (.cells #[.int .i64 (j : Int)] 3)).cell? (ad.add x) = some u) := Lib.hid (fun x u hx => by
              have hlt : x < R.length := by simpa using (List.getElem?_eq_some_iff.1 hx).1
              obtain ⟨b, o, e, _, hc⟩ := (HI6.out.fut (Fut.alloc w6 (.cells #[.int .i64 (j : Int)] 3))) x hlt
              simp only [Option.some.injEq] at e
              subst e
              rw [Addr.add_lit, hc, ← hx, nth_eq]
              simp [List.getElem?_eq_getElem hlt])
            go_wp2_with (at_builtin; refine wpList_append_own _ rfl _ _ 22 rfl w6.heap.size 3 i0 (.int .i64 0) 1 8 Try.underlying22 hi0 hz0 hz1 hz2 rfl (by decide) _ 1 [.int .i64 (j : Int)] rfl HOW.out ad R.length lc6 (R.map (.int .i64)) rfl (by simp) HNW.out (by intro u hu; obtain ⟨z, _, rfl⟩ := List.mem_map.1 hu; rfl) (by unfold maxLen; omega) (by omega) (by simp) ?_)
            intro v' w7 hown' hgrow _
            have hO7 : Owns w7 w6.heap.size v' ((j : Int) :: R) := by
              unfold Owns
              rw [List.length_cons, Nat.add_comm]
              exact hown'
            have HF7 : Hid (Fut w6 w7) := Lib.hid (RowKit.Below.grown (Fut.alloc w6 (.cells #[.int .i64 (j : Int)] 3)) hgrow (by simp) fun q hq => (World.ownsRow.lt HOW.out q hq).1)
            obtain ⟨l7, c7, rfl, hc7, _⟩ := hO7.form
            obtain ⟨l8, c8, e8, hI7⟩ := hO7.ints
            cases e8
            have HI7 := Lib.hid hI7
            have HC7 := Lib.hid hc7
            clear hown' hgrow hO7 hI7 hc7
            go_wp2_with fail
            go_ret2
            rw [HEE.out]
            exact ⟨_, _, rfl, HC7.out, HI7.out, HA.out.trans (HF6.out.trans HF7.out)⟩
      · obtain rfl : n = j := by omega
        have hjj := HJ.out
        rw [Nat.sub_self, fbL] at hjj
        go_wp2_with fail
        go_ret2
        rw [hjj]
        exact TupO.none (HA.out.trans HF2.out)
end
section
/-- the first bar, fewest corners first. -/
def brL (c m : Int) (S Y T : List Int) : Nat → Nat → Option (List Int)
  | 0, _ => none
  | f + 1, k => match fbE c m Y T k S 0 with
    | some R => some R
    | none => brL c m S Y T f (k + 1)
def brO (r c : Int) (S Y T : List Int) : Option (List Int) := brL c (r * c) S Y T Y.length 0
/-- what Bar answers. -/
def brE (r c : Int) (S Y T : List Int) : Int := if chkP r c S Y T = 0 then (if (brO r c S Y T).isSome = true then 0 else 13) else chkP r c S Y T
def brR (r c : Int) (S Y T : List Int) : List Int := if chkP r c S Y T = 0 then (brO r c S Y T).getD [] else []
def TupI (E : Int) (L : List Int) (w : World) (e : Ending) (w' : World) : Prop := ∃ l lc, e = .returned (.tuple #[.slice l L.length lc, .int .i64 E]) ∧ L.length ≤ lc ∧ IntsAt w' l L ∧ Fut w w'
theorem TupI.nil (E : Int) {w w' : World} (F : Fut w w') : TupI E [] w (.returned (.tuple #[.slice none 0 0, .int .i64 E])) w' := ⟨none, 0, rfl, Nat.le_refl _, fun j hj => absurd hj (by simp), F⟩
set_option maxRecDepth 100000 in
set_option maxHeartbeats 8000000 in
theorem bar_any (r c : Int) (a : Option Addr) (cap : Nat) (S : List Int) (ya : Option Addr) (yc : Nat) (Y : List Int) (ta : Option Addr) (tc : Nat) (T : List Int) (w : World) (h : InPQ w a S ya yc Y ta tc T) (hS9 : S.length ≤ 900) :
    Calls Try.prog 37 #[parV r c a S.length cap, plaV ya Y.length yc ta T.length tc] w (TupI (brE r c S Y T) (brR r c S Y T) w) := by
  have hA : Fut w ((w.alloc (.cells #[.int .i64 r, .int .i64 c, .slice a S.length cap] 24)).alloc (.cells #[.slice ya Y.length yc, .slice ta T.length tc] 26)) := (Fut.alloc _ _).trans (Fut.alloc _ _)
  have hBP := (BoxP.new w r c a S.length cap).fut (Fut.alloc _ (.cells #[.slice ya Y.length yc, .slice ta T.length tc] 26))
  have hBQ := BoxQ.new (w.alloc (.cells #[.int .i64 r, .int .i64 c, .slice a S.length cap] 24)) ya Y.length yc ta T.length tc
  rw [World.size_alloc] at hBQ
  have HCK := Lib.hid (fun W (F : Fut w W) => chk_any r c a cap S ya yc Y ta tc T W (h.fut F))
  have HA := Lib.hid hA
  have HBP := Lib.hid hBP
  have HBQ := Lib.hid hBQ
  obtain ⟨_, p0, p1, p2⟩ := hBP
  obtain ⟨_, q0, q1⟩ := hBQ
  unfold brE brR brO
  by_cases hc : chkP r c S Y T = 0
  · have hs := (chk_side hc).1
    have hy3 := (chk_side hc).2.2.2.2.1
    rw [if_pos hc, if_pos hc]
    rw [hc] at HCK
    have HFB := Lib.hid (fun (k : Nat) W (F : Fut w W) (hk : k ≤ 3) => show Calls Try.prog 93 #[parV r c a S.length cap, plaV ya Y.length yc ta T.length tc, .int .i64 (k : Int), .int .i64 0] W (TupO (fbE c (r * c) Y T k S 0) W) from firstBar_any r c _ hs ya yc Y ta tc T k 0 a cap S W hk (Nat.zero_le _) (by omega) (h.fut F))
    generalize r * c = m at *
    obtain ⟨E, HE⟩ : ∃ E : Option (List Int), Hid (E = brL c m S Y T Y.length 0) := ⟨_, Lib.hid rfl⟩
    rw [← HE.out]
    have HGE : Hid (∀ f k, brL c m S Y T (f + 1) k = match fbE c m Y T k S 0 with
      | some R => some R
      | none => brL c m S Y T f (k + 1)) := Lib.hid (fun f k => by rw [brL])
    have HGZ : Hid (∀ k, brL c m S Y T 0 k = none) := Lib.hid (fun k => by rw [brL])
    have hyx : (Y.length : Int) ≤ 3 := by omega
    generalize brL c m S Y T = bl at *
    clear hc hs h hA hS9
    generalize hXI : (if E.isSome = true then (0 : Int) else 13) = xi
    have HXI := Lib.hid hXI
    clear hXI
    go_enter Try.func37, Try.ntmps37
    go_wp2_with fail
    refine (HCK.out _ HA.out).mono ?_
    rintro _ w2 ⟨rfl, F⟩
    have HF2 := Lib.hid (HA.out.trans F)
    have HBP2 := Lib.hid (HBP.out.fut F)
    have HBQ2 := Lib.hid (HBQ.out.fut F)
    clear p0 p1 p2 q0 q1 F HCK HA HBP HBQ
    obtain ⟨_, q0, q1⟩ := HBQ2.out
    have HF0 : Hid (Fut w2 w2) := Lib.hid Fut.rfl
    go_wp2_with fail
    clear q0 q1
    go_loopw [19] (fun iv wr => ∃ k : Nat, k ≤ Y.length ∧ iv = .int .i64 k ∧ Hid (E = bl (Y.length - k) k) ∧ Hid (Fut w2 wr)) (fun iv _ => Y.length - (intOf iv).toNat)
    case atStart => exact ⟨0, Nat.zero_le _, rfl, HE, HF0⟩
    case round =>
      obtain ⟨k, hk, rfl, HK, HF⟩ := hrel
      clear HE HF0
      by_cases hkl : k < Y.length
      · have hkx : (k : Int) < Y.length := by omega
        have hkk := HK.out
        obtain ⟨n2, hn2⟩ : ∃ n2, Y.length - k = n2 + 1 := ⟨Y.length - k - 1, by omega⟩
        rw [hn2, HGE.out] at hkk
        have hnk : Y.length - (k + 1) = n2 := by omega
        have HKK := Lib.hid hkk
        have HFK := Lib.hid (HFB.out k wr (HF2.out.trans HF.out) (by omega))
        clear hkk HK
        obtain ⟨_, p0, p1, p2⟩ := HBP2.out.fut HF.out
        obtain ⟨_, q0, q1⟩ := HBQ2.out.fut HF.out
        generalize fbE c m Y T k S 0 = og at *
        go_wp2_with fail
        refine HFK.out.mono ?_
        rintro _ w3 ⟨l3, lc3, rfl, hl3, hI3, F3⟩
        have HF3 := Lib.hid (HF.out.trans F3)
        have HI3 := Lib.hid hI3
        have HL3 := Lib.hid hl3
        clear F3 hI3 hl3 p0 p1 p2 q0 q1 HFK
        cases og with
        | none =>
          have HK2 : Hid (E = bl (Y.length - (k + 1)) (k + 1)) := Lib.hid (by rw [hnk]; exact HKK.out)
          clear HKK hn2 hnk
          go_wp2_with fail
          go_roundw
          all_goals first
            | exact ⟨k + 1, by omega, by go_num, HK2, HF3⟩
            | ((repeat apply Exists.intro); exact ⟨⟨k + 1, by omega, by go_num, HK2, HF3⟩, rfl⟩)
            | (simp [intOf]; omega)
        | some R =>
          have HEE : Hid (E = some R) := Lib.hid HKK.out
          clear HKK hn2 hnk
          go_wp2_with fail
          go_ret2
          rw [← HXI.out, HEE.out]
          exact ⟨l3, lc3, rfl, HL3.out, HI3.out, HF2.out.trans HF3.out⟩
      · obtain rfl : Y.length = k := by omega
        have hkk := HK.out
        rw [Nat.sub_self, HGZ.out] at hkk
        have HEE := Lib.hid hkk
        clear hkk
        go_wp2_with fail
        go_ret2
        rw [← HXI.out, HEE.out]
        exact TupI.nil 13 (HF2.out.trans HF.out)
  · rw [if_neg hc, if_neg hc]
    generalize chkP r c S Y T = ce at *
    clear hA h
    go_enter Try.func37, Try.ntmps37
    go_wp2_with fail
    refine (HCK.out _ HA.out).mono ?_
    rintro _ w2 ⟨rfl, F⟩
    have HF2 := Lib.hid (HA.out.trans F)
    clear p0 p1 p2 q0 q1 F
    go_wp2_with fail
    go_ret2
    exact TupI.nil ce HF2.out
end
section
/-- what Proves answers. -/
def prvE (r c : Int) (S Y T L : List Int) : Int := if chkP r c S Y T = 0 then (if ascE (r * c) L = 0 then (if Y.length ≤ L.length then 14 else if barB c (r * c) (S ++ L) Y T = true then 0 else 14) else ascE (r * c) L) else chkP r c S Y T
set_option maxRecDepth 100000 in
set_option maxHeartbeats 8000000 in
theorem proves_any (r c : Int) (a : Option Addr) (cap : Nat) (S : List Int) (ya : Option Addr) (yc : Nat) (Y : List Int) (ta : Option Addr) (tc : Nat) (T : List Int) (la : Option Addr) (lc : Nat) (L : List Int) (w : World) (h : InPQ w a S ya yc Y ta tc T) (hS9 : S.length ≤ 900) (hL : IntsAt w la L) (hll : L.length ≤ 1000) :
    Calls Try.prog 39 #[parV r c a S.length cap, plaV ya Y.length yc ta T.length tc, .slice la L.length lc] w fun e w' => e = .returned (.int .i64 (prvE r c S Y T L)) ∧ Fut w w' := by
  have hA : Fut w ((w.alloc (.cells #[.int .i64 r, .int .i64 c, .slice a S.length cap] 24)).alloc (.cells #[.slice ya Y.length yc, .slice ta T.length tc] 26)) := (Fut.alloc _ _).trans (Fut.alloc _ _)
  have hBP := (BoxP.new w r c a S.length cap).fut (Fut.alloc _ (.cells #[.slice ya Y.length yc, .slice ta T.length tc] 26))
  have hBQ := BoxQ.new (w.alloc (.cells #[.int .i64 r, .int .i64 c, .slice a S.length cap] 24)) ya Y.length yc ta T.length tc
  rw [World.size_alloc] at hBQ
  have HCK := Lib.hid (fun W (F : Fut w W) => chk_any r c a cap S ya yc Y ta tc T W (h.fut F))
  have HA := Lib.hid hA
  have HBP := Lib.hid hBP
  have HBQ := Lib.hid hBQ
  obtain ⟨_, p0, p1, p2⟩ := hBP
  obtain ⟨_, q0, q1⟩ := hBQ
  unfold prvE
  by_cases hc : chkP r c S Y T = 0
  · have hs := (chk_side hc).1
    have hy3 := (chk_side hc).2.2.2.2.1
    rw [if_pos hc]
    rw [hc] at HCK
    have HCO := Lib.hid (fun W => corners_any r c _ hs a S.length cap W)
    have HAS := Lib.hid (fun W (F : Fut w W) => asc_any la lc L (r * c) W (hL.fut F) hll)
    have HST := Lib.hid (fun W (F : Fut w W) => shutToo_any r c a cap S la lc L W (h.s.fut F) (by omega) (hL.fut F) hll)
    have HIB := Lib.hid (fun (a' : Option Addr) (cap' : Nat) W (F : Fut w W) (hI : IntsAt W a' (S ++ L)) (hlt : ¬ Y.length ≤ L.length) => isBarred_any r c _ hs a' cap' (S ++ L) ya yc Y ta tc T W ⟨hI, by rw [List.length_append]; omega, h.y.fut F, h.yl, h.yc, h.t.fut F, h.tl, h.tc⟩)
    generalize r * c = m at *
    generalize ascE m L = ea at *
    generalize barB c m (S ++ L) Y T = bb at *
    have hyx : (Y.length : Int) ≤ 3 := by omega
    have hlx : (L.length : Int) ≤ 1000 := by omega
    generalize S ++ L = SL at *
    clear hc hs h hA hS9 hL hll
    by_cases he : ea = 0
    · rw [if_pos he]
      subst he
      by_cases hg : Y.length ≤ L.length
      · rw [if_pos hg]
        have hgx : (Y.length : Int) ≤ (L.length : Int) := by omega
        clear HIB HST hg
        go_enter Try.func39, Try.ntmps39
        go_wp2_with fail
        refine (HCK.out _ HA.out).mono ?_
        rintro _ w2 ⟨rfl, F⟩
        have HF2 := Lib.hid (HA.out.trans F)
        have HBP2 := Lib.hid (HBP.out.fut F)
        have HBQ2 := Lib.hid (HBQ.out.fut F)
        clear p0 p1 p2 q0 q1 F HCK HA HBP HBQ
        obtain ⟨_, p0, p1, p2⟩ := HBP2.out
        go_wp2_with fail
        refine (HCO.out _).mono ?_
        rintro _ w3 ⟨rfl, F⟩
        have HF3 := Lib.hid (HF2.out.trans F)
        have HBQ3 := Lib.hid (HBQ2.out.fut F)
        clear p0 p1 p2 F
        go_wp2_with fail
        refine (HAS.out _ HF3.out).mono ?_
        rintro _ _ ⟨rfl, rfl⟩
        obtain ⟨_, q0, q1⟩ := HBQ3.out
        go_upto_region 7 with fail
        go_quiet (fail)
        have hq3 : Fut w3 (w3.drewN nq) := Fut.drewN _ _
        have HF4 := Lib.hid (HF3.out.trans hq3)
        clear q0 q1 hq3
        generalize w3.drewN nq = w4 at *
        go_wp2_with fail
        go_ret
        exact ⟨rfl, HF4.out⟩
      · rw [if_neg hg]
        have hgx : ¬ (Y.length : Int) ≤ (L.length : Int) := by omega
        have hgd : decide ((Y.length : Int) ≤ (L.length : Int)) = false := decide_eq_false hgx
        have hgd2 : decide (Y.length ≤ L.length) = false := decide_eq_false hg
        obtain ⟨E, HE⟩ : ∃ E : Int, Hid (E = if bb = true then 0 else 14) := ⟨_, Lib.hid rfl⟩
        rw [← HE.out]
        have HNG := Lib.hid hg
        clear hg
        go_enter Try.func39, Try.ntmps39
        go_wp2_with fail
        refine (HCK.out _ HA.out).mono ?_
        rintro _ w2 ⟨rfl, F⟩
        have HF2 := Lib.hid (HA.out.trans F)
        have HBP2 := Lib.hid (HBP.out.fut F)
        have HBQ2 := Lib.hid (HBQ.out.fut F)
        clear p0 p1 p2 q0 q1 F HCK HA HBP HBQ
        obtain ⟨_, p0, p1, p2⟩ := HBP2.out
        go_wp2_with fail
        refine (HCO.out _).mono ?_
        rintro _ w3 ⟨rfl, F⟩
        have HF3 := Lib.hid (HF2.out.trans F)
        have HBP3 := Lib.hid (HBP2.out.fut F)
        have HBQ3 := Lib.hid (HBQ2.out.fut F)
        clear p0 p1 p2 F
        go_wp2_with fail
        refine (HAS.out _ HF3.out).mono ?_
        rintro _ _ ⟨rfl, rfl⟩
        obtain ⟨_, p0, p1, p2⟩ := HBP3.out
        obtain ⟨_, q0, q1⟩ := HBQ3.out
        go_upto_region 7 with fail
        go_region_held3 (fun w' => w'.cell? ⟨w.heap.size, 0, none⟩ = some (.int .i64 r) ∧ w'.cell? ⟨w.heap.size, 1, none⟩ = some (.int .i64 c) ∧ w'.cell? ⟨w.heap.size, 2, none⟩ = some (.slice a S.length cap) ∧ w'.cell? ⟨w.heap.size + 1, 0, none⟩ = some (.slice ya Y.length yc) ∧ w'.cell? ⟨w.heap.size + 1, 1, none⟩ = some (.slice ta T.length tc)) (first | exact hS6 | exact hS5 | exact ⟨p0, p1, p2, q0, q1⟩)
          (first
            | (go_at_call 95; refine (HST.out _ (HF3.out.trans (Fut.drewN w3 1))).mono ?_; rintro _ w5 ⟨a5, c5, rfl, _, hI5, F5⟩; have FA5 : Fut w3 w5 := (Fut.drewN w3 1).trans F5; have hS5 : w5.cell? ⟨w.heap.size, 0, none⟩ = some (.int .i64 r) ∧ w5.cell? ⟨w.heap.size, 1, none⟩ = some (.int .i64 c) ∧ w5.cell? ⟨w.heap.size, 2, none⟩ = some (.slice a S.length cap) ∧ w5.cell? ⟨w.heap.size + 1, 0, none⟩ = some (.slice ya Y.length yc) ∧ w5.cell? ⟨w.heap.size + 1, 1, none⟩ = some (.slice ta T.length tc) := ⟨(RowKit.Below.cell FA5 (p := ⟨w.heap.size, 0, none⟩) (World.block_lt_of_cell? _ _ p0)).trans p0, (RowKit.Below.cell FA5 (p := ⟨w.heap.size, 1, none⟩) (World.block_lt_of_cell? _ _ p1)).trans p1, (RowKit.Below.cell FA5 (p := ⟨w.heap.size, 2, none⟩) (World.block_lt_of_cell? _ _ p2)).trans p2, (RowKit.Below.cell FA5 (p := ⟨w.heap.size + 1, 0, none⟩) (World.block_lt_of_cell? _ _ q0)).trans q0, (RowKit.Below.cell FA5 (p := ⟨w.heap.size + 1, 1, none⟩) (World.block_lt_of_cell? _ _ q1)).trans q1⟩)
            | (go_at_call 96; refine (HIB.out a5 c5 w5 (HF3.out.trans FA5) hI5 HNG.out).mono ?_; rintro _ w6 ⟨rfl, F6⟩; have hS6 : w6.cell? ⟨w.heap.size, 0, none⟩ = some (.int .i64 r) ∧ w6.cell? ⟨w.heap.size, 1, none⟩ = some (.int .i64 c) ∧ w6.cell? ⟨w.heap.size, 2, none⟩ = some (.slice a S.length cap) ∧ w6.cell? ⟨w.heap.size + 1, 0, none⟩ = some (.slice ya Y.length yc) ∧ w6.cell? ⟨w.heap.size + 1, 1, none⟩ = some (.slice ta T.length tc) := ⟨(RowKit.Below.cell F6 (p := ⟨w.heap.size, 0, none⟩) (World.block_lt_of_cell? _ _ hS5.1)).trans hS5.1, (RowKit.Below.cell F6 (p := ⟨w.heap.size, 1, none⟩) (World.block_lt_of_cell? _ _ hS5.2.1)).trans hS5.2.1, (RowKit.Below.cell F6 (p := ⟨w.heap.size, 2, none⟩) (World.block_lt_of_cell? _ _ hS5.2.2.1)).trans hS5.2.2.1, (RowKit.Below.cell F6 (p := ⟨w.heap.size + 1, 0, none⟩) (World.block_lt_of_cell? _ _ hS5.2.2.2.1)).trans hS5.2.2.2.1, (RowKit.Below.cell F6 (p := ⟨w.heap.size + 1, 1, none⟩) (World.block_lt_of_cell? _ _ hS5.2.2.2.2)).trans hS5.2.2.2.2⟩))
        all_goals
          have HF6 := Lib.hid (HF3.out.trans (FA5.trans F6))
          clear F6 FA5 F5 hI5 hS5 hS6 p0 p1 p2 q0 q1
          cases bb
          · go_wp2_with fail
            go_ret
            exact ⟨by rw [HE.out]; rfl, HF6.out⟩
          · go_wp2_with fail
            go_ret
            exact ⟨by rw [HE.out]; rfl, HF6.out⟩
    · rw [if_neg he]
      clear HIB HST
      go_enter Try.func39, Try.ntmps39
      go_wp2_with fail
      refine (HCK.out _ HA.out).mono ?_
      rintro _ w2 ⟨rfl, F⟩
      have HF2 := Lib.hid (HA.out.trans F)
      have HBP2 := Lib.hid (HBP.out.fut F)
      clear p0 p1 p2 q0 q1 F HCK HA HBP HBQ
      obtain ⟨_, p0, p1, p2⟩ := HBP2.out
      go_wp2_with fail
      refine (HCO.out _).mono ?_
      rintro _ w3 ⟨rfl, F⟩
      have HF3 := Lib.hid (HF2.out.trans F)
      clear p0 p1 p2 F
      go_wp2_with fail
      refine (HAS.out _ HF3.out).mono ?_
      rintro _ _ ⟨rfl, rfl⟩
      go_wp2_with fail
      go_ret
      exact ⟨rfl, HF3.out⟩
  · rw [if_neg hc]
    generalize chkP r c S Y T = ce at *
    clear hA h
    go_enter Try.func39, Try.ntmps39
    go_wp2_with fail
    refine (HCK.out _ HA.out).mono ?_
    rintro _ w2 ⟨rfl, F⟩
    have HF2 := Lib.hid (HA.out.trans F)
    clear p0 p1 p2 q0 q1 F
    go_wp2_with fail
    go_ret
    exact ⟨rfl, HF2.out⟩
end
section
theorem res_cell0 {fn : Func} {ty : TypeId} (hf : fn.results = #[.cell 0 ty]) {tmps : Array Value} {w : World} {B : Nat} {cs : Array Value} (h0 : tmps.getD 0 undef = .pointer (some ⟨B, 0, none⟩))
    (hr : (loadVar ty ⟨B, 0, none⟩).run Try.prog w = .ok (.agg cs) w) :
    (results fn tmps).run Try.prog w = .ok (.agg cs) w := by
  rw [results_one_cell hf, h0]
  simp [asAddr, hr, Result.andThen]
theorem load24 {w : World} {B : Nat} {cs : Array Value} (hc : cs.size = 3) (hw : w.heap[B]? = some (.cells cs 24)) : (loadVar 24 ⟨B, 0, none⟩).run Try.prog w = .ok (.agg cs) w :=
  run_loadVar_row (P := Try.prog) w B 24 24 cs (0, 0) _ hw Try.underlying24 rfl (by rw [hc]; kernel_rfl)
theorem load26 {w : World} {B : Nat} {cs : Array Value} (hc : cs.size = 2) (hw : w.heap[B]? = some (.cells cs 26)) : (loadVar 26 ⟨B, 0, none⟩).run Try.prog w = .ok (.agg cs) w :=
  run_loadVar_row (P := Try.prog) w B 26 26 cs (0, 0) _ hw Try.underlying26 rfl (by rw [hc]; kernel_rfl)
theorem at_new1 (w : World) (o : Obj) (zs : List Int) : IntsAt ((w.alloc o).alloc (.cells (zs.map (Value.int .i64)).toArray 3)) (some ⟨w.heap.size + 1, 0, none⟩) zs := by
  have h := ints_new (w.alloc o) zs
  rw [World.size_alloc] at h
  exact h
theorem at_new2 (w : World) (o o2 : Obj) (zs : List Int) : IntsAt (((w.alloc o).alloc o2).alloc (.cells (zs.map (Value.int .i64)).toArray 3)) (some ⟨w.heap.size + 1 + 1, 0, none⟩) zs := by
  have h := ints_new ((w.alloc o).alloc o2) zs
  rw [World.size_alloc, World.size_alloc] at h
  exact h
theorem heap_new1 (w : World) (o o2 : Obj) : ((w.alloc o).alloc o2).heap[w.heap.size]? = some o := (RowKit.Below.heap_alloc _ _ _ (by simp)).trans (World.alloc_heap_new _ _)
theorem heap_new2 (w : World) (o o2 o3 : Obj) : (((w.alloc o).alloc o2).alloc o3).heap[w.heap.size]? = some o := (RowKit.Below.heap_alloc _ _ _ (by simp; omega)).trans (heap_new1 _ _ _)
set_option maxRecDepth 100000 in
theorem p61_any (w : World) : Calls Try.prog 61 #[] w fun e w' => e = .returned (parV 3 3 none 0 0) ∧ Fut w w' := by
  go_enter Try.func61, Try.ntmps61
  go_wp2_with fail
  refine bodyPost_ret (res_cell0 rfl rfl (load24 rfl (World.alloc_heap_new _ _))) rfl ?_
  exact ⟨rfl, Fut.alloc _ _⟩
set_option maxRecDepth 100000 in
theorem q63_any (w : World) : Calls Try.prog 63 #[] w fun e w' => ∃ l lc, e = .returned (parV 3 3 l 1 lc) ∧ 1 ≤ lc ∧ IntsAt w' l [4] ∧ Fut w w' := by
  go_enter Try.func63, Try.ntmps63
  go_wp2_with fail
  refine (list_id _ _).mono ?_
  rintro _ _ ⟨rfl, rfl⟩
  go_wp2_with fail
  refine bodyPost_ret (res_cell0 rfl rfl (load24 rfl (heap_new1 _ _ _))) rfl ?_
  exact ⟨_, _, rfl, Nat.le_refl _, at_new1 _ _ [4], (Fut.alloc _ _).trans (Fut.alloc _ _)⟩
set_option maxRecDepth 100000 in
theorem s64_any (w : World) : Calls Try.prog 64 #[] w fun e w' => ∃ l lc, e = .returned (parV 3 3 l 2 lc) ∧ 2 ≤ lc ∧ IntsAt w' l [3, 5] ∧ Fut w w' := by
  go_enter Try.func64, Try.ntmps64
  go_wp2_with fail
  refine (list_id _ _).mono ?_
  rintro _ _ ⟨rfl, rfl⟩
  go_wp2_with fail
  refine bodyPost_ret (res_cell0 rfl rfl (load24 rfl (heap_new1 _ _ _))) rfl ?_
  exact ⟨_, _, rfl, Nat.le_refl _, at_new1 _ _ [3, 5], (Fut.alloc _ _).trans (Fut.alloc _ _)⟩
set_option maxRecDepth 100000 in
theorem x62_any (w : World) : Calls Try.prog 62 #[] w fun e w' => ∃ l lc l2 lc2, e = .returned (plaV l 2 lc l2 2 lc2) ∧ 2 ≤ lc ∧ 2 ≤ lc2 ∧ IntsAt w' l [1, 3] ∧ IntsAt w' l2 [5, 7] ∧ Fut w w' := by
  go_enter Try.func62, Try.ntmps62
  go_wp2_with fail
  refine (list_id _ _).mono ?_
  rintro _ _ ⟨rfl, rfl⟩
  go_wp2_with fail
  refine (list_id _ _).mono ?_
  rintro _ _ ⟨rfl, rfl⟩
  go_wp2_with fail
  refine bodyPost_ret (res_cell0 rfl rfl (load26 rfl (heap_new2 _ _ _ _))) rfl ?_
  exact ⟨_, _, _, _, rfl, Nat.le_refl _, Nat.le_refl _, (at_new1 _ _ [1, 3]).fut (Fut.alloc _ _), at_new2 _ _ _ [5, 7], ((Fut.alloc _ _).trans (Fut.alloc _ _)).trans (Fut.alloc _ _)⟩
set_option maxRecDepth 100000 in
theorem z65_any (w : World) : Calls Try.prog 65 #[] w fun e w' => ∃ l lc l2 lc2, e = .returned (plaV l 2 lc l2 2 lc2) ∧ 2 ≤ lc ∧ 2 ≤ lc2 ∧ IntsAt w' l [0, 1] ∧ IntsAt w' l2 [7, 8] ∧ Fut w w' := by
  go_enter Try.func65, Try.ntmps65
  go_wp2_with fail
  refine (list_id _ _).mono ?_
  rintro _ _ ⟨rfl, rfl⟩
  go_wp2_with fail
  refine (list_id _ _).mono ?_
  rintro _ _ ⟨rfl, rfl⟩
  go_wp2_with fail
  refine bodyPost_ret (res_cell0 rfl rfl (load26 rfl (heap_new2 _ _ _ _))) rfl ?_
  exact ⟨_, _, _, _, rfl, Nat.le_refl _, Nat.le_refl _, (at_new1 _ _ [0, 1]).fut (Fut.alloc _ _), at_new2 _ _ _ [7, 8], ((Fut.alloc _ _).trans (Fut.alloc _ _)).trans (Fut.alloc _ _)⟩
set_option maxRecDepth 100000 in
theorem y67_any (w : World) : Calls Try.prog 67 #[] w fun e w' => ∃ l lc l2 lc2, e = .returned (plaV l 2 lc l2 2 lc2) ∧ 2 ≤ lc ∧ 2 ≤ lc2 ∧ IntsAt w' l [1, 3] ∧ IntsAt w' l2 [7, 5] ∧ Fut w w' := by
  go_enter Try.func67, Try.ntmps67
  go_wp2_with fail
  refine (list_id _ _).mono ?_
  rintro _ _ ⟨rfl, rfl⟩
  go_wp2_with fail
  refine (list_id _ _).mono ?_
  rintro _ _ ⟨rfl, rfl⟩
  go_wp2_with fail
  refine bodyPost_ret (res_cell0 rfl rfl (load26 rfl (heap_new2 _ _ _ _))) rfl ?_
  exact ⟨_, _, _, _, rfl, Nat.le_refl _, Nat.le_refl _, (at_new1 _ _ [1, 3]).fut (Fut.alloc _ _), at_new2 _ _ _ [7, 5], ((Fut.alloc _ _).trans (Fut.alloc _ _)).trans (Fut.alloc _ _)⟩
end
section
/-- isOn's question to one way. -/
theorem onLit_any (a : Option Addr) (cap : Nat) (zs : List Int) (s : Int) (S : Nat) (w : World) (hA : IntsAt w a zs) (hl : zs.length ≤ 1000)
    (hS : w.cell? ⟨S, 0, none⟩ = some (.int .i64 s)) :
    Calls Try.prog 136 #[.slice a zs.length cap, .pointer (some ⟨S, 0, none⟩)] w fun e w' => e = .returned (.bool (zs.contains s)) ∧ Fut w w' := by
  have HCT := Lib.hid (contains_any a cap zs s w hA hl)
  generalize zs.contains s = b at *
  clear hA
  go_enter Try.func136, Try.ntmps136
  go_wp2_with fail
  refine HCT.out.mono ?_
  rintro _ _ ⟨rfl, rfl⟩
  go_wp2_with fail
  go_ret
  exact ⟨rfl, Fut.rfl⟩
/-- does one of the ways hold s? -/
def onL (zss : List (List Int)) (s : Int) : Bool := zss.any fun l => l.contains s
theorem onL_cons (l : List Int) (zss : List (List Int)) (s : Int) : onL (l :: zss) s = (l.contains s || onL zss s) := rfl
theorem onIndex (a : Option Addr) (cap : Nat) (zss : List (List Int)) (s : Int) (S : Nat) (w : World) (hL : LstAt w a zss) (hd : ∀ k, k < zss.length → (lth zss k).length ≤ 1000) (hl : zss.length ≤ 1000)
    (hS : w.cell? ⟨S, 0, none⟩ = some (.int .i64 s)) (hSz : S < w.heap.size) :
    Calls Try.prog 137 #[.slice a zss.length cap, .func (.func 136) #[] #[.pointer (some ⟨S, 0, none⟩)]] w fun e w' => ∃ r : Int, e = .returned (.int .i64 r) ∧ decide (0 ≤ r) = onL zss s ∧ Fut w w' := by
  have HL := Lib.hid hL
  have HLIT := Lib.hid (fun (l : Option Addr) (lc : Nat) zs (W : World) (hI : IntsAt W l zs) (hz : zs.length ≤ 1000) (F : Fut w W) => onLit_any l lc zs s S W hI hz ((RowKit.Below.cell F (p := ⟨S, 0, none⟩) hSz).trans hS))
  have HD := Lib.hid hd
  have hlx : (zss.length : Int) ≤ 1000 := by omega
  clear hL hS hSz hd
  generalize hE : onL zss s = E at *
  have HE := Lib.hid hE
  clear hE
  go_enter Try.func137, Try.ntmps137
  go_wp2_with fail
  go_loopw [8] (fun iv wr => ∃ k : Nat, k ≤ zss.length ∧ iv = .int .i64 k ∧ Hid (onL (zss.drop k) s = E) ∧ Hid (Fut w wr)) (fun iv _ => zss.length - (intOf iv).toNat)
  case atStart => exact ⟨0, Nat.zero_le _, rfl, HE, Lib.hid Fut.rfl⟩
  case round =>
    obtain ⟨k, hk, rfl, HO, HF⟩ := hrel
    by_cases hlt : k < zss.length
    · have hkx : (k : Int) < zss.length := by omega
      obtain ⟨bb, off, l, lc, ea, hbb, d1, hI⟩ := (HL.out.fut HF.out) k hlt
      subst ea
      have hd := lth_drop zss k hlt
      rw [hd, onL_cons] at HO
      have HC := Lib.hid (HLIT.out l lc (lth zss k) wr hI (HD.out k hlt) HF.out)
      generalize lth zss k = zs at *
      clear hd hI
      cases hq : zs.contains s
      · rw [hq] at HC HO
        rw [Bool.false_or] at HO
        clear hq
        go_wp2_with fail
        refine HC.out.mono ?_
        rintro _ w3 ⟨rfl, F⟩
        have HF3 := Lib.hid (HF.out.trans F)
        clear F
        go_wp2
        go_round
        case rel => exact ⟨k + 1, by omega, by go_num, HO, HF3⟩
        case measure => simp [intOf]; omega
      · rw [hq] at HC HO
        rw [Bool.true_or] at HO
        have hE : E = true := HO.out.symm
        subst hE
        clear hq
        go_wp2_with fail
        refine HC.out.mono ?_
        rintro _ w3 ⟨rfl, F⟩
        have HF3 := Lib.hid (HF.out.trans F)
        clear F
        go_wp2
        go_ret
        exact ⟨_, rfl, by simp, HF3.out⟩
    · obtain rfl : k = zss.length := by omega
      rw [List.drop_of_length_le (Nat.le_refl _)] at HO
      have hE : E = false := HO.out.symm
      subst hE
      go_wp2
      go_ret
      exact ⟨_, rfl, by simp, HF.out⟩
theorem onContains (a : Option Addr) (cap : Nat) (zss : List (List Int)) (s : Int) (S : Nat) (w : World) (hL : LstAt w a zss) (hd : ∀ k, k < zss.length → (lth zss k).length ≤ 1000) (hl : zss.length ≤ 1000)
    (hS : w.cell? ⟨S, 0, none⟩ = some (.int .i64 s)) (hSz : S < w.heap.size) :
    Calls Try.prog 135 #[.slice a zss.length cap, .func (.func 136) #[] #[.pointer (some ⟨S, 0, none⟩)]] w fun e w' => e = .returned (.bool (onL zss s)) ∧ Fut w w' := by
  have H := Lib.hid (onIndex a cap zss s S w hL hd hl hS hSz)
  clear hL hS hSz hd
  generalize onL zss s = E at *
  go_enter Try.func135, Try.ntmps135
  go_wp2_with fail
  refine H.out.mono ?_
  rintro _ w3 ⟨r, rfl, hr, F⟩
  have HR := Lib.hid hr
  have HF := Lib.hid F
  clear hr F
  go_wp2
  go_ret
  exact ⟨retb HR.out, HF.out⟩
theorem isOn_any (a : Option Addr) (cap : Nat) (zss : List (List Int)) (s : Int) (w : World) (hL : LstAt w a zss) (hd : ∀ k, k < zss.length → (lth zss k).length ≤ 1000) (hl : zss.length ≤ 1000) :
    Calls Try.prog 133 #[.slice a zss.length cap, .int .i64 s] w fun e w' => e = .returned (.bool (onL zss s)) ∧ Fut w w' := by
  have F2 : Fut w (w.alloc (.cells #[.int .i64 s] 3)) := Fut.alloc _ _
  have H := Lib.hid (onContains a cap zss s w.heap.size (w.alloc (.cells #[.int .i64 s] 3)) (hL.fut F2) hd hl (by simp) (by simp))
  have HF := Lib.hid F2
  clear hL hd F2
  generalize onL zss s = E at *
  go_enter Try.func133, Try.ntmps133
  go_wp2_with fail
  refine H.out.mono ?_
  rintro _ w3 ⟨rfl, F⟩
  have HF3 := Lib.hid (HF.out.trans F)
  clear F
  go_wp2
  go_ret
  exact ⟨rfl, HF3.out⟩
theorem lists_id (v : Value) (w : World) : Calls Try.prog 66 #[v] w fun e w' => e = .returned v ∧ w = w' := by
  go_enter Try.func66, Try.ntmps66
  go_wp2
  go_ret
  exact ⟨rfl, rfl⟩
end
section
/-- apart makes the search and keeps both boxes. -/
theorem aptF_any (r c : Int) (a : Option Addr) (n cap : Nat) (ya : Option Addr) (yn yc : Nat) (ta : Option Addr) (tn tc : Nat) (w : World) :
    Calls Try.prog 81 #[parV r c a n cap, plaV ya yn yc ta tn tc] w fun e w' => e = .returned (.func (.func 110) #[] #[.pointer (some ⟨w.heap.size + 1, 0, none⟩), .pointer (some ⟨w.heap.size, 0, none⟩)]) ∧ Fut w w' ∧ BoxP w' w.heap.size r c a n cap ∧ BoxQ w' (w.heap.size + 1) ya yn yc ta tn tc := by
  have hA : Fut w ((w.alloc (.cells #[.int .i64 r, .int .i64 c, .slice a n cap] 24)).alloc (.cells #[.slice ya yn yc, .slice ta tn tc] 26)) := (Fut.alloc _ _).trans (Fut.alloc _ _)
  have hBP := (BoxP.new w r c a n cap).fut (Fut.alloc _ (.cells #[.slice ya yn yc, .slice ta tn tc] 26))
  have hBQ := BoxQ.new (w.alloc (.cells #[.int .i64 r, .int .i64 c, .slice a n cap] 24)) ya yn yc ta tn tc
  rw [World.size_alloc] at hBQ
  have HA := Lib.hid hA
  have HBP := Lib.hid hBP
  have HBQ := Lib.hid hBQ
  clear hA hBP hBQ
  go_enter Try.func81, Try.ntmps81
  go_wp2_with fail
  go_ret
  exact ⟨rfl, HA.out, HBP.out, HBQ.out⟩
end
section
open Go.Joins Go.ChangeShapes Go.WideShapes Go.ChangeAt
theorem cT24 : Try.prog.cellsOf 24 = 3 := by kernel_rfl
theorem cT26 : Try.prog.cellsOf 26 = 2 := by kernel_rfl
theorem arr2 {α : Type} {a : Array α} (h : a.size = 2) : ∃ x y, a = #[x, y] := by
  obtain ⟨l⟩ := a
  match l, h with
  | [x, y], _ => exact ⟨x, y, rfl⟩
theorem arr3 {α : Type} {a : Array α} (h : a.size = 3) : ∃ x y z, a = #[x, y, z] := by
  obtain ⟨l⟩ := a
  match l, h with
  | [x, y, z], _ => exact ⟨x, y, z, rfl⟩
theorem lis2 {α : Type} {l : List α} (h : l.length = 2) : ∃ x y, l = [x, y] := by
  match l, h with
  | [x, y], _ => exact ⟨x, y, rfl⟩
theorem lis3 {α : Type} {l : List α} (h : l.length = 3) : ∃ x y z, l = [x, y, z] := by
  match l, h with
  | [x, y, z], _ => exact ⟨x, y, z, rfl⟩
set_option maxRecDepth 100000 in
/-- a parish that came in. -/
theorem open_parish {H : Type} {enc : TypeId × Value → H} {w : World} {b0 : Nat} {r : Reach} {v : Value} {d : DataW H} {p : List MemPlace}
    (hv : Value.okWide Try.prog w r b0 24 v) (h : DataW.Trod enc Try.prog w 0 (fun _ => true) true 24 v d p) :
    ∃ x y a cap S, v = parV x y a (List.length S) cap ∧ S.length ≤ cap ∧ cap ≤ 9223372036854775807 ∧ IntsAt w a S := by
  obtain ⟨cs, rfl, hsz⟩ := okWide_struct Try.underlying24 hv
  obtain ⟨c0, c1, c2, rfl⟩ := arr3 (hsz.trans cT24)
  obtain ⟨fuel, hf⟩ := h
  obtain ⟨xs, m, _, _, _, hxl, hfs⟩ := DataW.trod_struct Try.underlying24 hf
  obtain ⟨x0, x1, x2, rfl⟩ := lis3 hxl
  have h0 := hfs 0 _ rfl
  have h1 := hfs 1 _ rfl
  have h2 := hfs 2 _ rfl
  clear hfs hv hsz hf hxl
  simp [Value.cells, cT3, cT22] at h0 h1 h2
  obtain ⟨a0, e0, _, w0⟩ := DataW.trod_int Try.underlying3 h0
  obtain ⟨a1, e1, _, w1⟩ := DataW.trod_int Try.underlying3 h1
  obtain ⟨a, cap, S, e2, hl, hm, hS⟩ := open_slc h2
  simp at e0 e1 e2
  subst e0
  subst e1
  subst e2
  exact ⟨a0, a1, a, cap, S, rfl, hl, hm, hS⟩
set_option maxRecDepth 100000 in
/-- places that came in. -/
theorem open_places {H : Type} {enc : TypeId × Value → H} {w : World} {b0 : Nat} {r : Reach} {v : Value} {d : DataW H} {p : List MemPlace}
    (hv : Value.okWide Try.prog w r b0 26 v) (h : DataW.Trod enc Try.prog w 0 (fun _ => true) true 26 v d p) :
    ∃ ya yc Y ta tc T, v = plaV ya (List.length Y) yc ta (List.length T) tc ∧ Y.length ≤ yc ∧ T.length ≤ tc ∧ IntsAt w ya Y ∧ IntsAt w ta T := by
  obtain ⟨cs, rfl, hsz⟩ := okWide_struct Try.underlying26 hv
  obtain ⟨c0, c1, rfl⟩ := arr2 (hsz.trans cT26)
  obtain ⟨fuel, hf⟩ := h
  obtain ⟨xs, m, _, _, _, hxl, hfs⟩ := DataW.trod_struct Try.underlying26 hf
  obtain ⟨x0, x1, rfl⟩ := lis2 hxl
  have h0 := hfs 0 _ rfl
  have h1 := hfs 1 _ rfl
  clear hfs hv hsz hf hxl
  simp [Value.cells, cT22] at h0 h1
  obtain ⟨ya, yc, Y, e0, hl, _, hY⟩ := open_slc h0
  obtain ⟨ta, tc, T, e1, hl1, _, hT⟩ := open_slc h1
  simp at e0 e1
  subst e0
  subst e1
  exact ⟨ya, yc, Y, ta, tc, T, rfl, hl, hl1, hY, hT⟩
end
section
/-- is what came in too large? -/
def larB (S Y T : List Int) : Bool := decide (40 < S.length) || decide (40 < Y.length) || decide (40 < T.length)
theorem larB_off {S Y T : List Int} (h : larB S Y T = false) : S.length ≤ 40 ∧ Y.length ≤ 40 ∧ T.length ≤ 40 := by
  unfold larB at h
  simp only [Bool.or_eq_false_iff, decide_eq_false_iff_not] at h
  omega
set_option maxRecDepth 100000 in
set_option maxHeartbeats 2000000 in
theorem large_any (r c : Int) (a : Option Addr) (cap : Nat) (S : List Int) (ya : Option Addr) (yc : Nat) (Y : List Int) (ta : Option Addr) (tc : Nat) (T : List Int) (w : World) :
    Calls Try.prog 14 #[parV r c a S.length cap, plaV ya Y.length yc ta T.length tc] w fun e w' => e = .returned (.bool (larB S Y T)) ∧ Fut w w' := by
  have hA : Fut w ((w.alloc (.cells #[.int .i64 r, .int .i64 c, .slice a S.length cap] 24)).alloc (.cells #[.slice ya Y.length yc, .slice ta T.length tc] 26)) := (Fut.alloc _ _).trans (Fut.alloc _ _)
  have hBP := (BoxP.new w r c a S.length cap).fut (Fut.alloc _ (.cells #[.slice ya Y.length yc, .slice ta T.length tc] 26))
  have hBQ := BoxQ.new (w.alloc (.cells #[.int .i64 r, .int .i64 c, .slice a S.length cap] 24)) ya Y.length yc ta T.length tc
  rw [World.size_alloc] at hBQ
  have HA := Lib.hid hA
  obtain ⟨_, p0, p1, p2⟩ := hBP
  obtain ⟨_, q0, q1⟩ := hBQ
  obtain ⟨E, HE⟩ : ∃ E, Hid (larB S Y T = E) := ⟨_, Lib.hid rfl⟩
  rw [HE.out]
  unfold larB at HE
  generalize S.length = sn at *
  generalize Y.length = yn at *
  generalize T.length = tn at *
  clear hA
  by_cases h1 : 40 < sn
  · have h1x : (40 : Int) < (sn : Int) := by omega
    have hE : E = true := by rw [← HE.out]; simp [h1]
    clear HE
    go_enter Try.func14, Try.ntmps14
    go_wp2_with fail
    go_ret
    exact ⟨by first | rfl | (rw [hE]; rfl), HA.out⟩
  · have h1x : ¬ (40 : Int) < (sn : Int) := by omega
    by_cases h2 : 40 < yn
    · have h2x : (40 : Int) < (yn : Int) := by omega
      have hE : E = true := by rw [← HE.out]; simp [h2]
      clear HE
      go_enter Try.func14, Try.ntmps14
      go_wp2_with fail
      go_ret
      exact ⟨by first | rfl | (rw [hE]; rfl), HA.out⟩
    · have h2x : ¬ (40 : Int) < (yn : Int) := by omega
      by_cases h3 : 40 < tn
      · have h3x : (40 : Int) < (tn : Int) := by omega
        have hE : E = true := by rw [← HE.out]; simp [h3]
        clear HE
        go_enter Try.func14, Try.ntmps14
        go_wp2_with fail
        go_ret
        exact ⟨by first | rfl | (rw [hE]; rfl), HA.out⟩
      · have h3x : ¬ (40 : Int) < (tn : Int) := by omega
        have hE : E = false := by rw [← HE.out]; simp [h1, h2, h3]
        clear HE
        go_enter Try.func14, Try.ntmps14
        go_wp2_with fail
        go_ret
        exact ⟨by first | rfl | (rw [hE]; rfl), HA.out⟩
end
section
theorem BoxR.new (w : World) (r c : Int) (a : Option Addr) (n cap : Nat) : BoxP (w.alloc (.cells #[.int .i64 r, .int .i64 c, .slice a n cap] 29)) w.heap.size r c a n cap := by
  have h := World.alloc_heap_new w (.cells #[.int .i64 r, .int .i64 c, .slice a n cap] 29)
  exact ⟨by simp, by unfold World.cell?; rw [h]; rfl, by unfold World.cell?; rw [h]; rfl, by unfold World.cell?; rw [h]; rfl⟩
set_option maxRecDepth 100000 in
theorem rcorner_any (r c m : Int) (hs : Side r c m) (a : Option Addr) (n cap : Nat) (x : Int) (w : World) :
    Calls Try.prog 71 #[parV r c a n cap, .int .i64 x] w fun e w' => e = .returned (.bool (inB m x)) ∧ Fut w w' := by
  have hm := hs.m
  obtain ⟨h1, h2, h3, h4, h5⟩ := hs
  obtain ⟨hm1, hm2⟩ := hm
  have hw : IntKind.i64.wrap (r * c) = m := by rw [h5]; exact IntWalk.i64_in _ ⟨by omega, by omega⟩
  have hw2 : wrap64 (r * c) = m := by rw [h5]; unfold wrap64; omega
  have HF : Hid (Fut w (w.alloc (.cells #[.int .i64 r, .int .i64 c, .slice a n cap] 29))) := Lib.hid (Fut.alloc _ _)
  have HR := Lib.hid (fun W => rin_any x 0 (m - 1) W)
  have hin : Hid ((decide (0 ≤ x) && decide (x ≤ m - 1)) = inB m x) := Lib.hid (by
    unfold inB
    congr 1
    rw [decide_eq_decide]
    omega)
  clear h5
  go_enter Try.func71, Try.ntmps71
  go_wp2_with fail
  refine (HR.out _).mono ?_
  rintro _ _ ⟨rfl, rfl⟩
  go_wp2_with fail
  go_ret
  exact ⟨by rw [← hin.out]; rfl, HF.out⟩
end
section
/-- is there a step from x to y? -/
def rstE (c x y : Int) : Bool := (decide (y = x + 1) && decide (0 < y % c)) || decide (y = x + c)
set_option maxRecDepth 100000 in
theorem rstep_any (r c m : Int) (hs : Side r c m) (a : Option Addr) (n cap : Nat) (x y : Int) (hx : 0 ≤ x ∧ x ≤ 16) (hy : 0 ≤ y ∧ y ≤ 16) (w : World) :
    Calls Try.prog 88 #[parV r c a n cap, .int .i64 x, .int .i64 y] w fun e w' => e = .returned (.bool (rstE c x y)) ∧ Fut w w' := by
  obtain ⟨h1, h2, h3, h4, _⟩ := hs
  have HF : Hid (Fut w (w.alloc (.cells #[.int .i64 r, .int .i64 c, .slice a n cap] 29))) := Lib.hid (Fut.alloc _ _)
  obtain ⟨E, HE⟩ : ∃ E, Hid (rstE c x y = E) := ⟨_, Lib.hid rfl⟩
  rw [HE.out]
  obtain ⟨hx0, hx1⟩ := hx
  obtain ⟨hy0, hy1⟩ := hy
  have hc0 : ¬ c = 0 := by omega
  have hw1 : IntKind.i64.wrap (x + 1) = x + 1 := IntWalk.i64_in _ ⟨by omega, by omega⟩
  have hw2 : IntKind.i64.wrap (x + c) = x + c := IntWalk.i64_in _ ⟨by omega, by omega⟩
  go_enter Try.func88, Try.ntmps88
  go_wp2_with fail
  all_goals
    rename_i h9
    go_ret
    refine ⟨?_, HF.out⟩
    rw [← HE.out]
    refine retb ?_
    unfold rstE
    rw [Bool.eq_iff_iff]
    simp only [Bool.or_eq_true, Bool.and_eq_true, decide_eq_true_eq, beq_iff_eq, true_iff]
    first
      | omega
      | (rename_i h8; subst h8; exact .inl ⟨rfl, h9⟩)
      | (rename_i h8; subst h8; simp only [true_and])
      | (rename_i h8; subst h8; simp only [true_and]; omega)
      | (subst h9; simp only [true_and])
      | (simp_all)
end
section
set_option maxRecDepth 100000 in
set_option maxHeartbeats 4000000 in
theorem rasc_any (r c m : Int) (hs : Side r c m) (a : Option Addr) (n cap : Nat) (b : Option Addr) (bap : Nat) (zs : List Int) (w : World) (hS : IntsAt w b zs) (hl : zs.length ≤ 1000) :
    Calls Try.prog 77 #[parV r c a n cap, .slice b zs.length bap] w fun e w' => e = .returned (.int .i64 (ascE m zs)) ∧ Fut w w' := by
  have HCR := Lib.hid (fun x W => rcorner_any r c m hs a n cap x W)
  have HB := Lib.hid hS
  have hzx : (zs.length : Int) ≤ 1000 := by omega
  have HE : Hid (ascE m zs = ascF m zs (zs.drop 0) 0) := Lib.hid rfl
  have hA : Fut w (w.alloc (.cells #[.int .i64 r, .int .i64 c, .slice a n cap] 29)) := Fut.alloc _ _
  have HBP := Lib.hid (BoxR.new w r c a n cap)
  have HA := Lib.hid hA
  generalize ascE m zs = E at *
  clear hS hl hs hA
  go_enter Try.func77, Try.ntmps77
  go_wp2_with fail
  generalize w.alloc (.cells #[.int .i64 r, .int .i64 c, .slice a n cap] 29) = w1 at *
  have HF0 : Hid (Fut w1 w1) := Lib.hid Fut.rfl
  go_loopw [5] (fun kv wr => ∃ k : Nat, k ≤ zs.length ∧ kv = .int .i64 k ∧ Hid (E = ascF m zs (zs.drop k) k) ∧ Hid (Fut w1 wr)) (fun kv _ => zs.length - (intOf kv).toNat)
  case atStart => exact ⟨0, Nat.zero_le _, rfl, HE, HF0⟩
  case round =>
    obtain ⟨k, hk, rfl, HK, HF⟩ := hrel
    clear HE HF0
    by_cases hkl : k < zs.length
    · have hkx : (k : Int) < zs.length := by omega
      have hkk := HK.out
      rw [nth_drop zs k hkl, ascF] at hkk
      obtain ⟨bb, o, rfl, hb, c1⟩ := (HB.out.fut (HA.out.trans HF.out)) k hkl
      have HPV : Hid (∀ W, Fut w1 W → 0 < k → W.cell? ⟨bb, o + (k - 1), none⟩ = some (.int .i64 (nth zs (k - 1)))) := Lib.hid (fun W G h0 => by
        obtain ⟨b1, o1, e1, hb1, c2⟩ := (HB.out.fut (HA.out.trans G)) (k - 1) (by omega)
        simp only [Option.some.injEq, Addr.mk.injEq, and_true] at e1
        obtain ⟨rfl, rfl⟩ := e1
        exact c2)
      have HCV : Hid (∀ W, Fut w1 W → W.cell? ⟨bb, o + k, none⟩ = some (.int .i64 (nth zs k))) := Lib.hid (fun W G => by
        obtain ⟨b1, o1, e1, hb1, c2⟩ := (HB.out.fut (HA.out.trans G)) k hkl
        simp only [Option.some.injEq, Addr.mk.injEq, and_true] at e1
        obtain ⟨rfl, rfl⟩ := e1
        exact c2)
      have HCX := Lib.hid (HCR.out (nth zs k))
      have HKK := Lib.hid hkk
      generalize nth zs (k - 1) = y at *
      generalize nth zs k = x at *
      generalize inB m x = bi at *
      obtain ⟨_, p0, p1, p2⟩ := HBP.out.fut HF.out
      have hlp := World.block_lt_of_cell? _ _ p0
      clear hkk HK hb
      go_upto_region 4 with fail
      go_region_held3 (fun w' => w'.cell? ⟨w.heap.size, 0, none⟩ = some (.int .i64 r) ∧ w'.cell? ⟨w.heap.size, 1, none⟩ = some (.int .i64 c) ∧ w'.cell? ⟨w.heap.size, 2, none⟩ = some (.slice a n cap) ∧ w'.cell? ⟨bb, o + k, none⟩ = some (.int .i64 x)) (first | exact hS5 | exact ⟨p0, p1, p2, c1⟩)
        (first
          | (go_at_call 71; refine (HCX.out _).mono ?_; rintro _ w5 ⟨rfl, F5⟩; have FA5 : Fut wr w5 := Fut.trans (Fut.drewN wr 1) F5; have hS5 : w5.cell? ⟨w.heap.size, 0, none⟩ = some (.int .i64 r) ∧ w5.cell? ⟨w.heap.size, 1, none⟩ = some (.int .i64 c) ∧ w5.cell? ⟨w.heap.size, 2, none⟩ = some (.slice a n cap) ∧ w5.cell? ⟨bb, o + k, none⟩ = some (.int .i64 x) := ⟨(RowKit.Below.cell FA5 (p := ⟨w.heap.size, 0, none⟩) hlp).trans p0, (RowKit.Below.cell FA5 (p := ⟨w.heap.size, 1, none⟩) hlp).trans p1, (RowKit.Below.cell FA5 (p := ⟨w.heap.size, 2, none⟩) hlp).trans p2, HCV.out w5 (HF.out.trans FA5)⟩))
      have HF5 := Lib.hid (HF.out.trans FA5)
      clear F5 FA5 hS5 p0 p1 p2 c1 hlp HF
      cases bi
      · have HE2 : Hid (E = 2) := Lib.hid HKK.out
        clear HKK
        go_wp2_with fail
        go_ret
        exact ⟨ret_int HE2.out.symm, HA.out.trans HF5.out⟩
      · have hkk := HKK.out
        rw [if_pos rfl] at hkk
        have c1 := HCV.out w5 HF5.out
        by_cases hk0 : 0 < k
        · have hk0x : (0 : Int) < k := by omega
          have c2 := HPV.out w5 HF5.out hk0
          have hwk : IntKind.i64.wrap ((k : Int) - 1) = ((k - 1 : Nat) : Int) := by rw [IntWalk.i64_in _ ⟨by omega, by omega⟩]; omega
          have hwk2 : wrap64 ((k : Int) - 1) = ((k - 1 : Nat) : Int) := by unfold wrap64; omega
          have hk1x : ((k - 1 : Nat) : Int) < zs.length := by omega
          generalize k - 1 = k1 at *
          by_cases hle : x ≤ y
          · rw [if_pos ⟨hk0, hle⟩] at hkk
            have HE2 := Lib.hid hkk
            clear hkk HKK
            go_upto_region 6 with fail
            go_quiet (fail)
            have HF6 := Lib.hid (HF5.out.trans (Fut.drewN w5 nq))
            go_wp2_with fail
            go_ret
            exact ⟨ret_int HE2.out.symm, HA.out.trans HF6.out⟩
          · rw [if_neg (fun h => hle h.2)] at hkk
            have HE2 := Lib.hid hkk
            clear hkk HKK
            go_upto_region 6 with fail
            go_quiet (fail)
            have HF6 := Lib.hid (HF5.out.trans (Fut.drewN w5 nq))
            clear hwk hwk2
            go_wp2_with fail
            go_roundw
            all_goals first
              | exact ⟨k + 1, by omega, by go_num, HE2, HF6⟩
              | ((repeat apply Exists.intro); exact ⟨⟨k + 1, by omega, by go_num, HE2, HF6⟩, rfl⟩)
              | (simp [intOf]; omega)
        · have hk0x : ¬ (0 : Int) < k := by omega
          rw [if_neg (fun h => hk0 h.1)] at hkk
          have HE2 := Lib.hid hkk
          clear hkk HKK
          go_upto_region 6 with fail
          go_quiet (fail)
          have HF6 := Lib.hid (HF5.out.trans (Fut.drewN w5 nq))
          go_wp2_with fail
          go_roundw
          all_goals first
            | exact ⟨k + 1, by omega, by go_num, HE2, HF6⟩
            | ((repeat apply Exists.intro); exact ⟨⟨k + 1, by omega, by go_num, HE2, HF6⟩, rfl⟩)
            | (simp [intOf]; omega)
    · obtain rfl : k = zs.length := by omega
      have hkk := HK.out
      rw [List.drop_length, ascF] at hkk
      have HE2 := Lib.hid hkk
      clear hkk
      go_wp2_with fail
      go_ret
      exact ⟨ret_int HE2.out.symm, HA.out.trans HF.out⟩
end
section
set_option maxRecDepth 100000 in
set_option maxHeartbeats 4000000 in
theorem rdif_any (r c m : Int) (hs : Side r c m) (a : Option Addr) (cap : Nat) (S : List Int) (b : Option Addr) (bap : Nat) (zs : List Int) (w : World) (hS : IntsAt w a S) (hl : S.length ≤ 1000) (hZ : IntsAt w b zs) (hzl : zs.length ≤ 1000) (hzc : zs.length ≤ bap) :
    Calls Try.prog 78 #[parV r c a S.length cap, .slice b zs.length bap] w fun e w' => e = .returned (.int .i64 (difE m S zs)) ∧ Fut w w' := by
  have HCR := Lib.hid (fun x W => rcorner_any r c m hs a S.length cap x W)
  have HHS := Lib.hid (fun x W (F : Fut w W) => rhas_any a cap S x W (hS.fut F) hl)
  have HB := Lib.hid hZ
  have hzx : (zs.length : Int) ≤ 1000 := by omega
  have HE : Hid (difE m S zs = difF m S zs (zs.drop 0) 0) := Lib.hid rfl
  have hA : Fut w (w.alloc (.cells #[.int .i64 r, .int .i64 c, .slice a S.length cap] 29)) := Fut.alloc _ _
  have HBP := Lib.hid (BoxR.new w r c a S.length cap)
  have HA := Lib.hid hA
  generalize difE m S zs = E at *
  clear hS hl hs hA hZ
  go_enter Try.func78, Try.ntmps78
  go_wp2_with fail
  generalize w.alloc (.cells #[.int .i64 r, .int .i64 c, .slice a S.length cap] 29) = w1 at *
  have HF0 : Hid (Fut w1 w1) := Lib.hid Fut.rfl
  go_loopw [5] (fun kv wr => ∃ k : Nat, k ≤ zs.length ∧ kv = .int .i64 k ∧ Hid (E = difF m S zs (zs.drop k) k) ∧ Hid (Fut w1 wr)) (fun kv _ => zs.length - (intOf kv).toNat)
  case atStart => exact ⟨0, Nat.zero_le _, rfl, HE, HF0⟩
  case round =>
    obtain ⟨k, hk, rfl, HK, HF⟩ := hrel
    clear HE HF0
    by_cases hkl : k < zs.length
    · have hkx : (k : Int) < zs.length := by omega
      have hkk := HK.out
      rw [nth_drop zs k hkl, difF, atE] at hkk
      obtain ⟨bb, o, rfl, hb, c1⟩ := (HB.out.fut (HA.out.trans HF.out)) k hkl
      have HCV : Hid (∀ W, Fut w1 W → W.cell? ⟨bb, o + k, none⟩ = some (.int .i64 (nth zs k))) := Lib.hid (fun W G => by
        obtain ⟨b1, o1, e1, hb1, c2⟩ := (HB.out.fut (HA.out.trans G)) k hkl
        simp only [Option.some.injEq, Addr.mk.injEq, and_true] at e1
        obtain ⟨rfl, rfl⟩ := e1
        exact c2)
      have hst := fun W => slice_toI bb o zs.length bap k (by omega) W
      have HCT := Lib.hid (fun W (F : Fut w W) => rhas_any (some ⟨bb, o, none⟩) bap (zs.take k) (nth zs k) W ((HB.out.fut F).take k) (by rw [List.length_take]; omega))
      rw [List.length_take, Nat.min_eq_left (by omega)] at HCT
      have HCX := Lib.hid (HCR.out (nth zs k))
      have HHX := Lib.hid (HHS.out (nth zs k))
      have HKK := Lib.hid hkk
      generalize (zs.take k).contains (nth zs k) = bc at *
      generalize nth zs k = x at *
      generalize inB m x = bi at *
      generalize S.contains x = bs at *
      obtain ⟨_, p0, p1, p2⟩ := HBP.out.fut HF.out
      have hlp := World.block_lt_of_cell? _ _ p0
      clear hkk HK hb
      go_upto_region 4 with fail
      go_region_held3 (fun w' => w'.cell? ⟨w.heap.size, 0, none⟩ = some (.int .i64 r) ∧ w'.cell? ⟨w.heap.size, 1, none⟩ = some (.int .i64 c) ∧ w'.cell? ⟨w.heap.size, 2, none⟩ = some (.slice a S.length cap) ∧ w'.cell? ⟨bb, o + k, none⟩ = some (.int .i64 x)) (first | exact hS5 | exact ⟨p0, p1, p2, c1⟩)
        (first
          | (go_at_call 71; refine (HCX.out _).mono ?_; rintro _ w5 ⟨rfl, F5⟩; have FA5 : Fut wr w5 := Fut.trans (Fut.drewN wr 1) F5; have hS5 : w5.cell? ⟨w.heap.size, 0, none⟩ = some (.int .i64 r) ∧ w5.cell? ⟨w.heap.size, 1, none⟩ = some (.int .i64 c) ∧ w5.cell? ⟨w.heap.size, 2, none⟩ = some (.slice a S.length cap) ∧ w5.cell? ⟨bb, o + k, none⟩ = some (.int .i64 x) := ⟨(RowKit.Below.cell FA5 (p := ⟨w.heap.size, 0, none⟩) hlp).trans p0, (RowKit.Below.cell FA5 (p := ⟨w.heap.size, 1, none⟩) hlp).trans p1, (RowKit.Below.cell FA5 (p := ⟨w.heap.size, 2, none⟩) hlp).trans p2, HCV.out w5 (HF.out.trans FA5)⟩))
      have HF5 := Lib.hid (HF.out.trans FA5)
      clear F5 FA5 hS5 p0 p1 p2 c1 hlp HF
      cases bi
      · have HE2 : Hid (E = 2) := Lib.hid HKK.out
        clear HKK
        go_wp2_with fail
        go_ret
        exact ⟨ret_int HE2.out.symm, HA.out.trans HF5.out⟩
      · have hkk := HKK.out
        rw [if_pos rfl] at hkk
        have HK3 := Lib.hid hkk
        clear hkk HKK
        have c1 := HCV.out w5 HF5.out
        obtain ⟨_, p0, p1, p2⟩ := HBP.out.fut HF5.out
        have HQ := Lib.hid (fun n => HHX.out (w5.drewN n) ((HA.out.trans HF5.out).trans (Fut.drewN _ n)))
        go_upto_region 6 with fail
        go_quiet (first | (with_reducible (go_at_call 87; exact Calls.quiet_of_same ((HQ.out _).mono fun _ _ ⟨h, h'⟩ => ⟨h, h'.symm⟩))))
        have HF6 := Lib.hid (HF5.out.trans (Fut.drewN w5 nq))
        clear HF5 HQ c1 p0 p1 p2
        generalize w5.drewN nq = w6 at *
        cases bs
        · have hkk := HK3.out
          rw [if_pos (show (if false = true then (20 : Int) else 0) = 0 from rfl)] at hkk
          have HK4 := Lib.hid hkk
          clear hkk HK3
          have c1 := HCV.out w6 HF6.out
          have HQ := Lib.hid (fun n => HCT.out (w6.drewN n) ((HA.out.trans HF6.out).trans (Fut.drewN _ n)))
          go_upto_region 8 with fail
          go_quiet (first | (with_reducible (go_at_call 87; exact Calls.quiet_of_same ((HQ.out _).mono fun _ _ ⟨h, h'⟩ => ⟨h, h'.symm⟩))))
          have HF7 := Lib.hid (HF6.out.trans (Fut.drewN w6 nq))
          clear HF6 HQ c1
          generalize w6.drewN nq = w7 at *
          cases bc
          · have hkk := HK4.out
            rw [if_neg (by decide)] at hkk
            have HE2 := Lib.hid hkk
            clear hkk HK4
            go_wp2_with fail
            go_roundw
            all_goals first
              | exact ⟨k + 1, by omega, by go_num, HE2, HF7⟩
              | ((repeat apply Exists.intro); exact ⟨⟨k + 1, by omega, by go_num, HE2, HF7⟩, rfl⟩)
              | (simp [intOf]; omega)
          · have HE2 : Hid (E = 6) := Lib.hid HK4.out
            clear HK4
            go_wp2_with fail
            go_ret
            exact ⟨ret_int HE2.out.symm, HA.out.trans HF7.out⟩
        · have HE2 : Hid (E = 20) := Lib.hid HK3.out
          clear HK3
          go_wp2_with fail
          go_ret
          exact ⟨ret_int HE2.out.symm, HA.out.trans HF6.out⟩
    · obtain rfl : k = zs.length := by omega
      have hkk := HK.out
      rw [List.drop_length, difF] at hkk
      have HE2 := Lib.hid hkk
      clear hkk
      go_wp2_with fail
      go_ret
      exact ⟨ret_int HE2.out.symm, HA.out.trans HF.out⟩
end
section
theorem BoxT.new (w : World) (ya : Option Addr) (yn yc : Nat) (ta : Option Addr) (tn tc : Nat) : BoxQ (w.alloc (.cells #[.slice ya yn yc, .slice ta tn tc] 30)) w.heap.size ya yn yc ta tn tc := by
  have h := World.alloc_heap_new w (.cells #[.slice ya yn yc, .slice ta tn tc] 30)
  exact ⟨by simp, by unfold World.cell?; rw [h]; rfl, by unfold World.cell?; rw [h]; rfl⟩
set_option maxRecDepth 100000 in
set_option maxHeartbeats 4000000 in
theorem rchk_any (r c : Int) (a : Option Addr) (cap : Nat) (S : List Int) (ya : Option Addr) (yc : Nat) (Y : List Int) (ta : Option Addr) (tc : Nat) (T : List Int) (w : World) (h : InPQ w a S ya yc Y ta tc T) :
    Calls Try.prog 22 #[parV r c a S.length cap, plaV ya Y.length yc ta T.length tc] w fun e w' => e = .returned (.int .i64 (chkP r c S Y T)) ∧ Fut w w' := by
  have HS1 := Lib.hid (fun W => rin_any r 1 4 W)
  have HS2 := Lib.hid (fun W => rin_any c 1 4 W)
  have hA : Fut w ((w.alloc (.cells #[.int .i64 r, .int .i64 c, .slice a S.length cap] 29)).alloc (.cells #[.slice ya Y.length yc, .slice ta T.length tc] 30)) := (Fut.alloc _ _).trans (Fut.alloc _ _)
  have hBP := (BoxR.new w r c a S.length cap).fut (Fut.alloc _ (.cells #[.slice ya Y.length yc, .slice ta T.length tc] 30))
  have hBQ := BoxT.new (w.alloc (.cells #[.int .i64 r, .int .i64 c, .slice a S.length cap] 29)) ya Y.length yc ta T.length tc
  rw [World.size_alloc] at hBQ
  have hyx : (Y.length : Int) ≤ 1000 := by have := h.yl; omega
  have htx : (T.length : Int) ≤ 1000 := by have := h.tl; omega
  have HAS := Lib.hid (fun (m : Int) (hs : Side r c m) W (F : Fut w W) => rasc_any r c m hs a S.length cap a cap S W (h.s.fut F) h.sl)
  have HDY := Lib.hid (fun (m : Int) (hs : Side r c m) W (F : Fut w W) => rdif_any r c m hs a cap S ya yc Y W (h.s.fut F) h.sl (h.y.fut F) h.yl h.yc)
  have HDT := Lib.hid (fun (m : Int) (hs : Side r c m) W (F : Fut w W) => rdif_any r c m hs a cap S ta tc T W (h.s.fut F) h.sl (h.t.fut F) h.tl h.tc)
  clear h
  have HA := Lib.hid hA
  have HBP := Lib.hid hBP
  have HBQ := Lib.hid hBQ
  unfold chkP
  by_cases h1 : decide (1 ≤ r ∧ r ≤ 4) = true
  · rw [if_pos h1]
    have h1' := of_decide_eq_true h1
    have e1 : (decide (1 ≤ r) && decide (r ≤ 4)) = true := by simp; omega
    rw [e1] at HS1
    by_cases h2 : decide (1 ≤ c ∧ c ≤ 4) = true
    · rw [if_pos h2]
      have h2' := of_decide_eq_true h2
      have e2 : (decide (1 ≤ c) && decide (c ≤ 4)) = true := by simp; omega
      rw [e2] at HS2
      have hs : Side r c (r * c) := ⟨h1'.1, h1'.2, h2'.1, h2'.2, rfl⟩
      generalize r * c = m at *
      replace HAS := Lib.hid (fun W F => HAS.out m hs W F)
      replace HDY := Lib.hid (fun W F => HDY.out m hs W F)
      replace HDT := Lib.hid (fun W F => HDT.out m hs W F)
      generalize ascE m S = eA at *
      generalize difE m S Y = eY at *
      generalize difE m S T = eT at *
      obtain ⟨E, HE⟩ : ∃ E, Hid (E = if eA = 0 then (if T.length = Y.length then (if Y.length = 0 then 4 else if 3 < Y.length then 3 else if eY = 0 then eT else eY) else 5) else eA) := ⟨_, Lib.hid rfl⟩
      rw [← HE.out]
      clear h1 h2 h1' h2' hs hA hBP hBQ e1 e2
      obtain ⟨_, p0, p1, p2⟩ := HBP.out
      obtain ⟨_, q0, q1⟩ := HBQ.out
      go_enter Try.func22, Try.ntmps22
      go_wp2_with fail
      generalize (w.alloc (.cells #[.int .i64 r, .int .i64 c, .slice a S.length cap] 29)).alloc (.cells #[.slice ya Y.length yc, .slice ta T.length tc] 30) = w1 at *
      refine (HS1.out _).mono ?_
      rintro _ _ ⟨rfl, rfl⟩
      go_wp2_with fail
      refine (HS2.out _).mono ?_
      rintro _ _ ⟨rfl, rfl⟩
      go_wp2_with fail
      refine (HAS.out _ HA.out).mono ?_
      rintro _ w2 ⟨rfl, F⟩
      have HF2 := Lib.hid (HA.out.trans F)
      have HBP2 := Lib.hid (HBP.out.fut F)
      have HBQ2 := Lib.hid (HBQ.out.fut F)
      clear F p0 p1 p2 q0 q1 HBP HBQ HA
      obtain ⟨_, p0, p1, p2⟩ := HBP2.out
      obtain ⟨_, q0, q1⟩ := HBQ2.out
      by_cases hA0 : eA = 0
      · subst hA0
        replace HE := Lib.hid (HE.out.trans (if_pos rfl))
        by_cases hl : T.length = Y.length
        · have hlx : (T.length : Int) = (Y.length : Int) := by omega
          replace HE := Lib.hid (HE.out.trans (if_pos hl))
          by_cases hy0 : Y.length = 0
          · have hy0x : (Y.length : Int) = 0 := by omega
            have ht0x : (T.length : Int) = 0 := by omega
            replace HE := Lib.hid (HE.out.trans (if_pos hy0))
            clear hl hlx hy0
            go_wp2_with fail
            go_ret
            exact ⟨ret_int HE.out.symm, HF2.out⟩
          · have hy0x : ¬ (Y.length : Int) = 0 := by omega
            replace HE := Lib.hid (HE.out.trans (if_neg hy0))
            clear hl
            generalize Y.length = yn at *
            by_cases hy3 : 3 < yn
            · have hy3x : (3 : Int) < yn := by omega
              replace HE := Lib.hid (HE.out.trans (if_pos hy3))
              go_wp2_with fail
              go_ret
              exact ⟨ret_int HE.out.symm, HF2.out⟩
            · have hy3x : ¬ (3 : Int) < yn := by omega
              replace HE := Lib.hid (HE.out.trans (if_neg hy3))
              by_cases hY0 : eY = 0
              · subst hY0
                replace HE := Lib.hid (HE.out.trans (if_pos rfl))
                go_wp2_with fail
                refine (HDY.out _ HF2.out).mono ?_
                rintro _ w3 ⟨rfl, F⟩
                have HF3 := Lib.hid (HF2.out.trans F)
                have HBP3 := Lib.hid (HBP2.out.fut F)
                have HBQ3 := Lib.hid (HBQ2.out.fut F)
                clear F p0 p1 p2 q0 q1
                obtain ⟨_, p0, p1, p2⟩ := HBP3.out
                obtain ⟨_, q0, q1⟩ := HBQ3.out
                go_wp2_with fail
                refine (HDT.out _ HF3.out).mono ?_
                rintro _ w4 ⟨rfl, F⟩
                have HF4 := Lib.hid (HF3.out.trans F)
                clear F
                go_wp2_with fail
                go_ret
                exact ⟨ret_int HE.out.symm, HF4.out⟩
              · replace HE := Lib.hid (HE.out.trans (if_neg hY0))
                go_wp2_with fail
                refine (HDY.out _ HF2.out).mono ?_
                rintro _ w3 ⟨rfl, F⟩
                have HF3 := Lib.hid (HF2.out.trans F)
                clear F
                go_wp2_with fail
                go_ret
                exact ⟨ret_int HE.out.symm, HF3.out⟩
        · have hlx : ¬ (T.length : Int) = (Y.length : Int) := by omega
          replace HE := Lib.hid (HE.out.trans (if_neg hl))
          go_wp2_with fail
          go_ret
          exact ⟨ret_int HE.out.symm, HF2.out⟩
      · replace HE := Lib.hid (HE.out.trans (if_neg hA0))
        go_wp2_with fail
        go_ret
        exact ⟨ret_int HE.out.symm, HF2.out⟩
    · rw [if_neg h2]
      have e2 : (decide (1 ≤ c) && decide (c ≤ 4)) = false := by
        rw [decide_eq_true_eq] at h2
        simp
        omega
      rw [e2] at HS2
      clear h1 h2 hA hBP hBQ HAS HDY HDT e1 e2 h1'
      obtain ⟨_, p0, p1, p2⟩ := HBP.out
      go_enter Try.func22, Try.ntmps22
      go_wp2_with fail
      refine (HS1.out _).mono ?_
      rintro _ _ ⟨rfl, rfl⟩
      go_wp2_with fail
      refine (HS2.out _).mono ?_
      rintro _ _ ⟨rfl, rfl⟩
      go_wp2_with fail
      go_ret
      exact ⟨rfl, HA.out⟩
  · rw [if_neg h1]
    have e1 : (decide (1 ≤ r) && decide (r ≤ 4)) = false := by
      rw [decide_eq_true_eq] at h1
      simp
      omega
    rw [e1] at HS1
    clear h1 hA hBP hBQ HAS HDY HDT e1
    obtain ⟨_, p0, p1, p2⟩ := HBP.out
    go_enter Try.func22, Try.ntmps22
    go_wp2_with fail
    refine (HS1.out _).mono ?_
    rintro _ _ ⟨rfl, rfl⟩
    go_wp2_with fail
    go_ret
    exact ⟨rfl, HA.out⟩
end
end Go.Proofs.Ytflllkamdihfaaa
