/- Layer 2: the examples, call by call. -/
import Derived.Test.YtimddkofcejijaaRZ
namespace Go.Proofs.Ytimddkofcejijaa
open Go.RowKit Go.Sort
def listsB (xs ys : List (List Int)) : Bool := decide (xs = ys)
theorem LstAt.after {w w0 : World} {a : Option Addr} {zss : List (List Int)} (h : LstAt w0 a zss) (F : Fut w0 w) (j : Nat) (hj : j < zss.length) :
    ∃ b off l lc, a = some ⟨b, off, none⟩ ∧ b < w.heap.size ∧ (∀ p : After w, p.w'.cell? ⟨b, off + j, none⟩ = some (.slice l (lth zss j).length lc)) ∧ (∀ p : After w, IntsAt p.w' l (lth zss j)) := by
  obtain ⟨b, off, l, lc, e, h1, h2, h3⟩ := h j hj
  exact ⟨b, off, l, lc, e, Nat.lt_of_lt_of_le h1 (RowKit.Below.size F), fun p => (RowKit.Below.cell (F.trans p.F) (p := ⟨b, off + j, none⟩) h1).trans h2, fun p => h3.fut (F.trans p.F)⟩
set_option maxRecDepth 100000 in
set_option maxHeartbeats 1000000 in
theorem lists_any (a c : Option Addr) (cap dap : Nat) (xs ys : List (List Int)) (w : World) (hx : xs.length ≤ 1000) (_hy : ys.length ≤ 1000) (hxl : ∀ k, (lth xs k).length ≤ 1000) (hyl : ∀ k, (lth ys k).length ≤ 1000) (hA : LstAt w a xs) (hC : LstAt w c ys) :
    Calls Try.prog 36 #[.slice a xs.length cap, .slice c ys.length dap] w fun e w' => e = .returned (.bool (listsB xs ys)) ∧ Fut w w' := by
  by_cases hl : xs.length = ys.length
  · have hne : ((xs.length : Int) != ys.length) = false := by simp; omega
    have HS : Hid (∀ b, (xs = ys ↔ b = true) → listsB xs ys = b) := Lib.hid (fun b h => by unfold listsB; cases b <;> simp_all)
    generalize listsB xs ys = r at HS ⊢
    have HL := Lib.hid hl
    have HA := Lib.hid hA
    have HC := Lib.hid hC
    have HXL := Lib.hid hxl
    have HYL := Lib.hid hyl
    have hxx : (xs.length : Int) ≤ 1000 := by omega
    clear hl hA hC hxl hyl
    go_enter Try.func36, Try.ntmps36
    go_wp2
    go_loopw [5] (fun iv wr => ∃ (k : Nat), k ≤ xs.length ∧ iv = .int .i64 k ∧ Hid (∀ j, j < k → lth xs j = lth ys j) ∧ Hid (Fut w wr)) (fun iv _ => xs.length - (intOf iv).toNat)
    case atStart => exact ⟨0, Nat.zero_le _, rfl, Lib.hid (fun j hj => absurd hj (Nat.not_lt_zero _)), Lib.hid Fut.rfl⟩
    case round =>
      obtain ⟨k, hk, rfl, hal, HF⟩ := hrel
      by_cases hlt : k < xs.length
      · obtain ⟨b, off, l, lc, ea, hb, c1, i1⟩ := HA.out.after HF.out k hlt
        obtain ⟨b', off', l', lc', ea', hb', c2, i2⟩ := HC.out.after HF.out k (by have := HL.out; omega)
        subst ea ea'
        have hky : (k : Int) < ys.length := by have := HL.out; omega
        have hkx : (k : Int) < xs.length := by omega
        have I1 := Lib.hid i1
        have I2 := Lib.hid i2
        have h1 := HXL.out k
        have h2 := HYL.out k
        have HSM := Lib.hid (fun W (h : IntsAt W l (lth xs k)) (h' : IntsAt W l' (lth ys k)) => same_any l l' lc lc' (lth xs k) (lth ys k) W (by omega) (by omega) h h')
        have HLX : Hid (∀ b, (lth xs k = lth ys k ↔ b = true) → sameB (lth xs k) (lth ys k) = b) := Lib.hid (fun b h => by unfold sameB; cases b <;> simp_all)
        have HAL2 : Hid (lth xs k = lth ys k → ∀ j, j < k + 1 → lth xs j = lth ys j) := Lib.hid (fun he j hj => by
            by_cases e : j = k
            · subst e; exact he
            · exact hal.out j (by omega))
        have HNE : Hid (lth xs k ≠ lth ys k → r = false) := Lib.hid (fun he => HS.out false ⟨fun h => absurd (by rw [h]) he, fun h => by cases h⟩)
        generalize lth xs k = X at *
        generalize lth ys k = Y at *
        clear i1 i2
        by_cases he : X = Y
        · have hs := HLX.out true ⟨fun _ => rfl, fun _ => he⟩
          rw [hs] at HSM
          have HN := Lib.hid (HAL2.out he)
          clear he hs
          go_wp2_with fail
          refine region_fut (by kernel_rfl) (by kernel_rfl) ?_
          repeat (go_big_quiet_step (first
            | (go_at_call 17; rename_i p; exact after_of ((HSM.out _ (I1.out p) (I2.out p)).mono fun _ _ ⟨e, q, h⟩ => ⟨e, by rw [h]; exact Fut.drewN _ _⟩))))
          refine wpQuiet_nil ?_
          intro w2 hw'
          have HF2 := Lib.hid (HF.out.trans (after_fut hw'))
          clear hw' c1 c2
          go_wp2
          go_roundw
          case rel => exact ⟨k + 1, by omega, by go_num, HN, HF2⟩
          case measure => simp [intOf]; omega
        · have hs := HLX.out false ⟨fun h => absurd h he, fun h => by cases h⟩
          rw [hs] at HSM
          have hr := HNE.out he
          subst hr
          clear he hs
          go_wp2_with fail
          refine region_fut (by kernel_rfl) (by kernel_rfl) ?_
          repeat (go_big_quiet_step (first
            | (go_at_call 17; rename_i p; exact after_of ((HSM.out _ (I1.out p) (I2.out p)).mono fun _ _ ⟨e, q, h⟩ => ⟨e, by rw [h]; exact Fut.drewN _ _⟩))))
          refine wpQuiet_nil ?_
          intro w2 hw'
          have HF2 := Lib.hid (HF.out.trans (after_fut hw'))
          clear hw' c1 c2
          go_wp2
          go_ret
          exact ⟨rfl, HF2.out⟩
      · have E : Hid (r = true) := Lib.hid (HS.out true ⟨fun _ => rfl, fun _ => by
          apply List.ext_getElem HL.out
          intro j h1 h2
          have := hal.out j (by omega)
          rw [lth_eq, lth_eq, List.getElem?_eq_getElem h1, List.getElem?_eq_getElem h2] at this
          exact this⟩)
        clear hal
        go_wp2
        go_ret
        exact ⟨retb E.out.symm, HF.out⟩
  · have hne : ((xs.length : Int) != ys.length) = true := by simp; omega
    have e : listsB xs ys = false := by unfold listsB; rw [decide_eq_false_iff_not]; intro h; exact hl (by rw [h])
    rw [e]
    clear hl e hA hC
    go_enter Try.func36, Try.ntmps36
    go_wp2
    go_ret
    exact ⟨rfl, Fut.rfl⟩
/-- the slices of numbers of a list of values. -/
def Vals (w : World) (vs : List Value) (zss : List (List Int)) : Prop := vs.length = zss.length ∧ ∀ j, j < zss.length → ∃ l lc, vs[j]? = some (.slice l (lth zss j).length lc) ∧ IntsAt w l (lth zss j)
theorem Vals.nil (w : World) : Vals w [] [] := ⟨rfl, fun j hj => absurd hj (by simp)⟩
theorem Vals.cons {w : World} {l : Option Addr} {lc : Nat} {zs : List Int} {vs : List Value} {zss : List (List Int)} (h : IntsAt w l zs) (h' : Vals w vs zss) : Vals w (.slice l zs.length lc :: vs) (zs :: zss) := by
  obtain ⟨h1, h2⟩ := h'
  refine ⟨by simp [h1], fun j hj => ?_⟩
  cases j with
  | zero => exact ⟨l, lc, rfl, h⟩
  | succ j =>
    obtain ⟨l2, lc2, e, hI⟩ := h2 j (by simpa using hj)
    have h3 : lth (zs :: zss) (j + 1) = lth zss j := by rw [lth_eq, lth_eq]; simp
    rw [h3]
    exact ⟨l2, lc2, by simpa using e, hI⟩
theorem lst_new {w : World} {vs : List Value} {zss : List (List Int)} (h : Vals w vs zss) : LstAt (w.alloc (.cells vs.toArray 25)) (some ⟨w.heap.size, 0, none⟩) zss := fun j hj => by
  obtain ⟨h1, h2⟩ := h
  obtain ⟨l, lc, e, hI⟩ := h2 j hj
  refine ⟨w.heap.size, 0, l, lc, rfl, by simp, ?_, hI.fut (Fut.alloc _ _)⟩
  rw [World.cell?_alloc_at _ _ _ _ rfl, Nat.zero_add]
  simpa using e
/-- the call of list at a literal. -/
theorem st_L (zs : List Int) (w : World) : Calls Try.prog 47 #[.slice (some ⟨w.heap.size, 0, none⟩) zs.length zs.length] (w.alloc (.cells (zs.map (Value.int .i64)).toArray 3)) fun e w' => ∃ l lc, e = .returned (.slice l zs.length lc) ∧ IntsAt w' l zs ∧ Fut w w' := by
  refine (list_id _ _).mono ?_
  rintro e w' ⟨rfl, rfl⟩
  exact ⟨_, _, rfl, ints_new w zs, Fut.alloc _ _⟩
theorem ex_odd {ss : List (Int × Int)} {c : Int} {r : List Int} (hv : chkM c ss = 0) (h1 : listM (oddM ss (2 ^ ss.length - 1)) = r) (l : Option Addr) (lc : Nat) (w : World) (h : StrAt w l ss) : Calls Try.prog 15 #[mapV c l ss.length lc] w (TupL 0 r w) := by
  have := oddf_ok c l lc ss w h hv; rw [h1] at this; exact this
theorem ex_few {ss : List (Int × Int)} {c : Int} {r : List Int} (hv : chkM c ss = 0) (h1 : fewR c ss = r) (l : Option Addr) (lc : Nat) (w : World) (h : StrAt w l ss) : Calls Try.prog 22 #[mapV c l ss.length lc] w (TupL 0 r w) := by
  have := fewest_any c l lc ss w h; rw [h1, hv] at this; exact this
theorem ex_count {ss : List (Int × Int)} {c : Int} {r : Int} (hv : chkM c ss = 0) (h1 : countR c ss = r) (l : Option Addr) (lc : Nat) (w : World) (h : StrAt w l ss) : Calls Try.prog 24 #[mapV c l ss.length lc] w fun e w' => e = .returned (.tuple #[.int .i64 r, .int .i64 0]) ∧ Fut w w' := by
  have := count_any c l lc ss w h; rw [h1, hv] at this; exact this
theorem ex_round {ss : List (Int × Int)} {c : Int} {zs r : List Int} {e0 : Int} (hv : twE c ss zs = e0) (h1 : roundL c ss zs = r) (hz : zs.length ≤ 1000) (l d : Option Addr) (lc dc : Nat) (w : World) (h : StrAt w l ss) (h' : IntsAt w d zs) : Calls Try.prog 26 #[mapV c l ss.length lc, .slice d zs.length dc] w (TupL e0 r w) := by
  have := round_any c l lc ss d dc zs w h h' hz; rw [h1, hv] at this; exact this
theorem ex_goes {ss : List (Int × Int)} {c : Int} {zs r : List Int} {e0 : Int} (hv : goesE c ss zs = e0) (h1 : goesR c ss zs = r) (hz : zs.length ≤ 1000) (l d : Option Addr) (lc dc : Nat) (w : World) (h : StrAt w l ss) (h' : IntsAt w d zs) : Calls Try.prog 28 #[mapV c l ss.length lc, .slice d zs.length dc] w (TupL e0 r w) := by
  have := goesf_any c l lc ss d dc zs w h h' hz; rw [h1, hv] at this; exact this
theorem ex_cut {ss : List (Int × Int)} {c : Int} {zs r : List Int} {e0 : Int} (hv : cutE c ss zs = e0) (h1 : cutR c ss zs = r) (hz : zs.length ≤ 1000) (l d : Option Addr) (lc dc : Nat) (w : World) (h : StrAt w l ss) (h' : IntsAt w d zs) : Calls Try.prog 30 #[mapV c l ss.length lc, .slice d zs.length dc] w (TupL e0 r w) := by
  have := cutf_any c l lc ss d dc zs w h h' hz; rw [h1, hv] at this; exact this
theorem ex_cuts {ss : List (Int × Int)} {c : Int} {r : List (List Int)} (hv : chkM c ss = 0) (h1 : cutsR c ss = r) (l : Option Addr) (lc : Nat) (w : World) (h : StrAt w l ss) : Calls Try.prog 32 #[mapV c l ss.length lc] w (TupLL 0 r w) := by
  have := cutsf_any c l lc ss w h; rw [h1, hv] at this; exact this
theorem ex_even {ss : List (Int × Int)} {c : Int} {r : Bool} (hv : chkM c ss = 0) (h1 : evenR c ss = r) (l : Option Addr) (lc : Nat) (w : World) (h : StrAt w l ss) : Calls Try.prog 34 #[mapV c l ss.length lc] w fun e w' => e = .returned (.tuple #[.bool r, .int .i64 0]) ∧ Fut w w' := by
  have := even_any c l lc ss w h; rw [h1, hv] at this; exact this
theorem ex_enough {ss : List (Int × Int)} {c : Int} {zs : List Int} {e0 : Int} (hv : twE c ss zs = e0) (hz : zs.length ≤ 1000) (l d : Option Addr) (lc dc : Nat) (w : World) (h : StrAt w l ss) (h' : IntsAt w d zs) : Calls Try.prog 20 #[mapV c l ss.length lc, .slice d zs.length dc] w fun e w' => e = .returned (.int .i64 e0) ∧ Fut w w' := by
  have := enough_any c l lc ss d dc zs w h h' hz; rw [hv] at this; exact this
theorem ex_same {xs : List Int} (hz : xs.length ≤ 1000) (a c : Option Addr) (cap dap : Nat) (w : World) (hA : IntsAt w a xs) (hC : IntsAt w c xs) : Calls Try.prog 17 #[.slice a xs.length cap, .slice c xs.length dap] w fun e w' => e = .returned (.bool true) ∧ Fut w w' := by
  refine (same_any a c cap dap xs xs w (by omega) (by omega) hA hC).mono ?_
  rintro e w' ⟨rfl, q, rfl⟩
  exact ⟨by unfold sameB; rw [decide_eq_true rfl], Fut.drewN _ _⟩
theorem lth_small {zss : List (List Int)} (h : ∀ zs ∈ zss, zs.length ≤ 1000) (k : Nat) : (lth zss k).length ≤ 1000 := by
  rw [lth_eq]
  cases e : zss[k]? with
  | none => simp
  | some z => exact h z (List.mem_of_getElem? e)
theorem ex_lists {xs : List (List Int)} (hz : xs.length ≤ 1000) (hl : ∀ zs ∈ xs, zs.length ≤ 1000) (a c : Option Addr) (cap dap : Nat) (w : World) (hA : LstAt w a xs) (hC : LstAt w c xs) : Calls Try.prog 36 #[.slice a xs.length cap, .slice c xs.length dap] w fun e w' => e = .returned (.bool true) ∧ Fut w w' := by
  have := lists_any a c cap dap xs xs w hz hz (lth_small hl) (lth_small hl) hA hC
  rw [show listsB xs xs = true by unfold listsB; rw [decide_eq_true rfl]] at this
  exact this
theorem ex_lists1 {xs : List Int} (hl : xs.length ≤ 1000) (a : Option Addr) (cap : Nat) (w : World) (hA : LstAt w a [xs]) :
    Calls Try.prog 36 #[.slice a 1 cap, .slice (some ⟨w.heap.size + 1, 0, none⟩) 1 1] ((w.alloc (.cells (xs.map (Value.int .i64)).toArray 3)).alloc (.cells #[.slice (some ⟨w.heap.size, 0, none⟩) xs.length xs.length] 25)) fun e w' => e = .returned (.bool true) ∧ Fut w w' := by
  have h1 := lst_new (Vals.cons (lc := xs.length) (ints_new w xs) (Vals.nil _))
  rw [World.size_alloc] at h1
  refine (ex_lists (xs := [xs]) (by simp) (by simpa using hl) a _ cap 1 _ (hA.fut ((Fut.alloc _ _).trans (Fut.alloc _ _))) h1).mono ?_
  rintro e w' ⟨rfl, F⟩
  exact ⟨rfl, ((Fut.alloc _ _).trans (Fut.alloc _ _)).trans F⟩
theorem ex_proves {ss : List (Int × Int)} {c : Int} {zss : List (List Int)} {e0 : Int} (hv : provE c ss zss = e0) (hz : zss.length ≤ 1000) (hl : ∀ zs ∈ zss, zs.length ≤ 1000) (l d : Option Addr) (lc dc : Nat) (w : World) (h : StrAt w l ss) (h' : LstAt w d zss) : Calls Try.prog 37 #[mapV c l ss.length lc, .slice d zss.length dc] w fun e w' => e = .returned (.int .i64 e0) ∧ Fut w w' := by
  have := proves_any c l lc ss d dc zss w h h' hz (lth_small hl); rw [hv] at this; exact this
abbrev litI (zs : List Int) : Obj := .cells (zs.map (Value.int .i64)).toArray 3
theorem ints_new' (w : World) (o : Obj) (zs : List Int) : IntsAt ((w.alloc o).alloc (litI zs)) (some ⟨w.heap.size + 1, 0, none⟩) zs := by
  have := ints_new (w.alloc o) zs; rw [World.size_alloc] at this; exact this
theorem ints_new'' (w : World) (o o' : Obj) (zs : List Int) : IntsAt (((w.alloc o).alloc o').alloc (litI zs)) (some ⟨w.heap.size + 1 + 1, 0, none⟩) zs := by
  have := ints_new ((w.alloc o).alloc o') zs; rw [World.size_alloc, World.size_alloc] at this; exact this
theorem ex_prov1 {ss : List (Int × Int)} {c : Int} {x : List Int} {e0 : Int} (hv : provE c ss [x] = e0) (hx : x.length ≤ 1000) (l : Option Addr) (lc : Nat) (w : World) (h : StrAt w l ss) :
    Calls Try.prog 37 #[mapV c l ss.length lc, .slice (some ⟨w.heap.size + 1, 0, none⟩) 1 1] ((w.alloc (litI x)).alloc (.cells #[.slice (some ⟨w.heap.size, 0, none⟩) x.length x.length] 25)) fun e w' => e = .returned (.int .i64 e0) ∧ Fut w w' := by
  have h1 := lst_new (Vals.cons (lc := x.length) (ints_new w x) (Vals.nil _))
  rw [World.size_alloc] at h1
  have F := (Fut.alloc w (litI x)).trans (Fut.alloc _ (.cells #[.slice (some ⟨w.heap.size, 0, none⟩) x.length x.length] 25))
  refine (ex_proves hv (by simp) (by simpa using hx) l _ lc 1 _ (h.fut F) h1).mono ?_
  rintro e w' ⟨rfl, F'⟩
  exact ⟨rfl, F.trans F'⟩
theorem ex_prov2 {ss : List (Int × Int)} {c : Int} {x y : List Int} {e0 : Int} (hv : provE c ss [x, y] = e0) (hx : x.length ≤ 1000) (hy : y.length ≤ 1000) (l : Option Addr) (lc : Nat) (w : World) (h : StrAt w l ss) :
    Calls Try.prog 37 #[mapV c l ss.length lc, .slice (some ⟨w.heap.size + 1 + 1, 0, none⟩) 2 2] (((w.alloc (litI x)).alloc (litI y)).alloc (.cells #[.slice (some ⟨w.heap.size, 0, none⟩) x.length x.length, .slice (some ⟨w.heap.size + 1, 0, none⟩) y.length y.length] 25)) fun e w' => e = .returned (.int .i64 e0) ∧ Fut w w' := by
  have h1 := lst_new (Vals.cons (lc := x.length) ((ints_new w x).fut (Fut.alloc _ (litI y))) (Vals.cons (lc := y.length) (ints_new' w (litI x) y) (Vals.nil _)))
  rw [World.size_alloc, World.size_alloc] at h1
  have F := ((Fut.alloc w (litI x)).trans (Fut.alloc _ (litI y))).trans (Fut.alloc _ (.cells #[.slice (some ⟨w.heap.size, 0, none⟩) x.length x.length, .slice (some ⟨w.heap.size + 1, 0, none⟩) y.length y.length] 25))
  refine (ex_proves hv (by simp) (by simpa using ⟨hx, hy⟩) l _ lc 2 _ (h.fut F) h1).mono ?_
  rintro e w' ⟨rfl, F'⟩
  exact ⟨rfl, F.trans F'⟩
theorem ex_prov3 {ss : List (Int × Int)} {c : Int} {x y z : List Int} {e0 : Int} (hv : provE c ss [x, y, z] = e0) (hx : x.length ≤ 1000) (hy : y.length ≤ 1000) (hz : z.length ≤ 1000) (l : Option Addr) (lc : Nat) (w : World) (h : StrAt w l ss) :
    Calls Try.prog 37 #[mapV c l ss.length lc, .slice (some ⟨w.heap.size + 1 + 1 + 1, 0, none⟩) 3 3] ((((w.alloc (litI x)).alloc (litI y)).alloc (litI z)).alloc (.cells #[.slice (some ⟨w.heap.size, 0, none⟩) x.length x.length, .slice (some ⟨w.heap.size + 1, 0, none⟩) y.length y.length, .slice (some ⟨w.heap.size + 1 + 1, 0, none⟩) z.length z.length] 25)) fun e w' => e = .returned (.int .i64 e0) ∧ Fut w w' := by
  have h1 := lst_new (Vals.cons (lc := x.length) (((ints_new w x).fut (Fut.alloc _ (litI y))).fut (Fut.alloc _ (litI z))) (Vals.cons (lc := y.length) ((ints_new' w (litI x) y).fut (Fut.alloc _ (litI z))) (Vals.cons (lc := z.length) (ints_new'' w (litI x) (litI y) z) (Vals.nil _))))
  rw [World.size_alloc, World.size_alloc, World.size_alloc] at h1
  have F := (((Fut.alloc w (litI x)).trans (Fut.alloc _ (litI y))).trans (Fut.alloc _ (litI z))).trans (Fut.alloc _ (.cells #[.slice (some ⟨w.heap.size, 0, none⟩) x.length x.length, .slice (some ⟨w.heap.size + 1, 0, none⟩) y.length y.length, .slice (some ⟨w.heap.size + 1 + 1, 0, none⟩) z.length z.length] 25))
  refine (ex_proves hv (by simp) (by simpa using ⟨hx, hy, hz⟩) l _ lc 3 _ (h.fut F) h1).mono ?_
  rintro e w' ⟨rfl, F'⟩
  exact ⟨rfl, F.trans F'⟩
end Go.Proofs.Ytimddkofcejijaa
