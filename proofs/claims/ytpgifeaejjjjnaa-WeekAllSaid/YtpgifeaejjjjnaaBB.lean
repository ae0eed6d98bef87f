/- Layer 3: the parts of Check: size, isTaken, among. -/
import Derived.Test.YtpgifeaejjjjnaaBA
namespace Go.Proofs.Ytpgifeaejjjjnaa
open Go.RowKit Go.Sort
/-- the errors that plans and corners share. -/
def sizeE (c : Int) (n : Nat) : Int := if c < 1 ∨ 5 < c then 1 else if c < n then 3 else 0
theorem size_any (c : Int) (a : Option Addr) (n cap : Nat) (w : World) : Calls Try.prog 76 #[.int .i64 c, .slice a n cap] w fun e w' => e = .returned (.int .i64 (sizeE c n)) ∧ w = w' := by
  unfold sizeE
  go_enter Try.func76, Try.ntmps76
  go_wp2
  all_goals
    go_ret
    refine ⟨ret_int ?_, rfl⟩
    (repeat' split) <;> first | rfl | omega
theorem cell_after {w : World} {b o : Nat} {v : Value} (h : w.cell? ⟨b, o, none⟩ = some v) : ∀ p : After w, p.w'.cell? ⟨b, o, none⟩ = some v := fun p =>
  (RowKit.Below.cell p.F (p := ⟨b, o, none⟩) (World.block_lt_of_cell? _ _ h)).trans h
/-- isTaken's question to one list. -/
theorem lit_any (a : Option Addr) (cap : Nat) (zs : List Int) (d : Nat) (s : Int) (B S : Nat) (w : World) (hA : IntsAt w a zs) (hd : d < zs.length)
    (hB : w.cell? ⟨B, 0, none⟩ = some (.int .i64 d)) (hS : w.cell? ⟨S, 0, none⟩ = some (.int .i64 s)) :
    Calls Try.prog 111 #[.slice a zs.length cap, .pointer (some ⟨B, 0, none⟩), .pointer (some ⟨S, 0, none⟩)] w fun e w' => e = .returned (.bool (decide (nth zs d = s))) ∧ Fut w w' := by
  obtain ⟨b, off, ea, hb, c1⟩ := hA d hd
  subst ea
  have hdx : (d : Int) < zs.length := by omega
  generalize nth zs d = z at *
  clear hA
  go_enter Try.func111, Try.ntmps111
  go_wp2_with fail
  go_quiet (fail)
  go_wp2
  go_ret
  exact ⟨retb rfl, Fut.drewN w nq⟩
/-- does one of the lists hold s at the place d? -/
def tkn (zss : List (List Int)) (d : Nat) (s : Int) : Bool := zss.any fun l => decide (nth l d = s)
theorem tkn_cons (l : List Int) (zss : List (List Int)) (d : Nat) (s : Int) : tkn (l :: zss) d s = (decide (nth l d = s) || tkn zss d s) := rfl
theorem index_func (a : Option Addr) (cap : Nat) (zss : List (List Int)) (d : Nat) (s : Int) (B S : Nat) (w : World) (hL : LstAt w a zss) (hd : ∀ k, k < zss.length → d < (lth zss k).length) (hl : zss.length ≤ 1000)
    (hB : w.cell? ⟨B, 0, none⟩ = some (.int .i64 d)) (hS : w.cell? ⟨S, 0, none⟩ = some (.int .i64 s)) (hBz : B < w.heap.size) (hSz : S < w.heap.size) :
    Calls Try.prog 134 #[.slice a zss.length cap, .func (.func 111) #[] #[.pointer (some ⟨B, 0, none⟩), .pointer (some ⟨S, 0, none⟩)]] w fun e w' => ∃ r : Int, e = .returned (.int .i64 r) ∧ decide (0 ≤ r) = tkn zss d s ∧ Fut w w' := by
  have HL := Lib.hid hL
  have HLIT := Lib.hid (fun (l : Option Addr) (lc : Nat) zs (W : World) (hI : IntsAt W l zs) (hz : d < zs.length) (F : Fut w W) => lit_any l lc zs d s B S W hI hz ((RowKit.Below.cell F (p := ⟨B, 0, none⟩) hBz).trans hB) ((RowKit.Below.cell F (p := ⟨S, 0, none⟩) hSz).trans hS))
  have HD := Lib.hid hd
  have hlx : (zss.length : Int) ≤ 1000 := by omega
  clear hL hB hS hBz hSz hd
  generalize hE : tkn zss d s = E at *
  have HE := Lib.hid hE
  clear hE
  go_enter Try.func134, Try.ntmps134
  go_wp2_with fail
  go_loopw [8] (fun iv wr => ∃ k : Nat, k ≤ zss.length ∧ iv = .int .i64 k ∧ Hid (tkn (zss.drop k) d s = E) ∧ Hid (Fut w wr)) (fun iv _ => zss.length - (intOf iv).toNat)
  case atStart => exact ⟨0, Nat.zero_le _, rfl, HE, Lib.hid Fut.rfl⟩
  case round =>
    obtain ⟨k, hk, rfl, HO, HF⟩ := hrel
    by_cases hlt : k < zss.length
    · have hkx : (k : Int) < zss.length := by omega
      obtain ⟨bb, off, l, lc, ea, hbb, d1, hI⟩ := (HL.out.fut HF.out) k hlt
      subst ea
      have hd := lth_drop zss k hlt
      rw [hd, tkn_cons] at HO
      have HC := Lib.hid (HLIT.out l lc (lth zss k) wr hI (HD.out k hlt) HF.out)
      generalize lth zss k = zs at *
      clear hd hI
      cases hq : decide (nth zs d = s)
      · rw [hq] at HC HO
        rw [Bool.false_or] at HO
        clear hq
        go_wp2_with fail
        refine HC.out.mono ?_
        rintro _ w3 ⟨rfl, F⟩
        have HF3 := Lib.hid (HF.out.trans F)
        clear F
        go_wp2
        go_round
        case rel => exact ⟨k + 1, by omega, by go_num, HO, HF3⟩
        case measure => simp [intOf]; omega
      · rw [hq] at HC HO
        rw [Bool.true_or] at HO
        have hE : E = true := HO.out.symm
        subst hE
        clear hq
        go_wp2_with fail
        refine HC.out.mono ?_
        rintro _ w3 ⟨rfl, F⟩
        have HF3 := Lib.hid (HF.out.trans F)
        clear F
        go_wp2
        go_ret
        exact ⟨_, rfl, by simp, HF3.out⟩
    · obtain rfl : k = zss.length := by omega
      rw [List.drop_of_length_le (Nat.le_refl _)] at HO
      have hE : E = false := HO.out.symm
      subst hE
      go_wp2
      go_ret
      exact ⟨_, rfl, by simp, HF.out⟩
theorem contains_func (a : Option Addr) (cap : Nat) (zss : List (List Int)) (d : Nat) (s : Int) (B S : Nat) (w : World) (hL : LstAt w a zss) (hd : ∀ k, k < zss.length → d < (lth zss k).length) (hl : zss.length ≤ 1000)
    (hB : w.cell? ⟨B, 0, none⟩ = some (.int .i64 d)) (hS : w.cell? ⟨S, 0, none⟩ = some (.int .i64 s)) (hBz : B < w.heap.size) (hSz : S < w.heap.size) :
    Calls Try.prog 110 #[.slice a zss.length cap, .func (.func 111) #[] #[.pointer (some ⟨B, 0, none⟩), .pointer (some ⟨S, 0, none⟩)]] w fun e w' => e = .returned (.bool (tkn zss d s)) ∧ Fut w w' := by
  have H := Lib.hid (index_func a cap zss d s B S w hL hd hl hB hS hBz hSz)
  clear hL hB hS hBz hSz hd
  generalize tkn zss d s = E at *
  go_enter Try.func110, Try.ntmps110
  go_wp2_with fail
  refine H.out.mono ?_
  rintro _ w3 ⟨r, rfl, hr, F⟩
  have HR := Lib.hid hr
  have HF := Lib.hid F
  clear hr F
  go_wp2
  go_ret
  exact ⟨retb HR.out, HF.out⟩
theorem isTaken_any (a : Option Addr) (cap : Nat) (zss : List (List Int)) (d : Nat) (s : Int) (w : World) (hL : LstAt w a zss) (hd : ∀ k, k < zss.length → d < (lth zss k).length) (hl : zss.length ≤ 1000) :
    Calls Try.prog 69 #[.slice a zss.length cap, .int .i64 d, .int .i64 s] w fun e w' => e = .returned (.bool (tkn zss d s)) ∧ Fut w w' := by
  have F2 : Fut w ((w.alloc (.cells #[.int .i64 d] 3)).alloc (.cells #[.int .i64 s] 3)) := (Fut.alloc _ _).trans (Fut.alloc _ _)
  have H := Lib.hid (contains_func a cap zss d s w.heap.size (w.heap.size + 1) ((w.alloc (.cells #[.int .i64 d] 3)).alloc (.cells #[.int .i64 s] 3)) (hL.fut F2) hd hl (by simp) (by simp) (by simp; omega) (by simp))
  have HF := Lib.hid F2
  clear hL hd F2
  generalize tkn zss d s = E at *
  go_enter Try.func69, Try.ntmps69
  go_wp2_with fail
  refine H.out.mono ?_
  rintro _ w3 ⟨rfl, F⟩
  have HF3 := Lib.hid (HF.out.trans F)
  clear F
  go_wp2
  go_ret
  exact ⟨rfl, HF3.out⟩
/-- the slice at a reads as these lists, each with room for itself. -/
def LstC (w : World) (a : Option Addr) (zss : List (List Int)) : Prop :=
  ∀ j, j < zss.length → ∃ b off l lc, a = some ⟨b, off, none⟩ ∧ b < w.heap.size ∧ w.cell? ⟨b, off + j, none⟩ = some (.slice l (lth zss j).length lc) ∧ (lth zss j).length ≤ lc ∧ lc ≤ 9223372036854775807 ∧ IntsAt w l (lth zss j)
theorem LstC.fut {w w' : World} {a : Option Addr} {zss : List (List Int)} (h : LstC w a zss) (F : Fut w w') : LstC w' a zss := fun j hj => by
  obtain ⟨b, off, l, lc, rfl, h1, h2, h3, h4, h5⟩ := h j hj
  exact ⟨b, off, l, lc, rfl, Nat.lt_of_lt_of_le h1 (RowKit.Below.size F), (RowKit.Below.cell F (p := ⟨b, off + j, none⟩) h1).trans h2, h3, h4, h5.fut F⟩
theorem LstC.lst {w : World} {a : Option Addr} {zss : List (List Int)} (h : LstC w a zss) : LstAt w a zss := fun j hj => by
  obtain ⟨b, off, l, lc, rfl, h1, h2, _, _, h5⟩ := h j hj
  exact ⟨b, off, l, lc, rfl, h1, h2, h5⟩
theorem lth_take (zss : List (List Int)) (k j : Nat) (h : j < k) : lth (zss.take k) j = lth zss j := by
  rw [lth_eq, List.getElem?_take_of_lt h, lth_eq]
theorem LstC.take {w : World} {a : Option Addr} {zss : List (List Int)} (h : LstC w a zss) (k : Nat) : LstC w a (zss.take k) := fun j hj => by
  rw [List.length_take] at hj
  rw [lth_take _ _ _ (by omega)]
  exact h j (by omega)
theorem nth_take (zs : List Int) (k j : Nat) (h : j < k) : nth (zs.take k) j = nth zs j := by
  rw [nth_eq, List.getElem?_take_of_lt h, nth_eq]
theorem IntsAt.take {w : World} {a : Option Addr} {zs : List Int} (h : IntsAt w a zs) (k : Nat) : IntsAt w a (zs.take k) := fun j hj => by
  rw [List.length_take] at hj
  rw [nth_take _ _ _ (by omega)]
  exact h j (by omega)
theorem slice_to28 (g o n cap k : Nat) (h : k ≤ cap) (W : World) : (Instr.sliceAt 28 (.slice (some ⟨g, o, none⟩) n cap) none (some (.int .i64 k)) none).run Try.prog W = .ok (.slice (some ⟨g, o, none⟩) k cap) W := by
  have hu : Try.prog.underlying 28 = some (.slice (Try.prog.elem 28)) := by kernel_rfl
  have hs : (sizeOf (Try.prog.elem 28)).run Try.prog W = .ok 1 W := by kernel_rfl
  rw [run_sliceAt_slice _ _ _ _ _ _ hu, run_slice_h _ _ _ _ _ hu _ _ (by omega) (by omega), hs]
  simp [sliced, Result.andThen, Addr.add]
theorem slice_to22 (g o n cap k : Nat) (h : k ≤ cap) (W : World) : (Instr.sliceAt 22 (.slice (some ⟨g, o, none⟩) n cap) none (some (.int .i64 k)) none).run Try.prog W = .ok (.slice (some ⟨g, o, none⟩) k cap) W := by
  have hu : Try.prog.underlying 22 = some (.slice (Try.prog.elem 22)) := by kernel_rfl
  have hs : (sizeOf (Try.prog.elem 22)).run Try.prog W = .ok 1 W := by kernel_rfl
  rw [run_sliceAt_slice _ _ _ _ _ _ hu, run_slice_h _ _ _ _ _ hu _ _ (by omega) (by omega), hs]
  simp [sliced, Result.andThen, Addr.add]
/-- the error of the first number of a list behind others. -/
def amG (c : Int) (zss : List (List Int)) (l : List Int) : List Int → Nat → Int
  | [], _ => 0
  | s :: t, k => if inB c s = false then 2 else if (l.take k).contains s = true then 6 else if tkn zss k s = true then 13 else amG c zss l t (k + 1)
def amE (c : Int) (zss : List (List Int)) (l : List Int) : Int := amG c zss l l 0
theorem among_any (c : Int) (a : Option Addr) (cap : Nat) (zss : List (List Int)) (b : Option Addr) (bap : Nat) (zs : List Int) (w : World) (hL : LstAt w a zss) (hI : IntsAt w b zs) (hd : ∀ k, k < zss.length → zs.length ≤ (lth zss k).length)
    (hl : zss.length ≤ 1000) (hz : zs.length ≤ 1000) (hcap : zs.length ≤ bap) (_hcm : bap ≤ 9223372036854775807) :
    Calls Try.prog 77 #[.int .i64 c, .slice a zss.length cap, .slice b zs.length bap] w fun e w' => e = .returned (.int .i64 (amE c zss zs)) ∧ Fut w w' := by
  have HI := Lib.hid hI
  have HT := Lib.hid (fun (d : Nat) (s : Int) (W : World) (F : Fut w W) (h : d < zs.length) => isTaken_any a cap zss d s W (hL.fut F) (fun k hk => Nat.lt_of_lt_of_le h (hd k hk)) hl)
  have hlx : (zs.length : Int) ≤ 1000 := by omega
  have HX := Lib.hid (fun (g o k : Nat) (x : Int) (W : World) (h : k < zs.length) (hJ : IntsAt W (some ⟨g, o, none⟩) zs) => (by
    have := contains_any (some ⟨g, o, none⟩) bap (zs.take k) x W (hJ.take k) (by rw [List.length_take]; omega)
    rw [List.length_take, Nat.min_eq_left (by omega)] at this
    exact this : Calls Try.prog 51 #[.slice (some ⟨g, o, none⟩) k bap, .int .i64 x] W fun e w' => e = .returned (.bool ((zs.take k).contains x)) ∧ W = w'))
  unfold amE
  clear hI hL hd
  generalize hE : amG c zss zs zs 0 = E at *
  have HE := Lib.hid hE
  clear hE
  go_enter Try.func77, Try.ntmps77
  go_wp2_with fail
  go_loopw [11] (fun iv wr => ∃ k : Nat, k ≤ zs.length ∧ iv = .int .i64 k ∧ Hid (amG c zss zs (zs.drop k) k = E) ∧ Hid (Fut w wr)) (fun iv _ => zs.length - (intOf iv).toNat)
  case atStart => exact ⟨0, Nat.zero_le _, rfl, HE, Lib.hid Fut.rfl⟩
  case round =>
    obtain ⟨k, hk, rfl, HO, HF⟩ := hrel
    by_cases hlt : k < zs.length
    · have hkx : (k : Int) < zs.length := by omega
      have hJ := HI.out.fut HF.out
      obtain ⟨bb, off, ea, hbb, d1⟩ := hJ k hlt
      subst ea
      have hd := nth_drop zs k hlt
      rw [hd] at HO
      have HTT := Lib.hid (fun s W F => HT.out k s W F hlt)
      have HXX := Lib.hid (fun x => HX.out bb off k x wr hlt hJ)
      have hsl := fun W => slice_to28 bb off zs.length bap k (by omega) W
      generalize nth zs k = z at *
      have HQ := Lib.hid (isIndex_any z c wr)
      clear hd hJ
      unfold amG at HO
      by_cases h1 : inB c z = false
      · rw [if_pos h1] at HO
        rw [h1] at HQ
        have hE : E = 2 := HO.out.symm
        subst hE
        clear h1 hsl
        go_wp2_with fail
        refine HQ.out.mono ?_
        rintro _ _ ⟨rfl, rfl⟩
        go_wp2
        go_ret
        exact ⟨rfl, HF.out⟩
      · rw [if_neg h1] at HO
        have h1' : inB c z = true := by simpa using h1
        rw [h1'] at HQ
        clear h1 h1'
        by_cases h2 : (zs.take k).contains z = true
        · rw [if_pos h2] at HO
          have HXZ := Lib.hid (HXX.out z)
          rw [h2] at HXZ
          have hE : E = 6 := HO.out.symm
          subst hE
          clear h2
          go_wp2_with fail
          refine HQ.out.mono ?_
          rintro _ _ ⟨rfl, rfl⟩
          go_wp2_with fail
          refine HXZ.out.mono ?_
          rintro _ _ ⟨rfl, rfl⟩
          go_wp2
          go_ret
          exact ⟨rfl, HF.out⟩
        · rw [if_neg h2] at HO
          have h2' : (zs.take k).contains z = false := by simpa using h2
          have HXZ := Lib.hid (HXX.out z)
          rw [h2'] at HXZ
          have HTZ := Lib.hid (HTT.out z wr HF.out)
          clear h2 h2'
          cases h3 : tkn zss k z
          · rw [h3] at HTZ HO
            simp only [Bool.false_eq_true, if_false] at HO
            clear h3
            go_wp2_with fail
            refine HQ.out.mono ?_
            rintro _ _ ⟨rfl, rfl⟩
            go_wp2_with fail
            refine HXZ.out.mono ?_
            rintro _ _ ⟨rfl, rfl⟩
            go_wp2_with fail
            refine HTZ.out.mono ?_
            rintro _ w3 ⟨rfl, F⟩
            have HF3 := Lib.hid (HF.out.trans F)
            clear F hsl
            go_wp2
            go_round
            case rel => exact ⟨k + 1, by omega, by go_num, HO, HF3⟩
            case measure => simp [intOf]; omega
          · rw [h3] at HTZ HO
            simp only [if_true] at HO
            have hE : E = 13 := HO.out.symm
            subst hE
            clear h3
            go_wp2_with fail
            refine HQ.out.mono ?_
            rintro _ _ ⟨rfl, rfl⟩
            go_wp2_with fail
            refine HXZ.out.mono ?_
            rintro _ _ ⟨rfl, rfl⟩
            go_wp2_with fail
            refine HTZ.out.mono ?_
            rintro _ w3 ⟨rfl, F⟩
            have HF3 := Lib.hid (HF.out.trans F)
            clear F hsl
            go_wp2
            go_ret
            exact ⟨rfl, HF3.out⟩
    · obtain rfl : k = zs.length := by omega
      rw [List.drop_of_length_le (Nat.le_refl _)] at HO
      have hE : E = 0 := HO.out.symm
      subst hE
      go_wp2
      go_ret
      exact ⟨rfl, HF.out⟩
end Go.Proofs.Ytpgifeaejjjjnaa
