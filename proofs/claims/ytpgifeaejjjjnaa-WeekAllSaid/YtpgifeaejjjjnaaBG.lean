/- Layer 3: Free. -/
import Derived.Test.YtpgifeaejjjjnaaBF
namespace Go.Proofs.Ytpgifeaejjjjnaa
open Go.RowKit Go.Sort
theorem cell_one {w : World} {b : Nat} {x : Value} (h : w.cell? ⟨b, 0, none⟩ = some x) : ∀ j u, [x][j]? = some u → w.cell? ((⟨b, 0, none⟩ : Addr).add j) = some u := fun j u hj => by
  match j, hj with
  | 0, hj =>
    simp at hj
    subst hj
    rw [Addr.add_lit]; exact h
theorem Owns.form {w : World} {B : Nat} {v : Value} {zs : List Int} (h : Owns w B v zs) : ∃ a cap, v = .slice a zs.length cap ∧ zs.length ≤ cap ∧ cap ≤ maxLen ∧ IntsAt w a zs := by
  obtain ⟨a, cap, rfl, hI⟩ := h.ints
  refine ⟨a, cap, rfl, ?_, ?_, hI⟩
  · rcases h.2 with ⟨e, h0⟩ | ⟨g, cap', cur, e, hb, hg, hn, hm, _⟩
    · injection e with _ e2 e3; omega
    · injection e with _ _ e3; omega
  · rcases h.2 with ⟨e, h0⟩ | ⟨g, cap', cur, e, hb, hg, hn, hm, _⟩
    · injection e with _ e2 e3; subst e3; unfold maxLen; omega
    · injection e with _ _ e3; omega
/-- the streets that are free on a day, of the first so many. -/
def frT (zss : List (List Int)) (d : Nat) : Nat → List Int
  | 0 => []
  | s + 1 => if tkn zss d s = true then frT zss d s else frT zss d s ++ [(s : Int)]
theorem frT_len (zss : List (List Int)) (d : Nat) : ∀ s, (frT zss d s).length ≤ s := by
  intro s
  induction s with
  | zero => simp [frT]
  | succ s ih =>
    unfold frT
    split
    · omega
    · rw [List.length_append]; simp; omega
def freeE (c : Int) (zss : List (List Int)) : List (List Int) := if chkE c zss = 0 then (List.range c.toNat).map (fun d => frT zss d c.toNat) else []
/-- rows of lists of one's own, the first k of them done. -/
structure FreeSt (w : World) (g n : Nat) (vs : Nat → Value) (k : Nat) (L : Nat → List Int) : Prop where
  outer : w.rowIs g 28 n vs
  done : ∀ i, i < k → Owns w (g + 1) (vs i) (L i)
  rest : ∀ i, k ≤ i → i < n → vs i = .slice none 0 0
theorem grown_set {w w' : World} {g k : Nat} {v : Value} (h : w.grownBy w' (some g)) : w.grownBy (w'.setCell ⟨g, k, none⟩ v) (some g) :=
  ⟨h.os, h.tape, h.output, by rw [show (w'.setCell ⟨g, k, none⟩ v).heap.size = w'.heap.size by simp [World.setCell]]; exact h.size, fun j hj hne => by
    rw [RowKit.Below.heap_setCell _ _ _ _ (fun e => hne (by rw [e]))]
    exact h.block j hj hne⟩
theorem grown_far {w w' w'' : World} {g : Nat} {v : Value} {n : Nat} {xs : List Value} (h : w.grownBy w' (some g)) (h' : w'.grownBy w'' v.ownBlock) (hv : w'.ownsRow w.heap.size 3 1 v n xs) : w.grownBy w'' (some g) := by
  refine ⟨h'.os.trans h.os, h'.tape.trans h.tape, h'.output.trans h.output, Nat.le_trans h.size h'.size, fun k hk hne => ?_⟩
  rw [h'.block k (Nat.lt_of_lt_of_le hk h.size) ?_]
  · exact h.block k hk hne
  · intro e
    have := (hv.lt k e.symm).1
    omega
theorem FreeSt.lists {w : World} {g n : Nat} {vs : Nat → Value} {L : Nat → List Int} (h : FreeSt w g n vs n L) : LstC w (some ⟨g, 0, none⟩) ((List.range n).map L) := fun i hi => by
  have hin : i < n := by simpa using hi
  have e : lth ((List.range n).map L) i = L i := by rw [lth_eq, List.getElem?_map, List.getElem?_range hin]; rfl
  rw [e]
  obtain ⟨a, cap, ev, h1, h2, hI⟩ := (h.done i hin).form
  exact ⟨g, 0, a, cap, rfl, h.outer.lt, by rw [Nat.zero_add, h.outer.cell hin, ev], h1, by unfold maxLen at h2; omega, hI⟩
set_option maxRecDepth 100000 in
set_option maxHeartbeats 4000000 in
theorem free_any (c : Int) (a : Option Addr) (cap : Nat) (zss : List (List Int)) (w : World) (hL : LstC w a zss) (hcap : zss.length ≤ cap) (hcm : cap ≤ 9223372036854775807) :
    Calls Try.prog 18 #[.int .i64 c, .slice a zss.length cap] w (TupLC (chkE c zss) (freeE c zss) w) := by
  have HC := Lib.hid (check_any c a cap zss w hL hcap hcm)
  unfold freeE
  by_cases hs : chkE c zss = 0
  · rw [if_pos hs]
    rw [hs] at HC ⊢
    obtain ⟨c1, c5, hn, hrow⟩ := chk_rows hs
    obtain ⟨n, rfl⟩ := Int.eq_ofNat_of_zero_le (show 0 ≤ c by omega)
    have hz5 : zss.length ≤ 5 := by omega
    have hn5 : n ≤ 5 := by omega
    have hmk2 := fun W => mk_rows n (by omega) W
    rw [show ((n : Int)).toNat = n by simp]
    have HT := Lib.hid (fun (d : Nat) (s : Int) (W : World) (F : Fut w W) (h : d < n) => isTaken_any a cap zss d s W (hL.lst.fut F) (fun k hk => by have := (hrow k hk).1; omega) (by omega))
    have HLE := Lib.hid (frT_len zss)
    have HFR : Hid (∀ d s, frT zss d (s + 1) = if tkn zss d s = true then frT zss d s else frT zss d s ++ [(s : Int)]) := Lib.hid (fun d s => rfl)
    have HF0 : Hid (∀ d, frT zss d 0 = []) := Lib.hid (fun d => rfl)
    clear hL hrow hs hcap hcm
    generalize hE : (List.range n).map (fun d => frT zss d n) = R at *
    have HE := Lib.hid hE
    have hRL : R.length = n := by rw [← hE]; simp
    have HRL := Lib.hid hRL
    clear hE hRL
    generalize frT zss = fr at *
    go_enter Try.func18, Try.ntmps18
    go_wp2_with fail
    refine HC.out.mono ?_
    rintro _ w1 ⟨rfl, F⟩
    have HF1 := Lib.hid F
    have hsz := RowKit.Below.size F
    clear F
    go_wp2_with fail
    have hG0 : FreeSt (w1.alloc (.cells (madeCells #[Value.slice none 0 0] n) 28)) w1.heap.size n (fun _ => .slice none 0 0) 0 (fun d => fr d n) :=
      ⟨World.rowIs_made w1 (.slice none 0 0) n 28, fun i hi => absurd hi (Nat.not_lt_zero i), fun _ _ _ => rfl⟩
    have F1 : RowKit.Below w1.heap.size w1 (w1.alloc (.cells (madeCells #[Value.slice none 0 0] n) 28)) := Fut.alloc _ _
    generalize w1.alloc (.cells (madeCells #[Value.slice none 0 0] n) 28) = W1 at *
    generalize hB : w1.heap.size = g at *
    have HB0 := Lib.hid F1
    have HG0 := Lib.hid hG0
    clear hG0 F1 hmk2
    obtain ⟨i0, hi0, hz0, hz1, hz2⟩ := info_parts info3
    go_loopw [20] (fun iv wr => ∃ (k : Nat) (vs : Nat → Value), k ≤ n ∧ iv = .int .i64 k ∧ Hid (FreeSt wr g n vs k (fun d => fr d n)) ∧ Hid (RowKit.Below g w1 wr)) (fun iv _ => n - (intOf iv).toNat)
    case atStart => exact ⟨0, _, Nat.zero_le _, rfl, HG0, HB0⟩
    case round =>
      obtain ⟨k, vs, hk, rfl, HG, HF⟩ := hrel
      by_cases hlt : k < n
      · have hkx : (k : Int) < n := by omega
        have hgw : g < wr.heap.size := HG.out.outer.lt
        have h0 : Owns wr wr.heap.size (vs k) (fr k 0) := by
          rw [HF0.out, HG.out.rest k (Nat.le_refl _) hlt]
          exact World.ownsRow_nil _ _ _ _
        have HI0 : Hid (wr.grownBy wr (some g)) := Lib.hid ⟨rfl, rfl, rfl, Nat.le_refl _, fun _ _ _ => rfl⟩
        have HO0 := Lib.hid h0
        have HR0 := Lib.hid HG.out.outer
        have HTK := Lib.hid (fun s W F => HT.out k s W F hlt)
        clear h0
        go_wp2_with fail
        have HGD := Lib.hid HG.out.done
        have HRS := Lib.hid HG.out.rest
        clear HG
        generalize wr = w0 at *
        go_loopw [24] (fun iv wr => ∃ (s : Nat) (us : Nat → Value), s ≤ n ∧ iv = .int .i64 s ∧ Hid (wr.rowIs g 28 n us) ∧ Hid (∀ i, i ≠ k → us i = vs i) ∧ Hid (Owns wr w0.heap.size (us k) (fr k s)) ∧ Hid (w0.grownBy wr (some g)) ∧ Hid (RowKit.Below g w1 wr)) (fun iv _ => n - (intOf iv).toNat)
        case atStart => exact ⟨0, vs, Nat.zero_le _, rfl, HR0, Lib.hid (fun i _ => rfl), HO0, HI0, HF⟩
        case round =>
          obtain ⟨s, us, hsn, rfl, HR, HU, HO, HI, HB⟩ := hrel
          by_cases hsl : s < n
          · have hsx : (s : Int) < n := by omega
            have HFs := Lib.hid (Fut.trans' HF1.out HB.out (by omega))
            have HTS := Lib.hid (HTK.out (s : Int) wr HFs.out)
            have HFRS := Lib.hid (HFR.out k s)
            cases htk : tkn zss k (s : Int)
            · rw [htk] at HTS HFRS
              simp only [Bool.false_eq_true, if_false] at HFRS
              have hlen := HLE.out k s
              clear htk
              go_wp2_with fail
              refine HTS.out.mono ?_
              rintro _ w3 ⟨rfl, F⟩
              have HR3 := Lib.hid (HR.out.of_block (RowKit.Below.block F _ HR.out.lt))
              have HO3 := Lib.hid (HO.out.fut F)
              have HI3 : Hid (w0.grownBy w3 (some g)) := Lib.hid (HI.out.trans ⟨F.os, F.tape, F.output, F.size, fun k hk _ => F.block k hk⟩)
              have HB3 : Hid (RowKit.Below g w1 w3) := Lib.hid (HB.out.trans (RowKit.Below.mono F (by have := RowKit.Below.size HB.out; omega)))
              clear HR HO HI HB F
              obtain ⟨av, ac, hav, hl1, hl2, _⟩ := HO3.out.form
              have e1 := HR3.out.cell hlt
              rw [hav] at e1
              rw [hav] at HO3
              have hgw3 := HR3.out.lt
              go_wp2_with (at_builtin; refine wpList_append_own _ rfl _ _ 28 rfl w0.heap.size 3 i0 (.int .i64 0) 1 8 Try.underlying28 hi0 hz0 hz1 hz2 rfl (by decide) _ _ _ rfl (HO3.out.fut (Fut.alloc _ _)) ⟨w3.heap.size, 0, none⟩ 1 1 [.int .i64 (s : Int)] rfl rfl (cell_one (by simp [go_sem])) (by simp [Value.oneCell']) (by unfold maxLen; omega) (by omega) (by have := HI3.out.size; simp; omega) ?_)
              intro v' w7 hown' hgrow _
              have hOA : Owns (w3.alloc (.cells #[Value.int .i64 (s : Int)] 3)) w0.heap.size (.slice av (fr k s).length ac) (fr k s) := HO3.out.fut (Fut.alloc _ _)
              have HO7 : Hid (Owns w7 w0.heap.size v' (fr k (s + 1))) := Lib.hid (by rw [HFRS.out]; unfold Owns; simpa using hown')
              have hIA : w0.grownBy (w3.alloc (.cells #[Value.int .i64 (s : Int)] 3)) (some g) := HI3.out.trans (World.grownBy_alloc _ _ _)
              have HI7 : Hid (w0.grownBy w7 (some g)) := Lib.hid (grown_far hIA hgrow hOA)
              have hfar : some g ≠ (Value.slice av (fr k s).length ac).ownBlock := fun e => by
                have := (World.ownsRow.lt hOA g e.symm).1
                omega
              have HB7 : Hid (RowKit.Below g w1 w7) := Lib.hid (RowKit.Below.grown (HB3.out.alloc (by omega) _) hgrow (by simp; omega) (fun q hq => by
                have := (World.ownsRow.lt hOA q hq).1
                omega))
              have HR7 : Hid (w7.rowIs g 28 n us) := Lib.hid ((HR3.out.alloc _).of_block (hgrow.block g (by simp; omega) hfar))
              obtain ⟨bv, bc, hbv, _, _, _⟩ := HO7.out.form
              subst hbv
              have HR8 := Lib.hid (HR7.out.set k (.slice bv (fr k (s + 1)).length bc))
              have HO8 : Hid (Owns (w7.setCell ⟨g, k, none⟩ (.slice bv (fr k (s + 1)).length bc)) w0.heap.size (.slice bv (fr k (s + 1)).length bc) (fr k (s + 1))) := Lib.hid (HO7.out.grown (bm := g) (grown_set ⟨rfl, rfl, rfl, Nat.le_refl _, fun _ _ _ => rfl⟩) hgw)
              have HI8 : Hid (w0.grownBy (w7.setCell ⟨g, k, none⟩ (.slice bv (fr k (s + 1)).length bc)) (some g)) := Lib.hid (grown_set HI7.out)
              have HB8 : Hid (RowKit.Below g w1 (w7.setCell ⟨g, k, none⟩ (.slice bv (fr k (s + 1)).length bc))) := Lib.hid (HB7.out.setCell (p := ⟨g, k, none⟩) (Nat.le_refl _) _)
              have e2 := HR7.out.cell hlt
              have e3 := HR7.out.frozen k
              clear hown' hgrow hOA hIA hfar e1
              go_wp2
              go_round
              case rel => exact ⟨s + 1, _, by omega, by go_num, HR8, Lib.hid (fun i hi => by show (if i = k then _ else us i) = vs i; rw [if_neg hi]; exact HU.out i hi), Lib.hid (by show Owns _ _ (if k = k then _ else us k) _; rw [if_pos rfl]; exact HO8.out), HI8, HB8⟩
              case measure => simp [intOf]; omega
            · rw [htk] at HTS HFRS
              simp only [if_true] at HFRS
              clear htk
              go_wp2_with fail
              refine HTS.out.mono ?_
              rintro _ w3 ⟨rfl, F⟩
              have HR3 := Lib.hid (HR.out.of_block (RowKit.Below.block F _ HR.out.lt))
              have HO3 := Lib.hid (HO.out.fut F)
              have HI3 : Hid (w0.grownBy w3 (some g)) := Lib.hid (HI.out.trans ⟨F.os, F.tape, F.output, F.size, fun k hk _ => F.block k hk⟩)
              have HB3 : Hid (RowKit.Below g w1 w3) := Lib.hid (HB.out.trans (RowKit.Below.mono F (by have := RowKit.Below.size HB.out; omega)))
              clear HR HO HI HB F
              rw [← HFRS.out] at HO3
              go_wp2
              go_round
              case rel => exact ⟨s + 1, us, by omega, by go_num, HR3, HU, HO3, HI3, HB3⟩
              case measure => simp [intOf]; omega
          · obtain rfl : s = n := by omega
            have HG2 : Hid (FreeSt wr g s us (k + 1) (fun d => fr d s)) := Lib.hid ⟨HR.out, fun i hi => by
              by_cases e : i = k
              · subst e; exact HO.out.base (by omega)
              · rw [HU.out i e]; exact (HGD.out i (by omega)).grown HI.out (Nat.lt_succ_self g), fun i hi hin => by
              rw [HU.out i (by omega)]; exact HRS.out i (by omega) hin⟩
            go_wp2
            go_round
            case rel => exact ⟨k + 1, us, by omega, by go_num, HG2, HB⟩
            case measure => simp [intOf]; omega
      · obtain rfl : k = n := by omega
        have HLL := Lib.hid HG.out.lists
        go_wp2
        go_ret2
        refine ⟨some ⟨g, 0, none⟩, k, ?_, by have := HRL.out; omega, by omega, ?_, Fut.trans' HF1.out HF.out (by omega)⟩
        · rw [HRL.out]; rfl
        · rw [← HE.out]; exact HLL.out
  · rw [if_neg hs]
    clear hL
    generalize chkE c zss = E at *
    go_enter Try.func18, Try.ntmps18
    go_wp2_with fail
    refine HC.out.mono ?_
    rintro _ w1 ⟨rfl, F⟩
    have HF := Lib.hid F
    clear F
    go_wp2
    go_ret2
    exact TupLC.nil E HF.out
end Go.Proofs.Ytpgifeaejjjjnaa
