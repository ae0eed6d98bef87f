/- Table: table_any -/
import Derived.Test.YtflllkamdihfaaaLG
import Derived.Deep.DeepCutAuto
namespace Go.Proofs.Ytflllkamdihfaaa
open Go.RowKit Go.Sort
/-- rows of lists of one's own, the first k of them done. -/
structure FreeSt (w : World) (g n : Nat) (vs : Nat → Value) (k : Nat) (L : Nat → List Int) : Prop where
  outer : w.rowIs g 22 n vs
  done : ∀ i, i < k → Owns w (g + 1) (vs i) (L i)
  rest : ∀ i, k ≤ i → i < n → vs i = .slice none 0 0
theorem FreeSt.lists {w : World} {g n : Nat} {vs : Nat → Value} {L : Nat → List Int} (h : FreeSt w g n vs n L) : LstC w (some ⟨g, 0, none⟩) ((List.range n).map L) := fun i hi => by
  have hin : i < n := by simpa using hi
  have e : lth ((List.range n).map L) i = L i := by rw [lth_eq, List.getElem?_map, List.getElem?_range hin]; rfl
  rw [e]
  obtain ⟨a, cap, ev, h1, h2, hI⟩ := (h.done i hin).form
  exact ⟨g, 0, a, cap, rfl, h.outer.lt, by rw [Nat.zero_add, h.outer.cell hin, ev], h1, by unfold maxLen at h2; omega, hI⟩
/-- a cart's row of the table: so many tips. -/
def rowT (c m : Int) (S Y T : List Int) (k s : Nat) : List Int := (T.take s).map fun t => ((wayN c m S (nth Y k) t : Nat) : Int)
theorem rowT_succ (c m : Int) (S Y T : List Int) (k s : Nat) (h : s < T.length) : rowT c m S Y T k (s + 1) = rowT c m S Y T k s ++ [((wayN c m S (nth Y k) (nth T s) : Nat) : Int)] := by
  unfold rowT
  rw [List.take_succ_eq_append_getElem h, List.map_append, nth_eq T, List.getElem?_eq_getElem h]
  rfl
theorem rowT_len (c m : Int) (S Y T : List Int) (k s : Nat) : (rowT c m S Y T k s).length ≤ s := by unfold rowT; simp; omega
/-- the table. -/
def tabL (r c : Int) (S Y T : List Int) : List (List Int) := if chkP r c S Y T = 0 then (List.range Y.length).map fun k => rowT c (r * c) S Y T k T.length else []
set_option maxRecDepth 100000 in
set_option maxHeartbeats 8000000 in
theorem table_any (r c : Int) (a : Option Addr) (cap : Nat) (S : List Int) (ya : Option Addr) (yc : Nat) (Y : List Int) (ta : Option Addr) (tc : Nat) (T : List Int) (w : World) (h : InPQ w a S ya yc Y ta tc T) :
    Calls Try.prog 18 #[parV r c a S.length cap, plaV ya Y.length yc ta T.length tc] w (TupLC (chkP r c S Y T) (tabL r c S Y T) w) := by
  have hA : Fut w ((w.alloc (.cells #[.int .i64 r, .int .i64 c, .slice a S.length cap] 24)).alloc (.cells #[.slice ya Y.length yc, .slice ta T.length tc] 26)) := (Fut.alloc _ _).trans (Fut.alloc _ _)
  have hBP := (BoxP.new w r c a S.length cap).fut (Fut.alloc _ (.cells #[.slice ya Y.length yc, .slice ta T.length tc] 26))
  have hBQ := BoxQ.new (w.alloc (.cells #[.int .i64 r, .int .i64 c, .slice a S.length cap] 24)) ya Y.length yc ta T.length tc
  rw [World.size_alloc] at hBQ
  have HCK := Lib.hid (fun W (F : Fut w W) => chk_any r c a cap S ya yc Y ta tc T W (h.fut F))
  have HA := Lib.hid hA
  have HBP := Lib.hid hBP
  have HBQ := Lib.hid hBQ
  have HIN := Lib.hid h
  obtain ⟨_, p0, p1, p2⟩ := hBP
  obtain ⟨_, q0, q1⟩ := hBQ
  unfold tabL
  by_cases hc : chkP r c S Y T = 0
  · obtain ⟨hs, _, htl, hy1, hy3, _⟩ := chk_side hc
    rw [if_pos hc]
    rw [hc] at HCK ⊢
    have HPW := Lib.hid (fun x y W (F : Fut w W) => pways_any r c _ hs a cap S x y W (h.s.fut F) h.sl)
    generalize r * c = m at *
    have hmk2 := fun W => mk_rows Y.length (by omega) W
    have HSU := Lib.hid (fun k s (hs : s < T.length) => rowT_succ c m S Y T k s hs)
    have HLE := Lib.hid (rowT_len c m S Y T)
    have HF0 : Hid (∀ k, rowT c m S Y T k 0 = []) := Lib.hid (fun k => by unfold rowT; simp)
    have HY := Lib.hid h.y
    have HT := Lib.hid h.t
    generalize hE : (List.range Y.length).map (fun k => rowT c m S Y T k T.length) = R at *
    have hRL : R.length = Y.length := by rw [← hE]; simp
    have HE := Lib.hid hE
    have HRL := Lib.hid hRL
    have hyx : (Y.length : Int) ≤ 3 := by omega
    have htx : (T.length : Int) ≤ 3 := by omega
    clear htl
    have HWN := Lib.hid (fun x y => (rfl : wayN c m S x y = wayN c m S x y))
    clear hE hRL hc hs h hA HWN
    generalize rowT c m S Y T = fr at *
    generalize wayN c m S = wy at *
    go_enter Try.func18, Try.ntmps18
    go_wp2_with fail
    refine (HCK.out _ HA.out).mono ?_
    rintro _ w2 ⟨rfl, F⟩
    have HF2 := Lib.hid (HA.out.trans F)
    have HBP2 := Lib.hid (HBP.out.fut F)
    have HBQ2 := Lib.hid (HBQ.out.fut F)
    clear p0 p1 p2 q0 q1 F HCK HA HBP HBQ
    obtain ⟨_, q0, q1⟩ := HBQ2.out
    go_wp2_with fail
    have hG0 : FreeSt (w2.alloc (.cells (madeCells #[Value.slice none 0 0] Y.length) 22)) w2.heap.size Y.length (fun _ => .slice none 0 0) 0 (fun d => fr d T.length) :=
      ⟨World.rowIs_made w2 (.slice none 0 0) Y.length 22, fun i hi => absurd hi (Nat.not_lt_zero i), fun _ _ _ => rfl⟩
    have F1 : RowKit.Below w2.heap.size w2 (w2.alloc (.cells (madeCells #[Value.slice none 0 0] Y.length) 22)) := Fut.alloc _ _
    generalize w2.alloc (.cells (madeCells #[Value.slice none 0 0] Y.length) 22) = W1 at *
    have hgp : w.heap.size + 1 < w2.heap.size := HBQ2.out.lt
    have HQX : Hid (∀ wx, RowKit.Below w2.heap.size w2 wx → BoxP wx w.heap.size r c a S.length cap ∧ BoxQ wx (w.heap.size + 1) ya Y.length yc ta T.length tc ∧ Fut w wx) := Lib.hid (fun wx F => ⟨HBP2.out.fut F, HBQ2.out.fut F, HF2.out.trans F⟩)
    generalize hB : w2.heap.size = g at *
    have HB0 := Lib.hid F1
    have HG0 := Lib.hid hG0
    clear hG0 F1 hmk2 q0 q1
    obtain ⟨i0, hi0, hz0, hz1, hz2⟩ := info_parts info3
    go_loopw [25] (fun iv wr => ∃ (k : Nat) (vs : Nat → Value), k ≤ Y.length ∧ iv = .int .i64 k ∧ Hid (FreeSt wr g Y.length vs k (fun d => fr d T.length)) ∧ Hid (RowKit.Below g w2 wr)) (fun iv _ => Y.length - (intOf iv).toNat)
    case atStart => exact ⟨0, _, Nat.zero_le _, rfl, HG0, HB0⟩
    case round =>
      obtain ⟨k, vs, hk, rfl, HG, HF⟩ := hrel
      by_cases hlt : k < Y.length
      · have hkx : (k : Int) < Y.length := by omega
        have hgw : g < wr.heap.size := HG.out.outer.lt
        have h0 : Owns wr wr.heap.size (vs k) (fr k 0) := by
          rw [HF0.out, HG.out.rest k (Nat.le_refl _) hlt]
          exact World.ownsRow_nil _ _ _ _
        have HI0 : Hid (wr.grownBy wr (some g)) := Lib.hid ⟨rfl, rfl, rfl, Nat.le_refl _, fun _ _ _ => rfl⟩
        have HO0 := Lib.hid h0
        have HR0 := Lib.hid HG.out.outer
        have HSUk := Lib.hid (fun s hs => HSU.out k s hs)
        obtain ⟨_, q0, q1⟩ := (HQX.out wr HF.out).2.1
        obtain ⟨yb, yo, rfl, _, y1⟩ := (HY.out.fut (HQX.out wr HF.out).2.2) k hlt
        clear h0
        go_wp2_with fail
        have HGD := Lib.hid HG.out.done
        have HRS := Lib.hid HG.out.rest
        clear HG q0 q1 y1
        obtain ⟨wo, hwo⟩ : ∃ wo, wo = wr := ⟨_, rfl⟩
        subst hwo
        generalize nth Y k = yk at *
        go_loopw [33] (fun iv wr => ∃ (s : Nat) (us : Nat → Value), s ≤ T.length ∧ iv = .int .i64 s ∧ Hid (wr.rowIs g 22 Y.length us) ∧ Hid (∀ i, i ≠ k → us i = vs i) ∧ Hid (Owns wr wo.heap.size (us k) (fr k s)) ∧ Hid (wo.grownBy wr (some g)) ∧ Hid (RowKit.Below g w2 wr)) (fun iv _ => T.length - (intOf iv).toNat)
        case atStart => exact ⟨0, vs, Nat.zero_le _, rfl, HR0, Lib.hid (fun i _ => rfl), HO0, HI0, HF⟩
        case round =>
          obtain ⟨s, us, hsn, rfl, HR, HU, HO, HI, HBW⟩ := hrel
          by_cases hsl : s < T.length
          · have hsx : (s : Int) < T.length := by omega
            have HSS := Lib.hid (HSUk.out s hsl)
            have hlen := HLE.out k s
            have hQ := HQX.out wr HBW.out
            obtain ⟨tb, to_, rfl, _, t1⟩ := (HT.out.fut hQ.2.2) s hsl
            have HPX := Lib.hid (HPW.out yk (nth T s) wr.drew (hQ.2.2.trans (Fut.drewN wr 1)))
            obtain ⟨_, p0, p1, p2⟩ := hQ.1
            have HFW := Lib.hid hQ.2.2
            clear hQ
            generalize nth T s = tz at *
            generalize wy yk tz = wv at *
            generalize hfs : fr k s = rs at *
            have HFS := Lib.hid hfs
            clear hfs
            obtain ⟨av, ac, hav, hl1, hl2, _⟩ := HO.out.form
            have e1 := HR.out.cell hlt
            rw [hav] at e1
            have HOV : Hid (Owns wr wo.heap.size (.slice av rs.length ac) rs) := Lib.hid (by rw [← hav]; exact HO.out)
            have hgw3 := HR.out.lt
            have hzw := HI.out.size
            have HROW := Lib.hid (show wr.ownsRow wo.heap.size 3 1 (.slice av rs.length ac) rs.length (rs.map (Value.int .i64)) from HOV.out)
            go_upto_region 11 with fail
            clear t1
            go_region_law
              (first
                | (go_simp; go_at_call 70; refine HPX.out.mono ?_; rintro _ w5 ⟨rfl, F5⟩; have FA5 : Fut wr w5 := Fut.trans (Fut.drewN wr 1) F5; have y1 : w5.cell? ⟨g, k, none⟩ = some (.slice av rs.length ac) := (RowKit.Below.cell FA5 (p := ⟨g, k, none⟩) hgw3).trans e1; have y2 : (w5.alloc (.cells #[.int .i64 (wv : Int)] 3)).cell? ⟨g, k, none⟩ = some (.slice av rs.length ac) := alloc_old _ _ y1)
                | (refine step_append_src (by rfl) _ _ _ (by rfl) wo.heap.size 3 i0 (.int .i64 0) 8 Try.underlying22 hi0 hz0 hz1 hz2 rfl (.slice av rs.length ac) rs.length (rs.map (Value.int .i64)) (by rfl) (row_fut HROW.out (FA5.trans (Fut.alloc w5 (.cells #[.int .i64 (wv : Int)] 3)))) (.slice (some ⟨w5.heap.size, 0, none⟩) 1 1) 1 [.int .i64 (wv : Int)] (by rfl) (.inr ⟨⟨w5.heap.size, 0, none⟩, 1, rfl, rfl, cell_one (by simp [go_sem]), by simp [Value.oneCell']⟩) (by unfold maxLen; omega) (by omega) (by have h7 := RowKit.Below.size FA5; simp only [World.size_alloc]; omega) ?_; intro av9 ac9 w9 hown9 hgrow9; obtain ⟨g9, rfl⟩ := own_some hown9; have hR9 : w9.rowIs g 22 Y.length us := ((HR.out.of_block (RowKit.Below.block FA5 _ hgw3)).alloc (.cells #[.int .i64 (wv : Int)] 3)).of_block (hgrow9.block g (by have h7 := RowKit.Below.size FA5; simp only [World.size_alloc]; omega) (fun e => by have := (World.ownsRow.lt HROW.out g e.symm).1; omega)); have e2 := hR9.cell hlt; have e3 := hR9.frozen k))
            all_goals
              have F := FA5
              have hI3 : wo.grownBy w5 (some g) := HI.out.trans ⟨F.os, F.tape, F.output, F.size, fun k hk _ => F.block k hk⟩
              have hB3 : RowKit.Below g w2 w5 := HBW.out.trans (RowKit.Below.mono F (by have := RowKit.Below.size HBW.out; omega))
              have hOA : Owns (w5.alloc (.cells #[.int .i64 (wv : Int)] 3)) wo.heap.size (.slice av rs.length ac) rs := HOV.out.fut (F.trans (Fut.alloc _ _))
              have HO7 : Hid (Owns w9 wo.heap.size (.slice (some ⟨g9, 0, none⟩) (rs.length + 1) ac9) (fr k (s + 1))) := Lib.hid (by rw [HSS.out]; unfold Owns; simpa using hown9)
              have hIA : wo.grownBy (w5.alloc (.cells #[.int .i64 (wv : Int)] 3)) (some g) := hI3.trans (World.grownBy_alloc _ _ _)
              have HI7 : Hid (wo.grownBy w9 (some g)) := Lib.hid (grown_far hIA hgrow9 hOA)
              have HB7 : Hid (RowKit.Below g w2 w9) := Lib.hid (RowKit.Below.grown (hB3.alloc (by have := RowKit.Below.size hB3; have := RowKit.Below.size F; omega) _) hgrow9 (by have := RowKit.Below.size F; simp only [World.size_alloc]; omega) (fun q hq => by
                have := (World.ownsRow.lt hOA q hq).1
                omega))
              have HR8 := Lib.hid (hR9.set k (.slice (some ⟨g9, 0, none⟩) (rs.length + 1) ac9))
              have HO8 : Hid (Owns (w9.setCell ⟨g, k, none⟩ (.slice (some ⟨g9, 0, none⟩) (rs.length + 1) ac9)) wo.heap.size (.slice (some ⟨g9, 0, none⟩) (rs.length + 1) ac9) (fr k (s + 1))) := Lib.hid (HO7.out.grown (bm := g) (grown_set ⟨rfl, rfl, rfl, Nat.le_refl _, fun _ _ _ => rfl⟩) hgw)
              have HI8 : Hid (wo.grownBy (w9.setCell ⟨g, k, none⟩ (.slice (some ⟨g9, 0, none⟩) (rs.length + 1) ac9)) (some g)) := Lib.hid (grown_set HI7.out)
              have HB8 : Hid (RowKit.Below g w2 (w9.setCell ⟨g, k, none⟩ (.slice (some ⟨g9, 0, none⟩) (rs.length + 1) ac9))) := Lib.hid (HB7.out.setCell (p := ⟨g, k, none⟩) (Nat.le_refl _) _)
              clear hown9 hgrow9 hOA hIA e1 e2 e3 y1 y2 hR9 F FA5 F5 hI3 hB3 p0 p1 p2
              generalize w9.setCell ⟨g, k, none⟩ (.slice (some ⟨g9, 0, none⟩) (rs.length + 1) ac9) = w10 at *
              go_wp2
              go_roundw
            all_goals first
              | exact ⟨s + 1, _, by omega, by go_num, HR8, Lib.hid (fun i hi => by show (if i = k then _ else us i) = vs i; rw [if_neg hi]; exact HU.out i hi), Lib.hid (by show Owns _ _ (if k = k then _ else us k) _; rw [if_pos rfl]; exact HO8.out), HI8, HB8⟩
              | (simp [intOf]; omega)
          · obtain rfl : T.length = s := by omega
            have HG2 : Hid (FreeSt wr g Y.length us (k + 1) (fun d => fr d T.length)) := Lib.hid ⟨HR.out, fun i hi => by
              by_cases e : i = k
              · subst e; exact HO.out.base (by omega)
              · rw [HU.out i e]; exact (HGD.out i (by omega)).grown HI.out (Nat.lt_succ_self g), fun i hi hin => by
              rw [HU.out i (by omega)]; exact HRS.out i (by omega) hin⟩
            go_wp2
            go_round
            case rel => exact ⟨k + 1, us, by omega, by go_num, HG2, HBW⟩
            case measure => simp [intOf]; omega
      · obtain rfl : Y.length = k := by omega
        have HLL := Lib.hid HG.out.lists
        go_wp2
        go_ret2
        have hq := (HQX.out wr HF.out).2.2
        refine ⟨some ⟨g, 0, none⟩, Y.length, ?_, by have := HRL.out; omega, by omega, ?_, hq⟩
        · rw [HRL.out]; rfl
        · rw [← HE.out]; exact HLL.out
  · rw [if_neg hc]
    generalize chkP r c S Y T = ce at *
    clear hA h HIN
    go_enter Try.func18, Try.ntmps18
    go_wp2_with fail
    refine (HCK.out _ HA.out).mono ?_
    rintro _ w2 ⟨rfl, F⟩
    have HF2 := Lib.hid (HA.out.trans F)
    clear p0 p1 p2 q0 q1 F
    go_wp2_with fail
    go_ret2
    exact TupLC.nil ce HF2.out
end Go.Proofs.Ytflllkamdihfaaa
