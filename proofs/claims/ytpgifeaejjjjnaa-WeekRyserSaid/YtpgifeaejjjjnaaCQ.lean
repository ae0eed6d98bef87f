/- the reference's fitting. -/
import Derived.Test.YtpgifeaejjjjnaaCP
namespace Go.Proofs.Ytpgifeaejjjjnaa
open Go.RowKit Go.Sort
theorem OwnX.base {w : World} {B B' : Nat} {v : Value} {zss : List (List Int)} (h : OwnX w B v zss) (hB : B' ≤ B) : OwnX w B' v zss := by
  obtain ⟨vals, h1, h2⟩ := h
  refine ⟨vals, ⟨h1.1, ?_⟩, h2⟩
  rcases h1.2 with h3 | ⟨g, cap, cur, h3, h4, h5⟩
  · exact .inl h3
  · exact .inr ⟨g, cap, cur, h3, by omega, h5⟩
theorem OwnX.at {w : World} {B : Nat} {g c : Nat} {N : Nat} {zss : List (List Int)} (h : OwnX w B (.slice (some ⟨g, 0, none⟩) N c) zss) (j : Nat) (hj : j < zss.length) :
    ∃ l lc, g < w.heap.size ∧ w.cell? ⟨g, j, none⟩ = some (.slice l (lth zss j).length lc) ∧ Owns w 0 (.slice l (lth zss j).length lc) (lth zss j) := by
  obtain ⟨vals, h1, h2⟩ := h
  obtain ⟨v, e, hv⟩ := h2.2 j hj
  obtain ⟨a, cap, rfl, _⟩ := hv.ints
  have hc := World.ownsRow.cells h1 (g := g) rfl j _ e
  rw [Addr.add_lit, Nat.zero_add] at hc
  exact ⟨a, cap, World.block_lt_of_cell? _ _ hc, hc, hv⟩
/-- a row's places, one after the other, are free. -/
def fbR (zss : List (List Int)) (r : List Int) (d : Nat) : Bool := (List.range d).all fun k => !metB zss k (nth r k)
theorem fbR_zero (zss : List (List Int)) (r : List Int) : fbR zss r 0 = true := rfl
theorem fbR_succ (zss : List (List Int)) (r : List Int) (d : Nat) : fbR zss r (d + 1) = (fbR zss r d && !metB zss d (nth r d)) := by
  unfold fbR
  rw [List.range_succ, List.all_append]
  simp
/-- the rows that fit, as the reference finds them. -/
def fitR (n : Nat) (zss : List (List Int)) : List (List Int) := (ordT n n []).filter fun r => fbR zss r n
theorem OwnX.app {w w' : World} {B : Nat} {v : Value} {zss : List (List Int)} {vals : List Value} {nv : Value} {zs : List Int} {g c : Nat} (h1 : w.ownsRow B 28 1 v zss.length vals) (h2 : Elems w 0 vals zss) (hn : Owns w 0 nv zs)
    (hown : w'.ownsRow B 28 1 (.slice (some ⟨g, 0, none⟩) (zss.length + 1) c) (zss.length + 1) (vals ++ [nv])) (hg : w.grownBy w' v.ownBlock) : OwnX w' B (.slice (some ⟨g, 0, none⟩) (zss.length + 1) c) (zss ++ [zs]) :=
  ⟨vals ++ [nv], by simpa using hown, h2.cat (zss' := [zs]) ⟨rfl, fun j hj => by
    obtain rfl : j = 0 := by simp at hj; exact hj
    exact ⟨nv, rfl, hn⟩⟩ h1 hg⟩
theorem ord_pos (n : Nat) : 0 < (ordT n n []).length := List.length_pos_iff.2 (ordT_ne n n [] (by simp))
set_option maxRecDepth 100000 in
set_option maxHeartbeats 4000000 in
theorem rfitting_any (n : Nat) (hn : n ≤ 5) (a : Option Addr) (cap : Nat) (zss : List (List Int)) (w : World) (hL : LstAt w a zss) (hl : zss.length ≤ 5) (hz : ∀ k, k < zss.length → (lth zss k).length ≤ 9223372036854775807) :
    Calls Try.prog 75 #[.int .i64 n, .slice a zss.length cap] w fun e w' => ∃ v, e = .returned v ∧ OwnX w' w.heap.size v (fitR n zss) ∧ Fut w w' := by
  obtain ⟨i1, hi1, hy0, hy1, hy2⟩ := info_parts info28
  have HM := Lib.hid (fun (d : Nat) (s : Int) (W : World) (F : Fut w W) => rmet_any a cap zss d s W (hL.fut F) (by omega) hz)
  have HR := Lib.hid (rows_own n hn n none 0 [] w (by simp) (fun h => World.ownsRow_nil _ _ _ _) (nil_ints _ _))
  have HP := Lib.hid (ord_pos n)
  have HLE := Lib.hid (ord_le hn)
  have HLN := Lib.hid (fun r (h : r ∈ ordT n n []) => ord_len h)
  have hnx : (n : Int) ≤ 5 := by omega
  unfold fitR
  clear hL hl hz
  generalize hords : ordT n n [] = os at *
  have HOS := Lib.hid hords
  clear hords HOS
  go_enter Try.func75, Try.ntmps75
  go_wp2_with fail
  refine HR.out.mono ?_
  rintro _ w1 ⟨v, rfl, hX1, F1⟩
  obtain ⟨g, c, _, rfl, _⟩ := hX1.take HP.out
  have HX1 := Lib.hid hX1
  have HF1 := Lib.hid F1
  have hox : (os.length : Int) ≤ 5000 := by have := HLE.out; omega
  clear hX1 F1 HR
  go_wp2_with fail
  go_loopw [5, 7] (fun ov iv wx => ∃ i : Nat, i ≤ os.length ∧ iv = .int .i64 i ∧ Hid (OwnX wx w1.heap.size ov ((os.take i).filter fun r => fbR zss r n)) ∧ Hid (Fut w1 wx)) (fun _ iv _ => os.length - (intOf iv).toNat)
  case atStart => exact ⟨0, Nat.zero_le _, rfl, Lib.hid (OwnX.nil _ _), Lib.hid Fut.rfl⟩
  case round =>
    obtain ⟨i, hin, rfl, HOX, HFX⟩ := hrel
    by_cases hlt : i < os.length
    · have hix : (i : Int) < os.length := by omega
      have hgl := HLN.out (lth os i) (by rw [lth_eq, List.getElem?_eq_getElem hlt]; exact List.getElem_mem _)
      have HGL := Lib.hid hgl
      clear hgl
      obtain ⟨al, ac, hgs, hcell, hOr⟩ := (HX1.out.fut HFX.out).at i hlt
      have HOR := Lib.hid hOr
      have HTK : Hid ((os.take (i + 1)).filter (fun r => fbR zss r n) = (os.take i).filter (fun r => fbR zss r n) ++ (if fbR zss (lth os i) n = true then [lth os i] else [])) := Lib.hid (by
        have e : lth os i = os[i] := by rw [lth_eq, List.getElem?_eq_getElem hlt]; rfl
        rw [List.take_succ_eq_append_getElem hlt, List.filter_append, e, List.filter_cons, List.filter_nil])
      have HFL : Hid (((os.take i).filter fun r => fbR zss r n).length ≤ 5000) := Lib.hid (Nat.le_trans (List.length_filter_le _ _) (by rw [List.length_take]; have := HLE.out; omega))
      generalize (os.take i).filter (fun r => fbR zss r n) = acc at *
      have HMW := Lib.hid (fun (d : Nat) (s : Int) => HM.out d s wr (HF1.out.trans HFX.out))
      have HFS := Lib.hid (fbR_succ zss (lth os i))
      have hf0 := fbR_zero zss (lth os i)
      clear HM hOr
      generalize hrow : lth os i = row at *
      have HROW := Lib.hid hrow
      clear hrow
      go_wp2_with fail
      go_loopw [8, 9] (fun fv dv wx => ∃ d : Nat, d ≤ n ∧ fv = .bool (fbR zss row d) ∧ dv = .int .i64 d ∧ wx = wr) (fun _ dv _ => n - (intOf dv).toNat)
      case atStart => exact ⟨0, Nat.zero_le _, by rw [hf0], rfl, rfl⟩
      case round =>
        obtain ⟨d, hdn, rfl, rfl, rfl⟩ := hrel
        by_cases hdl : d < n
        · have hdx : (d : Int) < n := by omega
          have HFD := Lib.hid (HFS.out d)
          obtain ⟨a', c', e, hI⟩ := HOR.out.ints
          simp only [Value.slice.injEq] at e
          obtain ⟨rfl, _, rfl⟩ := e
          obtain ⟨b, off, rfl, hb, hcd⟩ := hI d (by have := HGL.out; omega)
          have hdr : (d : Int) < row.length := by have := HGL.out; omega
          have HMD := Lib.hid (HMW.out d (nth row d))
          generalize nth row d = s at *
          clear hI
          cases hfb : fbR zss row d
          · rw [hfb] at HFD
            rw [Bool.false_and] at HFD
            clear hfb
            go_wp2
            go_round
            case rel => exact ⟨d + 1, by omega, by rw [HFD.out], by go_num, by first | rfl | trivial⟩
            case measure => simp [intOf]; omega
          · rw [hfb] at HFD
            rw [Bool.true_and] at HFD
            clear hfb
            generalize metB zss d s = mb at *
            go_wp2_with fail
            refine HMD.out.mono ?_
            rintro _ w2 ⟨rfl, rfl⟩
            go_wp2
            go_round
            case rel => exact ⟨d + 1, by omega, by rw [HFD.out], by go_num, by first | rfl | trivial⟩
            case measure => simp [intOf]; omega
        · obtain rfl : d = n := by omega
          cases hfb : fbR zss row d
          · rw [hfb] at HTK
            simp only [Bool.false_eq_true, if_false, List.append_nil] at HTK
            clear hfb
            go_wp2
            go_round
            case rel => exact ⟨i + 1, by omega, by go_num, by rw [HTK.out]; exact HOX, HFX⟩
            case measure => simp [intOf]; omega
          · rw [hfb] at HTK
            simp only [if_true] at HTK
            clear hfb
            obtain ⟨vals, hrow, hel⟩ := HOX.out
            have HRW := Lib.hid hrow
            have HEL := Lib.hid hel
            have HBW : Hid (w1.heap.size ≤ wr.heap.size) := Lib.hid (RowKit.Below.size HFX.out)
            clear hrow hel
            go_wp2_with (at_builtin; refine wpList_append_lies _ rfl _ _ 22 rfl w1.heap.size 28 i1 (.slice none 0 0) 1 24 Try.underlying22 hi1 hy0 hy1 hy2 rfl (by decide) _ acc.length vals rfl (row_fut HRW.out (Fut.alloc _ _)) ⟨wr.heap.size, 0, none⟩ 1 1 [.slice al row.length ac] rfl rfl (cell_one (by simp [go_sem])) (by simp [Value.oneCell']) (by omega) (by have := HFL.out; unfold maxLen; omega) (by have := HFL.out; omega) (by have := HBW.out; simp; omega) _ rfl ?_)
            intro g8 c8 w8 hown8 hgrow8 _ _
            have HX8 : Hid (OwnX w8 w1.heap.size (.slice (some ⟨g8, 0, none⟩) (acc.length + 1) c8) (acc ++ [row])) := Lib.hid (OwnX.app (row_fut HRW.out (Fut.alloc _ _)) (HEL.out.fut (Fut.alloc _ _)) (HOR.out.fut (Fut.alloc _ _)) hown8 hgrow8)
            have HF8 : Hid (Fut w1 w8) := Lib.hid (RowKit.Below.grown (HFX.out.trans (Fut.alloc wr (.cells #[.slice al row.length ac] 28))) hgrow8 (RowKit.Below.size (HFX.out.trans (Fut.alloc wr (.cells #[.slice al row.length ac] 28)))) fun q hq => (World.ownsRow.lt HRW.out q hq).1)
            clear hown8 hgrow8
            go_wp2
            go_round
            case rel => exact ⟨i + 1, by omega, by go_num, by rw [HTK.out]; exact HX8, HF8⟩
            case measure => simp [intOf]; omega
    · obtain rfl : i = os.length := by omega
      go_wp2
      go_ret
      exact ⟨_, rfl, by have h := HOX.out; rw [List.take_length] at h; exact h.base (RowKit.Below.size HF1.out), HF1.out.trans HFX.out⟩
end Go.Proofs.Ytpgifeaejjjjnaa
