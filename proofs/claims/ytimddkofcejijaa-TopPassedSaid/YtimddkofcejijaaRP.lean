/- Layer 2: the first round. -/
import Derived.Test.YtimddkofcejijaaRO
namespace Go.Proofs.Ytimddkofcejijaa
open Go.RowKit Go.Sort
theorem Owns.fut {w w' : World} {B : Nat} {v : Value} {zs : List Int} (h : Owns w B v zs) (F : Fut w w') : Owns w' B v zs := by
  obtain ⟨h1, h2⟩ := h
  refine ⟨h1, ?_⟩
  rcases h2 with h2 | ⟨g, cap, cur, h3, h4, h5, h6⟩
  · exact .inl h2
  · exact .inr ⟨g, cap, cur, h3, h4, by rw [F.block g (Array.getElem?_eq_some_iff.1 h5).1]; exact h5, h6⟩
theorem Owns.nil (w : World) (B : Nat) : Owns w B (.slice none 0 0) [] := World.ownsRow_nil _ _ _ _
def lenOf : Value → Nat
  | .slice _ n _ => n
  | _ => 0
theorem Owns.len {w : World} {B : Nat} {v : Value} {zs : List Int} (h : Owns w B v zs) : lenOf v = zs.length := by
  obtain ⟨a, cap, rfl, _⟩ := h.ints; rfl
theorem BoxM.belowB {w w' : World} {b B : Nat} {c : Int} {a : Option Addr} {n cap : Nat} (h : BoxM w b c a n cap) (hB : b < B) (F : RowKit.Below B w w') : BoxM w' b c a n cap :=
  ⟨Nat.lt_of_lt_of_le h.1 (RowKit.Below.size F), (RowKit.Below.cell F (p := ⟨b, 0, none⟩) hB).trans h.2.1, (RowKit.Below.cell F (p := ⟨b, 1, none⟩) hB).trans h.2.2⟩
theorem BoxC.belowB {w w' : World} {b B : Nat} {x : Int} {l g : Nat} (h : BoxC w b x l g) (hB : b < B) (F : RowKit.Below B w w') : BoxC w' b x l g :=
  ⟨Nat.lt_of_lt_of_le h.1 (RowKit.Below.size F), (RowKit.Below.cell F (p := ⟨b, 0, none⟩) hB).trans h.2.1, (RowKit.Below.cell F (p := ⟨b, 1, none⟩) hB).trans h.2.2.1, (RowKit.Below.cell F (p := ⟨b, 2, none⟩) hB).trans h.2.2.2.1,
   (RowKit.Below.frozen F (p := ⟨b, 0, none⟩) hB).trans h.2.2.2.2.1, (RowKit.Below.frozen F (p := ⟨b, 1, none⟩) hB).trans h.2.2.2.2.2.1, (RowKit.Below.frozen F (p := ⟨b, 2, none⟩) hB).trans h.2.2.2.2.2.2⟩
theorem thr_dec (ss : List (Int × Int)) (x l g i : Nat) (hi : l.testBit i = true) : (thr ss x l g i).2.1 + (thr ss x l g i).2.2 < l + g := by
  have h2 : (2 ^ i).testBit i = true := by rw [Nat.testBit_two_pow]; simp
  unfold thr
  cases hg : g.testBit i
  · have := dif_lt ⟨i, hi, h2⟩
    simpa using this
  · have := dif_lt ⟨i, hg, h2⟩
    simp only [if_true]
    omega
/-- a cart is put in its place. -/
def putC (w : World) (b : Nat) (x : Int) (l g : Nat) : World := ((w.setCell ⟨b, 0, none⟩ (.int .i64 x)).setCell ⟨b, 1, none⟩ (sv l)).setCell ⟨b, 2, none⟩ (sv g)
theorem putC_below {B : Nat} {a w : World} (h : RowKit.Below B a w) (b : Nat) (hb : B ≤ b) (x : Int) (l g : Nat) : RowKit.Below B a (putC w b x l g) :=
  ((h.setCell (p := ⟨b, 0, none⟩) hb _).setCell (p := ⟨b, 1, none⟩) hb _).setCell (p := ⟨b, 2, none⟩) hb _
theorem putC_own {w : World} {b B : Nat} (hb : b < B) {v : Value} {zs : List Int} (h : Owns w B v zs) (x : Int) (l g : Nat) : Owns (putC w b x l g) B v zs :=
  ownsRow_setCell_below (ownsRow_setCell_below (ownsRow_setCell_below h (a := ⟨b, 0, none⟩) hb _) (a := ⟨b, 1, none⟩) hb _) (a := ⟨b, 2, none⟩) hb _
theorem putC_box {w : World} {b : Nat} {x : Int} {l g : Nat} (h : BoxC w b x l g) (x' : Int) (l' g' : Nat) : BoxC (putC w b x' l' g') b x' l' g' := by
  obtain ⟨h0, h1, h2, h3, h4, h5, h6⟩ := h
  unfold putC
  refine ⟨by simpa using h0, ?_, ?_, ?_, ?_, ?_, ?_⟩ <;> simp [go_sem, *]
theorem putC_boxM {w : World} {b d : Nat} {c : Int} {a : Option Addr} {n cap : Nat} (h : BoxM w d c a n cap) (hd : d < b) (x : Int) (l g : Nat) : BoxM (putC w b x l g) d c a n cap :=
  h.belowB (B := b) hd (putC_below (RowKit.Below.refl _ _) b (Nat.le_refl _) x l g)
theorem Fut.trans' {a b c : World} (h : Fut a b) {B : Nat} (h' : RowKit.Below B b c) (hB : a.heap.size ≤ B) : Fut a c :=
  RowKit.Below.trans h (RowKit.Below.mono h' hB)
theorem maxL {n : Nat} (h : n ≤ 200000) : n + 1 ≤ maxLen := by unfold maxLen; omega
set_option maxRecDepth 100000 in
set_option maxHeartbeats 4000000 in
theorem firstRound_any (c : Nat) (a : Option Addr) (cap : Nat) (ss : List (Int × Int)) (g : Nat) (w : World) (hS : StrAt w a ss) (hl : ss.length ≤ 15) (hp : SmL ss) (hc : c ≤ 15) (hg : g < 65536) :
    Calls Try.prog 68 #[mapV c a ss.length cap, sv g] w fun e w' => ∃ l cap, e = .returned (.slice l (roundM ss c g).length cap) ∧ IntsAt w' l (roundM ss c g) ∧ Fut w w' := by
  obtain ⟨i0, hi0, hz0, hz1, hz2⟩ := info_parts info3
  have HS := Lib.hid hS
  have HP := Lib.hid hp
  have hm := mask_lt hl
  have HAL := Lib.hid (fun W => all_any c a ss.length cap W (by omega))
  have hRM : roundM ss c g = roundF ss c (2 ^ ss.length - 1 + g + 1) 0 (2 ^ ss.length - 1) g := rfl
  have hml : 2 ^ ss.length - 1 < 2 ^ ss.length := by have := Nat.one_le_two_pow (n := ss.length); omega
  have HML := Lib.hid hml
  generalize roundM ss c g = R at *
  generalize hmm : 2 ^ ss.length - 1 = m at *
  have hK : m + g ≤ 200000 := by omega
  generalize hk : m + g = K at *
  have HRM : Hid (∃ fuel, m + g < fuel ∧ [] ++ roundF ss c fuel 0 m g = R) := Lib.hid ⟨K + 1, by omega, hRM.symm⟩
  have HK0 := Lib.hid (Nat.le_of_eq hk)
  clear hS hp hRM hmm hml hk
  go_enter Try.func68, Try.ntmps68
  go_wp2_with fail
  have hB := BoxM.new w c a ss.length cap 24
  have hF : Fut w (w.alloc (.cells #[.int .i64 c, .slice a ss.length cap] 24)) := Fut.alloc _ _
  generalize w.alloc (.cells #[.int .i64 c, .slice a ss.length cap] 24) = W1 at *
  refine (HAL.out _).mono ?_
  rintro _ w1 ⟨rfl, F⟩
  have hB1 := hB.fut F
  have hF1 := hF.trans F
  clear hB hF F
  go_wp2_with fail
  have hC := BoxC.new w1 0 m g 123
  have hB2 := hB1.fut (Fut.alloc w1 (.cells #[.int .i64 0, sv m, sv g] 123))
  have hF2 := hF1.trans (Fut.alloc w1 (.cells #[.int .i64 0, sv m, sv g] 123))
  have hsz : (w1.alloc (.cells #[.int .i64 0, sv m, sv g] 123)).heap.size = w1.heap.size + 1 := by simp
  have hlt := hB1.1
  generalize w1.alloc (.cells #[.int .i64 0, sv m, sv g] 123) = w2 at *
  generalize hCC : w1.heap.size = C at *
  generalize hBB : w.heap.size = B at *
  have HBB := Lib.hid hBB
  have HB0 := Lib.hid hB2
  have HC0 := Lib.hid hC
  have HF0 := Lib.hid hF2
  clear hB1 hF1 hC hB2 hF2 hsz hCC hBB
  go_loopw [6] (fun rv wr => ∃ (x l q fuel : Nat) (acc : List Int), Hid (Owns wr (C + 1) rv acc) ∧ Hid (BoxM wr B c a ss.length cap) ∧ Hid (BoxC wr C x l q) ∧ Hid (Fut w wr) ∧ x ≤ 15 ∧ Hid (l < 2 ^ ss.length) ∧ q < 65536 ∧ l + q < fuel ∧ acc.length + (l + q) ≤ K ∧ Hid (acc ++ roundF ss c fuel x l q = R)) (fun rv _ => K - lenOf rv)
  case atStart =>
    obtain ⟨fuel, h1, h2⟩ := HRM.out
    exact ⟨0, m, g, fuel, [], Lib.hid (Owns.nil _ _), HB0, HC0, HF0, by omega, HML, hg, h1, by simpa using HK0.out, Lib.hid h2⟩
  case round =>
    obtain ⟨x, l, q, fuel, acc, HO, HB, HC, HF, hx, HL, hq, hfu, hlen, HR⟩ := hrel
    obtain ⟨f, rfl⟩ : ∃ f, fuel = f + 1 := ⟨fuel - 1, by omega⟩
    have hl16 : l < 65536 := by have := pow_lt ss.length hl; have := HL.out; omega
    have HN := Lib.hid (next_any c a cap ss x l q wr (HS.out.fut HF.out) hl HP.out hx hc HL.out hq)
    obtain ⟨hb, b0, b1⟩ := HB.out
    obtain ⟨hcb, c0, c1, c2, _, _, _⟩ := HC.out
    unfold roundF at HR
    have HNO : Hid (nextO ss c x l q = (listN l).find? (okB ss c x l q)) := Lib.hid rfl
    generalize nextO ss c x l q = N at *
    cases N with
    | none =>
      simp only [List.append_nil] at HR
      have hR : acc = R := HR.out
      subst hR
      go_wp2_with fail
      refine HN.out.mono ?_
      rintro _ w3 ⟨rfl, F⟩
      have HO3 := Lib.hid (HO.out.fut F).ints
      have HF3 := Lib.hid (HF.out.trans F)
      clear F hb b0 b1 hcb c0 c1 c2 hz0 hz1 hz2 hi0
      obtain ⟨la, lcap, ev, hI⟩ := HO3.out
      subst ev
      have HI := Lib.hid hI
      clear hI HO3
      go_wp2
      go_ret
      exact ⟨la, lcap, rfl, HI.out, HF3.out⟩
    | some i =>
      simp only at HR
      have hfi := List.find?_some HNO.out.symm
      have hmem := List.mem_of_find?_eq_some HNO.out.symm
      have hlb : l.testBit i = true := by unfold listN at hmem; rw [List.mem_filter] at hmem; exact hmem.2
      have hil : i < ss.length := by
        rcases Nat.lt_or_ge i ss.length with h | h
        · exact h
        · rw [Nat.testBit_lt_two_pow (Nat.lt_of_lt_of_le HL.out (Nat.pow_le_pow_right (by decide) h))] at hlb; cases hlb
      have hpi := HP.out.at i hil
      have het : (endsM (str ss i)).testBit x = true := by unfold okB at hfi; revert hfi; cases (endsM (str ss i)).testBit x <;> simp
      obtain ⟨t1, t2, t3⟩ := thr_lt ss hpi het hl16 hq
      obtain ⟨s1, s2⟩ := thr_le ss x l q i
      have hdec := thr_dec ss x l q i hlb
      have HT := Lib.hid (fun W (F : Fut w W) => through_any c a cap ss x l q i W (HS.out.fut F) hl hil hpi hx hl16 hq het)
      have HRR : Hid ((acc ++ [(i : Int)]) ++ roundF ss c f (thr ss x l q i).1 (thr ss x l q i).2.1 (thr ss x l q i).2.2 = R) := Lib.hid (by rw [List.append_assoc]; exact HR.out)
      clear hfi hmem hlb hpi het HR
      generalize thr ss x l q i = T at *
      obtain ⟨T1, T2, T3⟩ := T
      dsimp only at *
      have hix : (i : Int) < 16 := by omega
      go_wp2_with fail
      refine HN.out.mono ?_
      rintro _ w3 ⟨rfl, F⟩
      have HO3 := Lib.hid (HO.out.fut F)
      have HB3 := Lib.hid (HB.out.fut F)
      have HC3 := Lib.hid (HC.out.fut F)
      have HF3 := Lib.hid (HF.out.trans F)
      have hsz3 : C + 1 ≤ w3.heap.size := (HC.out.fut F).1
      have hal : acc.length ≤ 200000 := by omega
      clear F hb b0 b1 hcb c0 c1 c2 HN HO HB HC
      simp only [Option.getD_some, Option.isSome_some] at *
      go_wp2_with (at_builtin; refine wpList_append_own _ rfl _ _ 25 rfl (C + 1) 3 i0 (.int .i64 0) 1 8 Try.underlying25 hi0 hz0 hz1 hz2 rfl (by decide) _ _ _ rfl (HO3.out.alloc _) ⟨w3.heap.size, 0, none⟩ 1 1 [.int .i64 (i : Int)] rfl rfl ?c1 ?c2 ?c3 ?c4 ?c5 ?_)
      case c1 => exact World.news_of_block (cs := #[.int .i64 (i : Int)]) (t := 3) (fr := (0, 0)) (heap_alloc_new _ _)
      case c2 => intro u hu; simp at hu; subst hu; rfl
      case c3 => exact maxL hal
      case c4 => omega
      case c5 => simp; omega
      · intro v' w4 hown' hgrow _
        have HO4 : Hid (Owns w4 (C + 1) v' (acc ++ [(i : Int)])) := Lib.hid (by unfold Owns; simpa using hown')
        have hBel : RowKit.Below (C + 1) w3 w4 := (RowKit.Below.alloc (RowKit.Below.refl _ _) hsz3 _).grown hgrow (by simp; omega) (fun i hi => (HO3.out.lt i hi).1)
        have HB4 := Lib.hid (HB3.out.belowB (by omega) hBel)
        have HC4 := Lib.hid (HC3.out.belowB (by omega) hBel)
        have HF4 : Hid (Fut w w4) := Lib.hid (HF3.out.trans' hBel (by have := HBB.out; omega))
        clear hown' hgrow hBel
        obtain ⟨hb, b0, b1⟩ := HB4.out
        obtain ⟨hcb, c0, c1, c2, _, _, _⟩ := HC4.out
        go_wp2_with fail
        refine (HT.out _ HF4.out).mono ?_
        rintro _ w5 ⟨rfl, F⟩
        have HO5 := Lib.hid (putC_own (by omega : C < C + 1) (HO4.out.fut F) T1 T2 T3)
        have HB5 := Lib.hid (putC_boxM (HB4.out.fut F) hlt T1 T2 T3)
        have hC5 := HC4.out.fut F
        have HC5 := Lib.hid (putC_box hC5 T1 T2 T3)
        have HF5 : Hid (Fut w (putC w5 C T1 T2 T3)) := Lib.hid (putC_below (HF4.out.trans F) C (by have := HBB.out; omega) T1 T2 T3)
        have HL2 : Hid (T2 < 2 ^ ss.length) := Lib.hid (Nat.lt_of_le_of_lt s1 HL.out)
        clear F hb b0 b1 hcb c0 c1 c2
        obtain ⟨hcb, c0, c1, c2, f0, f1, f2⟩ := hC5
        have hlv : lenOf v' = acc.length + 1 := by have := HO4.out.len; simpa using this
        have hlr := HO3.out.len
        go_wp2
        go_roundw
        case rel => exact ⟨T1, T2, T3, f, acc ++ [(i : Int)], HO5, HB5, HC5, HF5, t1, HL2, t3, by omega, by simp; omega, HRR⟩
        case measure => rw [hlv, hlr]; omega
def roundL (c : Int) (ss : List (Int × Int)) (zs : List Int) : List Int := if twE c ss zs = 0 then roundM ss c.toNat (setM zs) else []
theorem tw_good {c : Int} {ss : List (Int × Int)} {zs : List Int} (h : twE c ss zs = 0) : chkM c ss = 0 ∧ ascE ss.length zs (-1) = 0 ∧ enoughB ss (setM zs) = true := by
  unfold twE at h
  split at h
  · omega
  split at h
  · omega
  split at h
  · rename_i h1 h2 h3
    exact ⟨by omega, by omega, h3⟩
  · omega
set_option maxRecDepth 100000 in
set_option maxHeartbeats 1000000 in
theorem round_any (c : Int) (a : Option Addr) (cap : Nat) (ss : List (Int × Int)) (d : Option Addr) (dap : Nat) (zs : List Int) (w : World) (hS : StrAt w a ss) (hZ : IntsAt w d zs) (hlz : zs.length ≤ 1000) :
    Calls Try.prog 26 #[mapV c a ss.length cap, .slice d zs.length dap] w (TupL (twE c ss zs) (roundL c ss zs) w) := by
  have HT := Lib.hid (fun W (F : Fut w W) => twice_any c a cap ss d dap zs W (hS.fut F) (hZ.fut F) hlz)
  by_cases ht : twE c ss zs = 0
  · obtain ⟨h1, h2, _⟩ := tw_good ht
    obtain ⟨hc1, hc6, h9, hp, _, _⟩ := chk_good h1
    have hs := setM_lt (by omega) h2
    obtain ⟨cn, rfl⟩ := Int.eq_ofNat_of_zero_le (show 0 ≤ c by omega)
    have HR := Lib.hid (fun W (F : Fut w W) => firstRound_any cn a cap ss (setM zs) W (hS.fut F) (by omega) hp (by omega) hs)
    have hR : roundL cn ss zs = roundM ss cn (setM zs) := by unfold roundL; rw [if_pos ht]; simp
    rw [hR]
    rw [ht] at HT ⊢
    clear hS hZ ht h1 h2 hp hR
    generalize roundM ss cn (setM zs) = R at *
    generalize setM zs = S at *
    go_enter Try.func26, Try.ntmps26
    go_wp2_with fail
    have hB := BoxM.new w cn a ss.length cap 24
    have hF : Fut w (w.alloc (.cells #[.int .i64 cn, .slice a ss.length cap] 24)) := Fut.alloc _ _
    generalize w.alloc (.cells #[.int .i64 cn, .slice a ss.length cap] 24) = W1 at *
    generalize w.heap.size = B at *
    refine (HT.out _ hF).mono ?_
    rintro _ w1 ⟨s, rfl, hs0, F⟩
    obtain rfl := hs0 rfl
    have HF := Lib.hid (hF.trans F)
    obtain ⟨hb, b0, b1⟩ := hB.fut F
    clear hF F hB
    go_wp2_with fail
    refine (HR.out _ HF.out).mono ?_
    rintro _ w2 ⟨l, lc, rfl, hI, F⟩
    have HI := Lib.hid hI
    have HF2 := Lib.hid (HF.out.trans F)
    clear hI F
    go_wp2
    go_ret2
    exact ⟨l, lc, rfl, HI.out, HF2.out⟩
  · have hR : roundL c ss zs = [] := by unfold roundL; rw [if_neg ht]
    have hne : (twE c ss zs != 0) = true := bne_iff_ne.2 ht
    rw [hR]
    clear hS hZ hR
    generalize twE c ss zs = r at *
    go_enter Try.func26, Try.ntmps26
    go_wp2_with fail
    refine (HT.out _ (Fut.alloc _ _)).mono ?_
    rintro _ w1 ⟨s, rfl, _, F⟩
    go_wp2
    go_ret2
    exact ⟨_, _, rfl, nil_ints _ _, (Fut.alloc _ _).trans F⟩
end Go.Proofs.Ytimddkofcejijaa
