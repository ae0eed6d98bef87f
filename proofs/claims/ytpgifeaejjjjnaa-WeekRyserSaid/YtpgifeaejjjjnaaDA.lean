/- plans by streets; the law's planned; the law Turned. -/
import Derived.Test.YtpgifeaejjjjnaaCZ
namespace Go.Proofs.Ytpgifeaejjjjnaa
open Go.RowKit Go.Sort
/-- a row by streets. -/
def invR (n : Nat) (r : List Int) : List Int := tl n r n
theorem invR_len (n : Nat) (r : List Int) : (invR n r).length = n := tl_len n r n
theorem invR_nth {n : Nat} {r : List Int} {s : Nat} (h : s < n) : nth (invR n r) s = tset r n s := by
  rw [nth_eq]; unfold invR tl; simp [h]
theorem tset_at {r : List Int} {s : Nat} : ∀ (k d : Nat), d < k → nth r d = s → (∀ e, e < k → nth r e = s → e = d) → tset r k s = (d : Int)
  | 0, d, hd, _, _ => by omega
  | k + 1, d, hd, he, hu => by
    unfold tset
    by_cases e : (s : Int) = nth r k
    · rw [if_pos e]
      have := hu k (by omega) e.symm
      omega
    · rw [if_neg e]
      have hne : d ≠ k := by rintro rfl; exact e he.symm
      exact tset_at k d (by omega) he (fun e' h1 h2 => hu e' (by omega) h2)
theorem ord_inj {n : Nat} {r : List Int} (h : r ∈ ordT n n []) {d e : Nat} (hd : d < n) (he : e < n) (heq : nth r d = nth r e) : d = e := by
  have hnd := nodup_take.1 (mem_ord.1 h).2.2
  have hl := ord_len h
  rcases Nat.lt_trichotomy d e with hlt | rfl | hgt
  · exact absurd heq (hnd d e hlt (by omega))
  · rfl
  · exact absurd heq.symm (hnd e d hgt (by omega))
/-- the day on which a street comes. -/
theorem inv_at {n : Nat} {r : List Int} (h : r ∈ ordT n n []) {d s : Nat} (hd : d < n) (hs : nth r d = s) : nth (invR n r) s = (d : Int) := by
  have hsn : s < n := by have := (ord_in h hd).2; omega
  rw [invR_nth hsn]
  exact tset_at n d hd hs fun e he h2 => ord_inj h he hd (h2.trans hs.symm)
theorem ord_onto {n : Nat} {r : List Int} (h : r ∈ ordT n n []) {s : Nat} (hs : s < n) : ∃ d, d < n ∧ nth r d = s := by
  obtain ⟨d, hd, he⟩ := Mh.onto (n := n) (f := fun d => (nth r d).toNat) (fun d hd => by have := ord_in h hd; omega) (fun i j hi hj hne e => by
    have h1 := ord_in h hi
    have h2 := ord_in h hj
    exact hne (ord_inj h hi hj (by omega))) s hs
  exact ⟨d, hd, by have := ord_in h hd; omega⟩
theorem inv_back {n : Nat} {r : List Int} (h : r ∈ ordT n n []) {s d : Nat} (hs : s < n) (hd : nth (invR n r) s = (d : Int)) : d < n ∧ nth r d = s := by
  obtain ⟨e, he, h2⟩ := ord_onto h hs
  have := inv_at h he h2
  have : d = e := by omega
  subst this
  exact ⟨he, h2⟩
theorem inv_ord {n : Nat} {r : List Int} (h : r ∈ ordT n n []) : invR n r ∈ ordT n n [] := by
  have hval : ∀ s, s < n → ∃ d : Nat, d < n ∧ nth r d = s ∧ nth (invR n r) s = (d : Int) := fun s hs => by
    obtain ⟨d, hd, he⟩ := ord_onto h hs
    exact ⟨d, hd, he, inv_at h hd he⟩
  refine mem_ord.2 ⟨invR_len n r, fun x hx => ?_, nodup_take.2 fun j k hjk hk e => ?_⟩
  · obtain ⟨s, hs, rfl⟩ := List.getElem_of_mem hx
    rw [invR_len] at hs
    obtain ⟨d, hd, _, hv⟩ := hval s hs
    rw [nth_eq, List.getElem?_eq_getElem (by rw [invR_len]; exact hs)] at hv
    simp at hv
    rw [hv]
    exact ⟨by omega, by omega⟩
  · rw [invR_len] at hk
    obtain ⟨d1, h1, e1, v1⟩ := hval j (by omega)
    obtain ⟨d2, h2, e2, v2⟩ := hval k hk
    have : d1 = d2 := by omega
    subst this
    omega
theorem nth_ext {l m : List Int} (hl : l.length = m.length) (h : ∀ j, j < l.length → nth l j = nth m j) : l = m := by
  apply List.ext_getElem hl
  intro i h1 h2
  have := h i h1
  rwa [nth_eq, nth_eq, List.getElem?_eq_getElem h1, List.getElem?_eq_getElem h2] at this
theorem inv_inv {n : Nat} {r : List Int} (h : r ∈ ordT n n []) : invR n (invR n r) = r := by
  refine nth_ext (by rw [invR_len, ord_len h]) fun d hd => ?_
  rw [invR_len] at hd
  obtain ⟨s, hs⟩ := Int.eq_ofNat_of_zero_le (ord_in h hd).1
  have hsn : s < n := by have := (ord_in h hd).2; omega
  rw [hs]
  exact inv_at (inv_ord h) hsn (inv_at h hd hs)
/-- a plan by streets. -/
def turnL (n : Nat) (P : List (List Int)) : List (List Int) := P.map (invR n)
theorem turnL_len (n : Nat) (P : List (List Int)) : (turnL n P).length = P.length := by unfold turnL; simp
theorem turnL_lth (n : Nat) (P : List (List Int)) (i : Nat) (h : i < P.length) : lth (turnL n P) i = invR n (lth P i) := by
  rw [lth_eq, lth_eq]; unfold turnL
  rw [List.getElem?_map, List.getElem?_eq_getElem h]; rfl
theorem turn_grid {n : Nat} {P : List (List Int)} (hc : chkE n P = 0) : turnE n P = turnL n P := by
  unfold turnE
  rw [if_pos hc]
  refine lth_ext (by rw [gridL_len, turnL_len]) fun i hi => ?_
  rw [gridL_len] at hi
  rw [gridL_lth _ _ _ _ hi, turnL_lth n P i hi]
  rfl
theorem turn_plan {n : Nat} {P : List (List Int)} (h : Plan n P) : Plan n (turnL n P) := by
  refine ⟨by rw [turnL_len]; exact h.len, fun i hi => ?_, fun i j hij hj s hs => ?_⟩
  · rw [turnL_len] at hi
    rw [turnL_lth n P i hi]; exact inv_ord (h.row i hi)
  · rw [turnL_len] at hj
    rw [turnL_lth n P i (by omega), turnL_lth n P j hj]
    intro e
    obtain ⟨d, hd⟩ := Int.eq_ofNat_of_zero_le (ord_in (inv_ord (h.row i (by omega))) hs).1
    have h1 := inv_back (h.row i (by omega)) hs hd
    have h2 := inv_back (h.row j hj) hs (e.symm.trans hd)
    exact h.col i j hij hj d h1.1 (h1.2.trans h2.2.symm)
theorem turn_turn {n : Nat} {P : List (List Int)} (h : Plan n P) : turnL n (turnL n P) = P := by
  refine lth_ext (by rw [turnL_len, turnL_len]) fun i hi => ?_
  rw [turnL_len, turnL_len] at hi
  rw [turnL_lth n _ i (by rw [turnL_len]; exact hi), turnL_lth n P i hi, inv_inv (h.row i hi)]
theorem turn_fit {n : Nat} {P : List (List Int)} (h : Plan n P) {r : List Int} (hr : r ∈ fitL n P) : invR n r ∈ fitL n (turnL n P) := by
  obtain ⟨h1, h2⟩ := List.mem_filter.1 hr
  obtain ⟨_, h4⟩ := (am_iff (ord_len h1)).1 (by simpa using h2 : amE n P r = 0)
  have hi := inv_ord h1
  have : amE n (turnL n P) (invR n r) = 0 := (am_iff (ord_len hi)).2 ⟨hi, fun s hs => tkn_no.2 fun i hil => by
    rw [turnL_len] at hil
    rw [turnL_lth n P i hil]
    intro e
    obtain ⟨d, hd⟩ := Int.eq_ofNat_of_zero_le (ord_in hi hs).1
    have a1 := inv_back h1 hs hd
    have a2 := inv_back (h.row i hil) hs (e.trans hd)
    exact tkn_no.1 (h4 d a1.1) i hil (a2.2.trans a1.2.symm)⟩
  exact List.mem_filter.2 ⟨hi, by simp [this]⟩
theorem ordT_nodup (n : Nat) : ∀ (m : Nat) (h : List Int), (ordT n m h).Nodup
  | 0, h => by simp [ordT]
  | m + 1, h => by
    unfold ordT List.Nodup
    rw [List.pairwise_flatMap]
    refine ⟨fun i _ => ?_, ?_⟩
    · by_cases hc : h.contains (i : Int) = true
      · rw [if_pos hc]; exact List.Pairwise.nil
      · rw [if_neg hc]; exact ordT_nodup n m _
    · refine List.Pairwise.imp (R := fun a b => a ≠ b) (fun {a b} hab x hx y hy e => ?_) List.nodup_range
      have key : ∀ (i : Nat) (z : List Int), (z ∈ if h.contains (i : Int) = true then ([] : List (List Int)) else ordT n m (h ++ [(i : Int)])) → nth z h.length = (i : Int) := fun i z hz => by
        by_cases hc : h.contains (i : Int) = true
        · rw [if_pos hc] at hz; cases hz
        · rw [if_neg hc] at hz
          obtain ⟨t, rfl, _⟩ := (mem_ordT n m _ _).1 hz
          rw [nth_eq]; simp
      have h1 := key a x hx
      have h2 := key b y hy
      rw [e] at h1
      exact hab (by omega)
theorem fitL_nodup (n : Nat) (P : List (List Int)) : (fitL n P).Nodup := List.Pairwise.sublist List.filter_sublist (ordT_nodup n n [])
theorem fit_leT {n : Nat} {P : List (List Int)} (h : Plan n P) : (fitL n P).length ≤ (fitL n (turnL n P)).length := by
  have hs : ((fitL n P).map (invR n)) ⊆ fitL n (turnL n P) := fun x hx => by
    obtain ⟨r, hr, rfl⟩ := List.mem_map.1 hx
    exact turn_fit h hr
  have hnd : ((fitL n P).map (invR n)).Nodup := by
    refine List.pairwise_map.2 (List.Pairwise.imp_of_mem (fun {a b} ha hb hab e => ?_) (fitL_nodup n P))
    have e1 := congrArg (invR n) e
    rw [inv_inv (List.mem_filter.1 ha).1, inv_inv (List.mem_filter.1 hb).1] at e1
    exact hab e1
  have := Mh.nodup_le hnd hs
  simpa using this
/-- as many rows fit by streets. -/
theorem fit_turn {n : Nat} {P : List (List Int)} (h : Plan n P) : (fitL n P).length = (fitL n (turnL n P)).length := by
  have h1 := fit_leT h
  have h2 := fit_leT (turn_plan h)
  rw [turn_turn h] at h2
  omega
set_option maxRecDepth 100000 in
set_option maxHeartbeats 4000000 in
/-- the law's planned, at a plan. -/
theorem planned_yes (n : Nat) (h1 : 1 ≤ n) (hn : n ≤ 5) (la : Option Addr) (lc : Nat) (P : List (List Int)) (w : World) (hL : LstC w la P) (hP : Plan n P) (hcap : P.length ≤ lc) (hcm : lc ≤ 9223372036854775807) :
    Calls Try.prog 49 #[.int .i64 n, .slice la P.length lc] w fun e w' => e = .returned (.bool true) ∧ w = w' := by
  have HL := Lib.hid hL
  have HP := Lib.hid hP
  have hpl := hP.len
  have hlx : (P.length : Int) ≤ n := by omega
  have hnx : (n : Int) ≤ 5 := by omega
  have hnl : ¬ n < P.length := by omega
  have HCM := Lib.hid (show P.length ≤ lc ∧ lc ≤ 9223372036854775807 from ⟨hcap, hcm⟩)
  clear hL hP hcap hcm
  go_enter Try.func49, Try.ntmps49
  go_wp2_with fail
  go_loopw [17] (fun iv wr => ∃ i : Nat, i ≤ P.length ∧ iv = .int .i64 i ∧ wr = w) (fun iv _ => P.length - (intOf iv).toNat)
  case atStart => exact ⟨0, Nat.zero_le _, rfl, rfl⟩
  case round =>
    obtain ⟨i, hi, rfl, rfl⟩ := hrel
    by_cases hlt : i < P.length
    · have hix : (i : Int) < P.length := by omega
      have hil : (i : Int) ≤ lc := by have := HCM.out; omega
      obtain ⟨bb, off, l, cr, ea, hbb, d1, hlr, hcr, hI⟩ := HL.out i hlt
      subst ea
      have hro := HP.out.row i hlt
      have hrl := ord_len hro
      have HRO := Lib.hid hro
      have HRL := Lib.hid hrl
      have HII := Lib.hid hI
      have HCR := Lib.hid (show (lth P i).length ≤ cr ∧ cr ≤ 9223372036854775807 from ⟨hlr, hcr⟩)
      have hrx : ((lth P i).length : Int) = n := by omega
      have HRX := Lib.hid hrx
      clear hI hlr hcr hro hrl hrx
      generalize hrow : lth P i = row at *
      have HROW := Lib.hid hrow
      clear hrow
      have hrne : ((row.length : Int) == (n : Int)) = true := by have := HRX.out; simp; omega
      have hrnb : ((row.length : Int) != (n : Int)) = false := by have := HRX.out; simp; omega
      have hsl2 := fun W => slice_to22 bb off P.length lc i (by have := HCM.out; omega) W
      go_wp2_with fail
      go_loopw [28] (fun dv wq => ∃ d : Nat, d ≤ row.length ∧ dv = .int .i64 d ∧ wq = wr) (fun dv _ => row.length - (intOf dv).toNat)
      case atStart => exact ⟨0, Nat.zero_le _, rfl, rfl⟩
      case round =>
        obtain ⟨d, hd, rfl, rfl⟩ := hrel
        by_cases hdl : d < row.length
        · have hdx : (d : Int) < row.length := by omega
          have hdn : d < n := by have := HRL.out; omega
          obtain ⟨b2, o2, e2, hb2, d2⟩ := HII.out d hdl
          subst e2
          have hdc : (d : Int) ≤ cr := by have := HCR.out; omega
          have hs0 := ord_in HRO.out hdn
          have hs1 : (nth row d < 0) = False := by simp; omega
          have hsl := fun W => slice_to28 b2 o2 row.length cr d (by have := HCR.out; omega) W
          have hct : (row.take d).contains (nth row d) = false := by
            cases e : (row.take d).contains (nth row d)
            · rfl
            · obtain ⟨j, hj, e2⟩ := (take_has (by omega)).1 e
              exact absurd (ord_inj HRO.out (by omega) hdn e2) (by omega)
          have HK := Lib.hid (contains_any (some ⟨b2, o2, none⟩) cr (row.take d) (nth row d) wr (HII.out.take d) (by rw [List.length_take]; have := HRL.out; omega))
          rw [hct, List.length_take, Nat.min_eq_left (by omega)] at HK
          have HCOL : Hid (∀ j, j < i → (nth (lth P j) d == nth row d) = false) := Lib.hid (fun j hj => by
            have := HP.out.col j i hj hlt d hdn
            rw [HROW.out] at this
            simpa using this)
          generalize nth row d = x at *
          obtain ⟨hs0a, hs0b⟩ := hs0
          clear hct hs1
          go_wp2_with fail
          refine HK.out.mono ?_
          rintro _ w1 ⟨rfl, rfl⟩
          go_wp2_with fail
          go_loopw [51] (fun jv wq => ∃ j : Nat, j ≤ i ∧ jv = .int .i64 j ∧ wq = wr) (fun jv _ => i - (intOf jv).toNat)
          case atStart => exact ⟨0, Nat.zero_le _, rfl, rfl⟩
          case round =>
            obtain ⟨j, hj, rfl, rfl⟩ := hrel
            by_cases hjl : j < i
            · have hjx : (j : Int) < i := by omega
              obtain ⟨b3, o3, l3, c3, e3, hb3, d3, hl3, hc3, hI3⟩ := HL.out j (by omega)
              simp at e3
              obtain ⟨rfl, rfl⟩ := e3
              have hrl3 := ord_len (HP.out.row j (by omega))
              have hdx3 : (d : Int) < (lth P j).length := by omega
              obtain ⟨b4, o4, e4, hb4, d4⟩ := hI3 d (by omega)
              subst e4
              have hcol := HCOL.out j hjl
              clear hI3 hrl3 hl3 hc3
              generalize nth (lth P j) d = y at *
              generalize (lth P j).length = yl at *
              go_wp2
              go_round
              case rel => exact ⟨j + 1, by omega, by go_num, by first | rfl | trivial⟩
              case measure => simp [intOf]; omega
            · obtain rfl : j = i := by omega
              go_wp2
              go_roundw
              case rel => first
                | exact ⟨d + 1, by omega, by go_num, by first | rfl | trivial⟩
                | ((repeat apply Exists.intro); refine ⟨⟨d + 1, by omega, by go_num, by first | rfl | trivial⟩, rfl⟩)
              case measure => simp [intOf]; omega
        · obtain rfl : d = row.length := by omega
          go_wp2
          go_round
          case rel => exact ⟨i + 1, by omega, by go_num, by first | rfl | trivial⟩
          case measure => simp [intOf]; omega
    · obtain rfl : i = P.length := by omega
      go_wp2
      go_ret
      exact ⟨rfl, rfl⟩
set_option maxRecDepth 100000 in
set_option maxHeartbeats 8000000 in
theorem law9_any (st ca : Nat) (by_ : Nat → Int) (hst : st < 256) (hca : ca < 256) (hby : ∀ i, i < 5 → 0 ≤ by_ i ∧ by_ i < 256) (w : World) :
    Calls Try.prog 9 #[rotaV st ca by_] w fun e w' => e = .returned (.bool true) ∧ Fut w w' := by
  have HMD := Lib.hid (fun W => made_any 5 (by omega) (by omega) st ca by_ hst hca hby W)
  have hN1 : madN 5 st ≤ 5 := by have := Nat.mod_lt st (show 0 < 5 by omega); show 1 + st % 5 ≤ 5; omega
  have hNd : 1 ≤ madN 5 st := by show 1 ≤ 1 + st % 5; omega
  have hPl : Plan (madN 5 st) (madP 5 st ca by_) := madL_plan _ _ _ (by have := Nat.mod_lt ca (show 0 < madN 5 st + 1 by omega); omega)
  generalize madN 5 st = N at *
  generalize madP 5 st ca by_ = P at *
  have hTp := turn_plan hPl
  have hTl := turnL_len N P
  have hck := chk_plan hNd hN1 hPl
  have hckT := chk_plan hNd hN1 hTp
  have htu := turn_grid hck
  have htt := (turn_grid hckT).trans (turn_turn hPl)
  have hpl := hPl.len
  have HP := Lib.hid hPl
  have HTL := Lib.hid (fun i (hi : i < P.length) => turnL_lth N P i hi)
  have hop : opnE N (turnL N P) = opnE N P := by rw [opn_of hNd hN1 hTp, opn_of hNd hN1 hPl, hTl]
  have hct : cntN N (turnL N P) = cntN N P := by
    unfold cntN
    rw [hop, show ((N : Int)).toNat = N by simp, fit_turn hPl]
  generalize turnL N P = T at *
  have HT1 : Hid (∀ (W : World) (la : Option Addr) (lc : Nat), LstC W la P → P.length ≤ lc → lc ≤ 9223372036854775807 → Calls Try.prog 28 #[.int .i64 N, .slice la P.length lc] W fun e w' => ∃ l lq, e = .returned (.tuple #[.slice l P.length lq, .int .i64 0]) ∧ P.length ≤ lq ∧ lq ≤ 9223372036854775807 ∧ LstC w' l T ∧ Fut W w') := Lib.hid (fun W la lc hL h1 h2 => by
    have h := turned_any N la lc P W hL h1 h2
    rw [hck, htu] at h
    refine h.mono ?_
    rintro _ w' ⟨l, lq, rfl, q1, q2, hL', F⟩
    exact ⟨l, lq, by rw [hTl], by omega, q2, hL', F⟩)
  have HT2 : Hid (∀ (W : World) (la : Option Addr) (lc : Nat), LstC W la T → P.length ≤ lc → lc ≤ 9223372036854775807 → Calls Try.prog 28 #[.int .i64 N, .slice la P.length lc] W fun e w' => ∃ l lq, e = .returned (.tuple #[.slice l P.length lq, .int .i64 0]) ∧ P.length ≤ lq ∧ lq ≤ 9223372036854775807 ∧ LstC w' l P ∧ Fut W w') := Lib.hid (fun W la lc hL h1 h2 => by
    have h := turned_any N la lc T W hL (by omega) h2
    rw [hckT, htt, hTl] at h
    exact h)
  have HPY : Hid (∀ (W : World) (la : Option Addr) (lc : Nat), LstC W la T → P.length ≤ lc → lc ≤ 9223372036854775807 → Calls Try.prog 49 #[.int .i64 N, .slice la P.length lc] W fun e w' => e = .returned (.bool true) ∧ W = w') := Lib.hid (fun W la lc hL h1 h2 => by
    have h := planned_yes N hNd hN1 la lc T W hL hTp (by omega) h2
    rw [hTl] at h
    exact h)
  have HC1 : Hid (∀ (W : World) (la : Option Addr) (lc : Nat), LstC W la P → P.length ≤ lc → lc ≤ 9223372036854775807 → Calls Try.prog 26 #[.int .i64 N, .slice la P.length lc] W (TupN (opnE N P) (cntN N P) W)) := Lib.hid (fun W la lc hL h1 h2 => count26_any N la lc P W hL h1 h2)
  have HC2 : Hid (∀ (W : World) (la : Option Addr) (lc : Nat), LstC W la T → P.length ≤ lc → lc ≤ 9223372036854775807 → Calls Try.prog 26 #[.int .i64 N, .slice la P.length lc] W (TupN (opnE N P) (cntN N P) W)) := Lib.hid (fun W la lc hL h1 h2 => by
    have h := count26_any N la lc T W hL (by omega) h2
    rw [hop, hct, hTl] at h
    exact h)
  have HF1 : Hid (Fut w (w.alloc (.cells #[.int .u8 st, .int .u8 ca, .int .u8 (by_ 0), .int .u8 (by_ 1), .int .u8 (by_ 2), .int .u8 (by_ 3), .int .u8 (by_ 4)] 42))) := Lib.hid (Fut.alloc _ _)
  have HTLEN := Lib.hid hTl
  clear hst hca hby hPl hTp hTl hck hckT htu htt hop hct
  generalize opnE N P = OE at *
  generalize cntN N P = CN at *
  have hpx : (P.length : Int) ≤ 5 := by omega
  go_enter Try.func9, Try.ntmps9
  go_wp2_with fail
  refine (HMD.out _).mono ?_
  rintro _ w1 ⟨v, rfl, hO, F⟩
  obtain ⟨la, lc, rfl, q1, q2, hL⟩ := hO.listsC
  have HF2 := Lib.hid (HF1.out.trans F)
  have HL1 := Lib.hid hL
  have HQ := Lib.hid (show P.length ≤ lc ∧ lc ≤ 9223372036854775807 from ⟨q1, q2⟩)
  clear HMD hO F q1 q2 hL HF1
  go_wp2_with fail
  refine (HT1.out _ la lc HL1.out HQ.out.1 HQ.out.2).mono ?_
  rintro _ w2 ⟨lt, lct, rfl, t1, t2, hT, F⟩
  have HF3 := Lib.hid (HF2.out.trans F)
  have HL2 := Lib.hid (HL1.out.fut F)
  have HT := Lib.hid hT
  have HQT := Lib.hid (show P.length ≤ lct ∧ lct ≤ 9223372036854775807 from ⟨t1, t2⟩)
  clear F HF2 HL1 hT t1 t2 HT1
  go_wp2_with fail
  refine (HPY.out _ lt lct HT.out HQT.out.1 HQT.out.2).mono ?_
  rintro _ _ ⟨rfl, rfl⟩
  clear HPY
  go_wp2_with fail
  go_loopw [43] (fun iv wr => ∃ i : Nat, i ≤ P.length ∧ iv = .int .i64 i ∧ wr = w2) (fun iv _ => P.length - (intOf iv).toNat)
  case atStart => exact ⟨0, Nat.zero_le _, rfl, rfl⟩
  case round =>
    obtain ⟨i, hi, rfl, rfl⟩ := hrel
    by_cases hlt : i < P.length
    · have hix : (i : Int) < P.length := by omega
      obtain ⟨bb, off, l, cr, ea, hbb, d1, hlr, hcr, hI⟩ := HL2.out i hlt
      obtain ⟨bt, ot, l2, cr2, et, hbt, t1, hl2, hcr2, hI2⟩ := HT.out i (by rw [HTLEN.out]; exact hlt)
      subst ea
      subst et
      have hro := HP.out.row i hlt
      have hrl := ord_len hro
      have hel := HTL.out i hlt
      rw [hel] at t1 hI2
      rw [hel] at hl2
      rw [invR_len] at t1 hl2
      rw [hrl] at d1
      have HRO := Lib.hid hro
      have HII := Lib.hid hI
      have HI2 := Lib.hid hI2
      have HRL := Lib.hid hrl
      clear hI hI2 hlr hcr hcr2 hl2 hel hro hrl
      generalize lth P i = row at *
      go_wp2_with fail
      go_loopw [50] (fun dv wq => ∃ d : Nat, d ≤ N ∧ dv = .int .i64 d ∧ wq = wr) (fun dv _ => N - (intOf dv).toNat)
      case atStart => exact ⟨0, Nat.zero_le _, rfl, rfl⟩
      case round =>
        obtain ⟨d, hd, rfl, rfl⟩ := hrel
        by_cases hdl : d < N
        · have hdx : (d : Int) < N := by omega
          obtain ⟨b2, o2, e2, hb2, d2⟩ := HII.out d (by have := HRL.out; omega)
          subst e2
          obtain ⟨s, hs⟩ := Int.eq_ofNat_of_zero_le (ord_in HRO.out hdl).1
          have hsn : s < N := by have := (ord_in HRO.out hdl).2; omega
          have hsx : (s : Int) < N := by omega
          obtain ⟨b3, o3, e3, hb3, d3⟩ := HI2.out s (by rw [invR_len]; exact hsn)
          subst e3
          rw [inv_at HRO.out hdl hs] at d3
          rw [hs] at d2
          clear hs
          go_wp2
          go_roundw
          case rel => first
            | exact ⟨d + 1, by omega, by go_num, by first | rfl | trivial⟩
            | ((repeat apply Exists.intro); refine ⟨⟨d + 1, by omega, by go_num, by first | rfl | trivial⟩, rfl⟩)
          case measure => simp [intOf]; omega
        · obtain rfl : d = N := by omega
          go_wp2
          go_roundw
          case rel => first
            | exact ⟨i + 1, by omega, by go_num, by first | rfl | trivial⟩
            | ((repeat apply Exists.intro); refine ⟨⟨i + 1, by omega, by go_num, by first | rfl | trivial⟩, rfl⟩)
          case measure => simp [intOf]; omega
    · obtain rfl : i = P.length := by omega
      clear HTL HTLEN
      go_wp2_with fail
      refine (HT2.out _ lt lct HT.out HQT.out.1 HQT.out.2).mono ?_
      rintro _ w3 ⟨lb, lcb, rfl, b1, b2, hB, F⟩
      have HF4 := Lib.hid (HF3.out.trans F)
      have HL3 := Lib.hid (HL2.out.fut F)
      have HT3 := Lib.hid (HT.out.fut F)
      have HBK := Lib.hid hB
      have HPB := Lib.hid (Nat.le_trans b1 b2)
      clear F hB b1 b2 HF3 HL2 HT HT2
      go_wp2_with fail
      refine (lists_self P _ HBK.out HL3.out HPB.out).mono ?_
      rintro _ w4 ⟨rfl, F⟩
      have HF5 := Lib.hid (HF4.out.trans F)
      have HL4 := Lib.hid (HL3.out.fut F)
      have HT4 := Lib.hid (HT3.out.fut F)
      clear F HF4 HL3 HT3 HBK
      go_wp2_with fail
      refine (HC1.out _ la lc HL4.out HQ.out.1 HQ.out.2).mono ?_
      rintro _ w5 ⟨rfl, F⟩
      have HF6 := Lib.hid (HF5.out.trans F)
      have HT5 := Lib.hid (HT4.out.fut F)
      clear F HF5 HL4 HT4 HC1
      go_wp2_with fail
      refine (HC2.out _ lt lct HT5.out HQT.out.1 HQT.out.2).mono ?_
      rintro _ w6 ⟨rfl, F⟩
      have HF7 := Lib.hid (HF6.out.trans F)
      clear F HF6 HT5 HC2
      go_wp2_with fail
      refine (works_any _).mono ?_
      rintro _ w7 ⟨rfl, F⟩
      have HF8 := Lib.hid (HF7.out.trans F)
      clear F
      go_wp2
      go_ret
      exact ⟨rfl, HF8.out⟩
end Go.Proofs.Ytpgifeaejjjjnaa
