/- Layer 2: RoundGone walks. -/
import Derived.Test.YtimddkofcejijaaDoorDH
import Derived.Test.YtimddkofcejijaaDoorSB
import Derived.Test.YtimddkofcejijaaDoorSI
namespace Go.Proofs.YtimddkofcejijaaDoor
open Go.RowKit Go.Sort
namespace Gn
theorem list_asc7 : ∀ c : Fin 8, ∀ S : Fin 128, S.val < 2 ^ c.val → ascE c.val (listM S.val) (-1) = 0 := by decide +kernel
theorem setM_list7 : ∀ S : Fin 128, setM (listM S.val) = S.val := by decide +kernel
/-- sets of streets in memory of one's own. -/
def UL (w : World) (B : Nat) (v : Value) (ls : List Nat) : Prop := w.ownsRow B 31 1 v ls.length (ls.map fun (s : Nat) => Value.int .u64 (s : Int))
theorem info31 : (Tryd.prog.info? 31).map (fun i => (i.zero, i.size, i.bytes)) = some (some (.int .u64 0), 1, 8) := by kernel_rfl
theorem UL.fut {w w' : World} {B : Nat} {v : Value} {ls : List Nat} (h : UL w B v ls) (F : Fut w w') : UL w' B v ls := by
  refine World.ownsRow.kept h (row := none) ⟨F.os, F.tape, F.output, F.size, fun k hk _ => F.block k hk⟩ ?_
  rcases hv : v.ownBlock with _ | k
  · exact .inl rfl
  · exact .inr (by simp)
theorem filt_len (p : Nat → Bool) (k : Nat) : ((List.range k).filter p).length ≤ k := Nat.le_trans (List.length_filter_le _ _) (by rw [List.length_range]; exact Nat.le_refl _)
theorem filt_mem {p : Nat → Bool} {k j : Nat} (h : j < ((List.range k).filter p).length) : ∃ s, ((List.range k).filter p)[j]? = some s ∧ s < k ∧ p s = true := by
  have hm := List.getElem_mem h
  rw [List.mem_filter, List.mem_range] at hm
  exact ⟨_, List.getElem?_eq_getElem h, hm.1, hm.2⟩
theorem wk_drop {e1 e2 : Nat → Nat} {r : List Nat} {x y k i : Nat} (hk : r[k]? = some i) (h : wk e1 e2 x (r.drop k) = some y) : touches e1 e2 i x ∧ wk e1 e2 (oth e1 e2 i x) (r.drop (k + 1)) = some y := by
  have hlt : k < r.length := (List.getElem?_eq_some_iff.1 hk).1
  have e : r.drop k = i :: r.drop (k + 1) := by
    rw [List.drop_eq_getElem_cons hlt]
    have : r[k] = i := by rw [List.getElem?_eq_getElem hlt] at hk; exact Option.some.inj hk
    rw [this]
  rw [e] at h
  unfold wk at h
  split at h
  · rename_i ht; exact ⟨ht, h⟩
  · cases h
theorem kL_more {r : List Nat} {m k i : Nat} (hk : r[k]? = some i) : (kL (fun j => (r.take k).count j) m).set i (((r.take k).count i : Nat) + 1 : Int) = kL (fun j => (r.take (k + 1)).count j) m := by
  have e : r.take (k + 1) = r.take k ++ [i] := by rw [List.take_add_one, hk]; rfl
  rw [e]
  apply List.ext_getElem
  · rw [List.length_set, kL_len, kL_len]
  · intro j h1 h2
    rw [List.getElem_set]
    have e2 : (kL (fun j => (r.take k ++ [i]).count j) m)[j]'h2 = (((r.take k ++ [i]).count j : Nat) : Int) := by simp [kL]
    rw [e2, List.count_append, List.count_singleton]
    split
    · rename_i e; subst e; simp
    · rename_i e
      have : (kL (fun j => (r.take k).count j) m)[j]'(by simpa using h1) = (((r.take k).count j : Nat) : Int) := by simp [kL]
      rw [this, if_neg (by simpa using e)]; simp
theorem kL_zero (m : Nat) (r : List Nat) : oftL m [] = kL (fun j => (r.take 0).count j) m := by
  unfold oftL kL
  simp
theorem kL_at {K : Nat → Nat} {w : World} {B g m cap : Nat} (h : Owns w B (.slice (some ⟨g, 0, none⟩) m cap) (kL K m)) (z : Nat) (hz : z < m) : w.cell? ⟨g, z, none⟩ = some (.int .i64 (K z : Nat)) ∧ w.frozen? ⟨g, z, none⟩ = false ∧ g < w.heap.size := by
  unfold Owns at h
  rw [kL_len] at h
  have h1 := h.cellAt z (by omega)
  refine ⟨?_, h.frozenAt z, (h.lt g rfl).2⟩
  rw [h1, List.getElem?_map, List.getElem?_eq_getElem (by rw [kL_len]; exact hz)]
  simp [kL]
theorem kL_put {K : Nat → Nat} {w : World} {B g m cap : Nat} (h : Owns w B (.slice (some ⟨g, 0, none⟩) m cap) (kL K m)) (z : Nat) (u : Int) : Owns (w.setCell ⟨g, z, none⟩ (.int .i64 u)) B (.slice (some ⟨g, 0, none⟩) m cap) ((kL K m).set z u) := by
  unfold Owns at h ⊢
  rw [kL_len] at h
  have h1 := (h.stored z (.int .i64 u)).1
  rw [List.length_set, kL_len, List.map_set]
  exact h1
theorem ints_at {w : World} {a : Option Addr} {r : List Nat} {k i : Nat} (h : IntsAt w a (ints' r)) (hk : r[k]? = some i) : ∃ b off, a = some ⟨b, off, none⟩ ∧ b < w.heap.size ∧ w.cell? ⟨b, off + k, none⟩ = some (.int .i64 (i : Int)) := by
  have hlt : k < r.length := (List.getElem?_eq_some_iff.1 hk).1
  obtain ⟨b, off, e, h1, h2⟩ := h k (by rw [List.length_map]; exact hlt)
  refine ⟨b, off, e, h1, ?_⟩
  rw [h2, nth_eq, List.getElem?_map, hk]; rfl
/-- what the first round left aside cannot be gone. -/
theorem no_gone {ss : List (Int × Int)} {c x j N : Nat} {K : Nat → Nat} (hg : GoodS ss c) (hj : j < ss.length) (h0 : 0 < K j) (ht : touches (en1 ss) (en2 ss) j x) (hP : Par (en1 ss) (en2 ss) ss.length K x 0) (hsm : sm ss.length K < N + 1) (hq : goQ ss N x K j = none) : ¬ Conn (en1 ss) (en2 ss) ss.length (less1 K j) (oth (en1 ss) (en2 ss) j x) := fun hC => by
  have hne : ∀ i, i < ss.length → en1 ss i ≠ en2 ss i := fun i hi => by have := good_str hg hi; omega
  obtain ⟨t, hF⟩ := euler hne (par_less (hne j hj) hj h0 ht hP) hC
  have htl := tot_less hj h0
  have h1 := full_go N _ _ t hF (by omega)
  unfold goQ at hq
  rw [if_pos ⟨h0, ht⟩, Option.map_eq_none_iff] at hq
  rw [hq] at h1
  cases h1
theorem clone_some (a : Addr) (lc : Nat) (zs : List Int) (w : World) (hI : IntsAt w (some a) zs) (hl : zs.length ≤ 1000) :
    Calls Tryd.prog 28 #[.slice (some a) zs.length lc] w fun e w' => ∃ g cap, e = .returned (.slice (some ⟨g, 0, none⟩) zs.length cap) ∧ Owns w' w.heap.size (.slice (some ⟨g, 0, none⟩) zs.length cap) zs ∧ Fut w w' := by
  have key : ∀ (w' : World) (v : Value), w'.ownsRow w.heap.size 3 1 v zs.length (zs.map (Value.int .i64)) → v ≠ .slice none 0 0 → ∃ g cap, v = .slice (some ⟨g, 0, none⟩) zs.length cap := fun w' v h hv => by
    rcases h.2 with ⟨e, _⟩ | ⟨g, cap, cur, e, _⟩
    · exact absurd e hv
    · exact ⟨g, cap, e⟩
  cases zs with
  | nil =>
    refine (Any.slices_Clone_int_zero cLay a lc w).mono ?_
    rintro e w' ⟨v, h1, h2, h3, h4⟩
    obtain ⟨g, cap, rfl⟩ := key w' v h2 h3
    exact ⟨g, cap, h1, h2, h4⟩
  | cons z t =>
    obtain ⟨b, off, ea, _, _⟩ := hI 0 (by simp)
    simp at ea
    subst ea
    refine (Any.slices_Clone_int cLay b off (z :: t).length lc (z :: t) w (Nat.le_refl _) (by omega) (fun j hj => ?_)).mono ?_
    · obtain ⟨b', off', e, _, h⟩ := hI j hj
      simp at e
      obtain ⟨rfl, rfl⟩ := e
      rw [h, nth_eq]; rfl
    · rintro e w' ⟨v, h1, h2, h3, h4⟩
      rw [List.take_length] at h2
      obtain ⟨g, cap, rfl⟩ := key w' v h2 h3
      exact ⟨g, cap, h1, h2, h4⟩
theorem rev_own (v : Value) (B : Nat) (zs : List Int) (w : World) (hO : Owns w B v zs) (hl : zs.length ≤ 1000) :
    Calls Tryd.prog 29 #[v] w fun e w' => e = .returned (.tuple #[]) ∧ (∃ a c, v = .slice a zs.length c ∧ IntsAt w' a zs.reverse) ∧ RowKit.Below B w w' := by
  have hO' := hO
  rcases hO.2 with ⟨rfl, h0⟩ | ⟨g, cap, cur, rfl, hB, _⟩
  · obtain rfl : zs = [] := List.eq_nil_of_length_eq_zero h0
    refine (Any.slices_Reverse_int_empty rLay none 0 w).mono ?_
    rintro e w' ⟨h1, rfl⟩
    exact ⟨h1, ⟨none, 0, rfl, fun j hj => absurd hj (by simp)⟩, RowKit.Below.refl _ _⟩
  · refine (rev_any g cap B zs w hO' hl).mono ?_
    rintro e w' ⟨h1, h2, h3⟩
    exact ⟨h1, ⟨_, cap, rfl, h2⟩, RowKit.Below.grown (RowKit.Below.refl B w) h3 (by have := (hO'.lt g rfl).2; omega) fun k hk => by cases hk; exact hB⟩
set_option maxRecDepth 100000 in
set_option maxHeartbeats 40000000 in
/-- RoundGone walks. -/
theorem gone_law (t : Nat → Int) (mn : Int) (w : World) (ht : tOk t) (hmn : 0 ≤ mn ∧ mn ≤ 255) (hT : TabAt w) : Calls Tryd.prog 5 #[tV t, .int .u8 mn] w fun e w' => e = .returned (.bool true) ∧ Fut w w' := by
  obtain ⟨mn, rfl⟩ := Int.eq_ofNat_of_zero_le hmn.1
  have hmx : (mn : Int) ≤ 255 := hmn.2
  obtain ⟨iu, hiu, hu0, hu1, hu2⟩ := info_parts info31
  have HT := Lib.hid hT
  clear hT hmn
  go_enter Tryd.func5, Tryd.ntmps5
  go_upto_region 1 with fail
  have hF : Fut w (w.alloc (.cells (tC t) 26)) := Fut.alloc _ _
  have hB : (w.alloc (.cells (tC t) 26)).heap[w.heap.size]? = some (.cells (tC t) 26 (0, 0)) := heap_alloc_new _ _
  generalize w.alloc (.cells (tC t) 26) = W1 at *
  refine wp_region_lit ?_
  refine wpList_load_row rfl 26 (.tmp 2) rfl w.heap.size rfl 26 (tC t) (0, 0) _ hB Tryd.underlying26 rfl (by kernel_rfl) ?_
  go_wp2_with fail
  refine (made_any t 5 7 W1 ht (by decide) (by decide)).mono ?_
  rintro _ w1 ⟨n, ss, l, lc, rfl, hS, F, hn1, hn5, hM, h7⟩
  have HF1 := Lib.hid (hF.trans F)
  have HT1 := Lib.hid (HT.out.fut HF1.out)
  clear hF F hB ht HT
  clear W1
  go_upto_region 2 with fail
  generalize tC t = TC at *
  generalize w.heap.size = BT at *
  have hchk := made_chk hn1 (by omega) hM (by omega)
  have hmem := made_mem hn1 hM
  obtain ⟨_, _, _, hsm, _, _⟩ := chk_good hchk
  have HS := Lib.hid hS
  have HCHK := Lib.hid hchk
  have HMEM := Lib.hid hmem
  have HSM := Lib.hid hsm
  clear hchk hmem hS hM hsm
  have hB := BoxM.new w1 n l ss.length lc 29
  have hF : Fut w1 (w1.alloc (.cells #[.int .i64 n, .slice l ss.length lc] 29)) := Fut.alloc _ _
  generalize w1.alloc (.cells #[.int .i64 n, .slice l ss.length lc] 29) = w2 at *
  generalize w1.heap.size = B at *
  have HB := Lib.hid hB
  have HF := Lib.hid hF
  have HFW := Lib.hid (HF1.out.trans HF.out)
  obtain ⟨hb, b0, b1⟩ := hB
  clear hF
  have hnx : (n : Int) ≤ 5 := by omega
  have hsx : (ss.length : Int) ≤ 7 := by omega
  have HALL : Hid (∀ W, Fut w2 W → StrAt W l ss ∧ BoxM W B n l ss.length lc ∧ TabAt W) := Lib.hid (fun W F => ⟨HS.out.fut (HF.out.trans F), HB.out.fut F, HT1.out.fut (HF.out.trans F)⟩)
  clear HS HT1
  obtain ⟨O, hO⟩ : ∃ O, O = oddM ss (2 ^ ss.length - 1) := ⟨_, rfl⟩
  have HEV := Lib.hid (fun W => every_any n l ss.length lc W (by omega))
  have HOD : Hid (∀ S, S < 65536 → ∀ W, Fut w2 W → Calls Tryd.prog 8 #[mapV n l ss.length lc, sv S] W fun e w' => e = .returned (sv (oddM ss S)) ∧ Fut W w') := Lib.hid (fun S hS W F => oddlaw_any n l lc ss S W (HALL.out W F).1 (by omega) HSM.out (fun p hp => by have := HMEM.out p hp; omega) hS)
  have HOM := HOD.out (2 ^ ss.length - 1) (mask_lt (by omega))
  rw [← hO] at HOM
  have HOM := Lib.hid HOM
  have HO := Lib.hid hO
  have HMB : Hid (∀ S, S < 512 → ∀ W, Fut w2 W → Calls Tryd.prog 10 #[sv S] W fun e w' => ∃ va vc, e = .returned (.slice va (listM S).length vc) ∧ IntsAt w' va (listM S) ∧ Fut W w') := Lib.hid (fun S hS W F => (members_any S W hS (HALL.out W F).2.2).mono fun e w' (h : ∃ v, e = .returned v ∧ Owns w' W.heap.size v (listM S) ∧ Fut W w') => by
    obtain ⟨v, h1, h2, h3⟩ := h
    obtain ⟨va, vc, rfl, hI⟩ := h2.ints
    exact ⟨va, vc, h1, hI, h3⟩)
  obtain ⟨P, hP⟩ : ∃ P, P = 2 ^ ss.length - 1 := ⟨_, rfl⟩
  have hP127 : P ≤ 127 := by
    have := Nat.pow_le_pow_right (show 0 < 2 by decide) h7
    have : 2 ^ ss.length ≤ 128 := this
    omega
  have HP : Hid (2 ^ ss.length = P + 1) := Lib.hid (by have := Nat.one_le_two_pow (n := ss.length); omega)
  rw [← hP] at HEV HOM
  have HPE := Lib.hid hP
  clear hO hP
  have hPx : (P : Int) ≤ 127 := by omega
  go_wp2_with (go_at_call 9; (with_reducible refine (HEV.out _).mono ?_); rintro _ w5 ⟨rfl, F5⟩; have HF5 := Lib.hid F5; clear F5 hb b0 b1)
  go_loopw [6, 7, 32] (fun v6 _ sv0 wr => ∃ S : Nat, S ≤ P + 1 ∧ sv0 = sv S ∧ Hid (UL wr w2.heap.size v6 ((List.range S).filter fun s => enoughB ss s)) ∧ Hid (Fut w2 wr)) (fun _ _ sv0 _ => P + 1 - (intOf sv0).toNat)
  case atStart => exact ⟨0, Nat.zero_le _, rfl, Lib.hid (World.ownsRow_nil _ _ _ _), HF5⟩
  case round =>
    clear HF5
    obtain ⟨S, hS, rfl, HU, HR⟩ := hrel
    obtain ⟨_, hBM, _⟩ := HALL.out wr HR.out
    by_cases hlt : S ≤ P
    · have hlx : (S : Int) < (P : Int) + 1 := by omega
      obtain ⟨oS, hoS⟩ : ∃ oS, oS = oddM ss S := ⟨_, rfl⟩
      have HOS := HOD.out S (by omega)
      rw [← hoS] at HOS
      have HOS := Lib.hid HOS
      obtain ⟨eb, heb⟩ : ∃ eb : Bool, eb = enoughB ss S := ⟨_, rfl⟩
      have hq : ((oS : Int) == (O : Int)) = eb := by
        rw [heb, hoS, HO.out]
        unfold enoughB
        rw [Bool.eq_iff_iff, beq_iff_eq, beq_iff_eq]; omega
      have HNX : Hid ((List.range (S + 1)).filter (fun s => enoughB ss s) = (List.range S).filter (fun s => enoughB ss s) ++ if eb = true then [S] else []) := Lib.hid (by
        rw [List.range_succ, List.filter_append, heb]
        congr 1
        by_cases h : enoughB ss S = true
        · rw [if_pos h]; simp [h]
        · rw [if_neg h]; simp [h])
      have hfl := filt_len (fun s => enoughB ss s) S
      generalize (List.range S).filter (fun s => enoughB ss s) = ls at *
      clear heb hoS
      obtain ⟨m0, m1⟩ := hBM.after Fut.rfl
      clear hBM
      go_upto_region 6 with fail
      refine region_fut (by kernel_rfl) (by kernel_rfl) ?_
      repeat (go_big_quiet_step (first
        | (go_at_call 9; exact after_of (HEV.out _))
        | (go_at_call 8; rename_i p; (with_reducible exact after_of (HOS.out _ (HR.out.trans p.F))))
        | (go_at_call 8; rename_i p; (with_reducible exact after_of (HOM.out _ (HR.out.trans p.F))))))
      refine wpQuiet_nil ?_
      intro w6 hw'
      have F6 : Fut wr w6 := after_fut hw'
      clear hw' m0 m1 hq HOS
      have HF6 := Lib.hid (HR.out.trans F6)
      have HU6 := Lib.hid (HU.out.fut F6)
      clear F6 HU HR
      cases eb
      · have HN2 := Lib.hid (show (List.range (S + 1)).filter (fun s => enoughB ss s) = ls from by rw [HNX.out, if_neg (by decide), List.append_nil])
        clear HNX
        go_wp2_with fail
        go_roundw
        case rel => first | exact ⟨S + 1, by omega, by go_num, Lib.hid (by rw [HN2.out]; exact HU6.out), HF6⟩ | ((repeat apply Exists.intro); refine ⟨⟨S + 1, by omega, ?_, Lib.hid (by rw [HN2.out]; exact HU6.out), HF6⟩, rfl⟩; go_num)
        case measure => simp [intOf]; omega
      · have HN2 := Lib.hid (show (List.range (S + 1)).filter (fun s => enoughB ss s) = ls ++ [S] from by rw [HNX.out, if_pos rfl])
        clear HNX
        obtain ⟨va, vc, hvv⟩ := row_formD HU6.out
        subst hvv
        go_upto_region 7 with fail
        have HISU : Hid ((ls ++ [S]).map (fun (s : Nat) => Value.int .u64 (s : Int)) = ls.map (fun (s : Nat) => Value.int .u64 (s : Int)) ++ [.int .u64 (S : Int)]) := Lib.hid (by rw [List.map_append]; rfl)
        have hrow := HU6.out
        unfold UL at hrow
        have hrow1 := World.ownsRow.alloc hrow (.cells #[.int .u64 (S : Int)] 31)
        have HFA : Hid (Fut w2 (w6.alloc (.cells #[.int .u64 (S : Int)] 31))) := Lib.hid (HF6.out.trans (Fut.alloc _ _))
        generalize ls.map (fun (s : Nat) => Value.int .u64 (s : Int)) = vals at *
        clear hrow
        go_wp2_with (at_builtin; refine wpList_append_lies _ rfl _ _ 56 rfl w2.heap.size 31 iu (.int .u64 0) 1 8 Tryd.underlying56 hiu hu0 hu1 hu2 rfl (by decide) _ ls.length vals rfl hrow1 ⟨w6.heap.size, 0, none⟩ 1 1 [.int .u64 (S : Int)] rfl rfl (cell_oneD (by simp [go_sem])) (by simp [Value.oneCell']) (by omega) (by unfold maxLen; omega) (by omega) (RowKit.Below.size HFA.out) _ rfl ?_)
        intro g8 c8 w8 hown8 hgrow8 _ _
        have HU8 : Hid (UL w8 w2.heap.size (.slice (some ⟨g8, 0, none⟩) (ls.length + 1) c8) (ls ++ [S])) := Lib.hid (by unfold UL; rw [HISU.out, List.length_append]; exact hown8)
        have HF8 : Hid (Fut w2 w8) := Lib.hid (RowKit.Below.grown HFA.out hgrow8 (RowKit.Below.size HFA.out) fun q hq => (World.ownsRow.lt hrow1 q hq).1)
        clear hown8 hgrow8 hrow1 HFA HU6 HF6 HISU
        go_wp2
        go_roundw
        case rel => first | exact ⟨S + 1, by omega, by go_num, Lib.hid (by rw [HN2.out]; exact HU8.out), HF8⟩ | ((repeat apply Exists.intro); refine ⟨⟨S + 1, by omega, ?_, Lib.hid (by rw [HN2.out]; exact HU8.out), HF8⟩, rfl⟩; go_num)
        case measure => simp [intOf]; omega
    · have hge : ¬ (S : Int) < (P : Int) + 1 := by omega
      obtain rfl : S = P + 1 := by omega
      obtain ⟨ls, hls⟩ : ∃ ls, ls = (List.range (P + 1)).filter (fun s => enoughB ss s) := ⟨_, rfl⟩
      rw [← hls] at HU
      have hl128 : ls.length ≤ 128 := by have := filt_len (fun s => enoughB ss s) (P + 1); rw [hls]; omega
      have hl1 : 1 ≤ ls.length := by
        have hm : P ∈ ls := by
          rw [hls, List.mem_filter, List.mem_range]
          exact ⟨by omega, by unfold enoughB; rw [HPE.out]; simp⟩
        exact List.length_pos_of_mem hm
      obtain ⟨kx, hkx⟩ : ∃ kx, kx = mn % ls.length := ⟨_, rfl⟩
      have hkl : kx < ls.length := by rw [hkx]; exact Nat.mod_lt _ (by omega)
      have hwm : (mn : Int) % (ls.length : Int) = (kx : Int) := by rw [hkx]; simp
      obtain ⟨T, hT1, hT2, hT3⟩ := filt_mem (p := fun s => enoughB ss s) (k := P + 1) (j := kx) (by rw [← hls]; exact hkl)
      rw [← hls] at hT1
      have HT3 := Lib.hid hT3
      obtain ⟨va, vc, hvv⟩ := row_formD HU.out
      subst hvv
      have hrow := HU.out
      unfold UL at hrow
      obtain ⟨gu, gc, hgu⟩ : ∃ gu gc, va = some ⟨gu, 0, none⟩ ∧ gc = vc := by
        rcases hrow.2 with ⟨e, h0⟩ | ⟨g, cap, cur, e, _⟩
        · omega
        · simp at e
          exact ⟨g, vc, e.1, rfl⟩
      obtain ⟨rfl, _⟩ := hgu
      have hcell := hrow.cellAt kx (by omega)
      rw [List.getElem?_map, hT1] at hcell
      have hcell : wr.cell? ⟨gu, kx, none⟩ = some (.int .u64 (T : Int)) := by simpa using hcell
      have hLx : (ls.length : Int) ≤ 128 := by omega
      have hLx1 : (1 : Int) ≤ ls.length := by omega
      have hkxx : (kx : Int) < ls.length := by omega
      clear hkx hT1 hT3 hrow hls HU
      generalize ls.length = LN at *
      go_upto_region 10 with fail
      clear hcell hwm hkl hkxx
      have hpow := HP.out
      have hT2' : T < 2 ^ ss.length := by omega
      have hTL := list_le T
      have hsl := sm_left (m := ss.length) (S := T) (by omega) hT2'
      obtain ⟨r, hr1, hr2⟩ := round_first (fuel := 40) HCHK.out hT2' HT3.out (by omega)
      have hF := goF_full 40 0 _ r hr1
      have hlc := len_count (m := ss.length) r hF.2.1
      rw [sm_congr ss.length fun i hi => hF.2.2 i hi, hsl] at hlc
      have hasc := list_asc7 ⟨ss.length, by omega⟩ ⟨T, by omega⟩ hT2'
      have hset := setM_list7 ⟨T, by omega⟩
      dsimp only at hasc hset
      have htw : twE n ss (listM T) = 0 := by
        unfold twE
        rw [HCHK.out, if_neg (by decide), hasc, if_neg (by decide), hset, HT3.out, if_pos rfl]
      have hrl : roundL n ss (listM T) = ints' r := by
        unfold roundL
        rw [htw, if_pos rfl, Int.toNat_natCast, hset, hr2]
      have HRD : Hid (∀ (d : Option Addr) (dap : Nat) W, Fut w2 W → IntsAt W d (listM T) → Calls Tryd.prog 26 #[mapV n l ss.length lc, .slice d (listM T).length dap] W fun e w' => ∃ ra rc, e = .returned (.tuple #[.slice ra r.length rc, .int .i64 0]) ∧ IntsAt w' ra (ints' r) ∧ Fut W w') := Lib.hid (fun d dap W F hI => by
        have h := round_any n l lc ss d dap (listM T) W (HALL.out W F).1 hI (by omega)
        rw [htw, hrl] at h
        exact h.mono fun e w' (h : ∃ ra rc, e = .returned (.tuple #[.slice ra (ints' r).length rc, .int .i64 0]) ∧ IntsAt w' ra (ints' r) ∧ Fut W w') => by
          obtain ⟨ra, rc, h1, h2, h3⟩ := h
          rw [List.length_map] at h1
          exact ⟨ra, rc, h1, h2, h3⟩)
      have HMT := Lib.hid (HMB.out T (by omega))
      obtain ⟨K, hK⟩ : ∃ K, K = leftK (2 ^ ss.length - 1) T := ⟨_, rfl⟩
      rw [← hK] at hr1 hF hsl
      have HKV : Hid (∀ j, j < ss.length → K j = 1 + if T.testBit j then 1 else 0) := Lib.hid (fun j hj => by
        rw [hK]
        unfold leftK
        rw [Nat.testBit_two_pow_sub_one, decide_eq_true hj, if_pos rfl])
      have HGO : Hid (goG ss 40 0 K = some r) := Lib.hid hr1
      have HFU := Lib.hid hF
      have HSMK : Hid (sm ss.length K < 40) := Lib.hid (by omega)
      have hrlen : r.length ≤ 23 := by omega
      have hne : ((r.length : Int) != (ss.length : Int) + ((listM T).length : Int)) = false := by rw [hlc]; simp
      have htl2 : ((listM T).length : Int) ≤ 16 := by omega
      clear hpow hr1 hr2 hF hlc hsl hasc hset htw hrl hK
      generalize listM T = TL at *
      generalize hRL : r.length = RL at *
      have HRL := Lib.hid hRL
      clear hRL
      have hRLx : (RL : Int) ≤ 23 := by omega
      obtain ⟨_, ⟨hb, b0, b1⟩, _⟩ := HALL.out wr HR.out
      have hmk := run_make_row' (P := Tryd.prog) 34 3 (.int .i64 0) 8 Tryd.underlying34 info3 rfl .i64 .i64 ss.length (by omega) (by omega)
      go_wp2_with (first
        | (go_at_call 10; (with_reducible refine (HMT.out _ HR.out).mono ?_); rintro _ w3 ⟨ta, tc, rfl, hI3, F3⟩; have HF3 := Lib.hid (HR.out.trans F3); have HI3 := Lib.hid hI3; clear F3 hI3 hb b0 b1; obtain ⟨_, ⟨hb, b0, b1⟩, _⟩ := HALL.out w3 HF3.out)
        | (go_at_call 26; (with_reducible refine (HRD.out _ _ _ HF3.out HI3.out).mono ?_); rintro _ w4 ⟨ra, rc, rfl, hI4, F4⟩; have HF4 := Lib.hid (HF3.out.trans F4); have HI4 := Lib.hid hI4; clear F4 hI4 hb b0 b1; obtain ⟨_, ⟨hb, b0, b1⟩, _⟩ := HALL.out w4 HF4.out))
      have O0 := made_own w4 ss.length (by omega)
      rw [kL_zero ss.length r] at O0
      have Fg : Fut w4 (w4.alloc (.cells (madeCells #[Value.int .i64 0] ss.length) 3)) := Fut.alloc _ _
      have hw3 : w2.heap.size ≤ w4.heap.size := RowKit.Below.size HF4.out
      have hra4 : ∀ b off, ra = some ⟨b, off, none⟩ → 0 < RL → b < w4.heap.size := fun b off e h0 => by
        obtain ⟨b', off', e', h1, _⟩ := HI4.out 0 (by rw [List.length_map, HRL.out]; exact h0)
        rw [e] at e'
        simp at e'
        omega
      generalize w4.alloc (.cells (madeCells #[Value.int .i64 0] ss.length) 3) = wg at *
      have HIR : Hid (∀ W, Fut w4 W → IntsAt W ra (ints' r)) := Lib.hid (fun W F => HI4.out.fut F)
      have HFG : Hid (∀ W, Fut w4 W → Fut w2 W) := Lib.hid (fun W F => HF4.out.trans F)
      generalize hgg : w4.heap.size = g at *
      have HBG : Hid (∀ W, RowKit.Below g wg W → Fut w4 W) := Lib.hid (fun W F => Fg.trans' F (Nat.le_of_eq hgg))
      have HO0 := Lib.hid O0
      have HGG := Lib.hid hgg
      clear hgg hmk O0 Fg hb b0 b1 hra4 HI4 HI3
      have hn1' : 0 < n := by omega
      go_loopw [13, 15, 83] (fun xv _ kv wx => ∃ (k x : Nat), k ≤ RL ∧ kv = .int .i64 k ∧ xv = .int .i64 x ∧ x < n ∧ Hid (wk (en1 ss) (en2 ss) x (r.drop k) = some 0) ∧ Hid (Owns wx g (.slice (some ⟨g, 0, none⟩) ss.length ss.length) (kL (fun j => (r.take k).count j) ss.length)) ∧ Hid (RowKit.Below g wg wx)) (fun _ _ kv _ => RL - (intOf kv).toNat)
      case atStart => exact ⟨0, 0, Nat.zero_le _, rfl, rfl, hn1', Lib.hid HFU.out.1, HO0, Lib.hid (RowKit.Below.refl g wg)⟩
      case round =>
        obtain ⟨k, x, hk, rfl, rfl, hx, HWK, HOW, HB2⟩ := hrel
        by_cases hlt2 : k < RL
        · have hkx : (k : Int) < RL := by omega
          have hrk : ∃ i, r[k]? = some i := ⟨_, List.getElem?_eq_getElem (by rw [HRL.out]; exact hlt2)⟩
          obtain ⟨i, hri⟩ := hrk
          have him : i < ss.length := HFU.out.2.1 i (List.mem_of_getElem? hri)
          obtain ⟨htc, hwk⟩ := wk_drop hri HWK.out
          obtain ⟨rb, roff, ea, hrb, hrc⟩ := ints_at (HIR.out wr (HBG.out _ HB2.out)) hri
          subst ea
          obtain ⟨hSt, ⟨hb, b0, b1⟩, _⟩ := HALL.out wr (HFG.out wr (HBG.out _ HB2.out))
          obtain ⟨sb, soff, ea, hsb, s1, s2⟩ := hSt i him
          obtain ⟨g1, g2, g3, g4⟩ := good_str HMEM.out him
          rw [g3] at s1
          rw [g4] at s2
          subst ea
          obtain ⟨o1, o2, o3⟩ := kL_at HOW.out i him
          have hcl : (r.take k).count i ≤ 23 := Nat.le_trans List.count_le_length (by rw [List.length_take]; have := HRL.out; omega)
          have HKM := Lib.hid (kL_more (m := ss.length) hri)
          have HXL := (oth_lt HMEM.out him htc).1
          have HXS := oth_sum htc
          have HWK2 := Lib.hid hwk
          have hor : en1 ss i = x ∨ en2 ss i = x := htc
          clear htc hwk hSt HWK
          generalize oth (en1 ss) (en2 ss) i x = xo at *
          generalize (r.take k).count i = ci at *
          have HST : Hid (∀ W, Fut w2 W → W.cell? ⟨sb, soff + i * 2, none⟩ = some (.int .i64 (en1 ss i)) ∧ W.cell? ⟨sb, soff + i * 2 + 1, none⟩ = some (.int .i64 (en2 ss i))) := Lib.hid (fun W F => by
            obtain ⟨b', off', e, _, c1, c2⟩ := (HALL.out W F).1 i him
            simp at e
            obtain ⟨rfl, rfl⟩ := e
            rw [g3] at c1
            rw [g4] at c2
            exact ⟨c1, c2⟩)
          generalize en1 ss i = y at *
          generalize en2 ss i = z at *
          have hix : (i : Int) < ss.length := by omega
          have hyx : (y : Int) ≤ 5 := by omega
          have hzx : (z : Int) ≤ 5 := by omega
          have hxx : (x : Int) ≤ 5 := by omega
          have hcx : (ci : Int) ≤ 23 := by omega
          have HXS := Lib.hid HXS
          have HRI := Lib.hid hri
          clear hri
          go_upto_region 19 with fail
          have hyn : ((y : Int) != x) = true ∨ y = x := by
            by_cases e : y = x
            · exact Or.inr e
            · exact Or.inl (by rw [bne_iff_ne]; omega)
          go_cut [114] from 87 to 113 (fun s114 wx => s114 = .bool false ∧ wx = wr)
          case first =>
            have hi0 : ¬ (i : Int) < 0 := by omega
            have hil : ¬ (ss.length : Int) ≤ (i : Int) := by omega
            rcases hor with h | h
            · subst h
              have h1 : ((y : Int) != y) = false := by simp
              clear hyn
              go_wp2_with fail
              go_meet
              exact ⟨rfl, rfl⟩
            · subst h
              have h2 : ((z : Int) != z) = false := by simp
              rcases hyn with h1 | h1
              · go_wp2_with fail
                go_meet
                exact ⟨rfl, rfl⟩
              · omega
          case rest =>
            obtain ⟨rfl, rfl⟩ := hcut
            clear hor hyn
            have O7 := kL_put HOW.out i ((ci : Int) + 1)
            rw [HKM.out] at O7
            have F7 : RowKit.Below g wg (wc.setCell ⟨g, i, none⟩ (.int .i64 ((ci : Int) + 1))) := HB2.out.setCell (p := ⟨g, i, none⟩) (Nat.le_refl _) _
            go_upto_region 22 with fail
            generalize wc.setCell ⟨g, i, none⟩ (.int .i64 ((ci : Int) + 1)) = w7 at *
            have HO7 := Lib.hid O7
            have HF7 := Lib.hid F7
            clear o1 o2 o3 s1 s2 hrc hsb hrb O7 F7 hb b0 b1
            obtain ⟨_, ⟨hb, b0, b1⟩, _⟩ := HALL.out w7 (HFG.out w7 (HBG.out _ HF7.out))
            obtain ⟨s1, s2⟩ := HST.out w7 (HFG.out w7 (HBG.out _ HF7.out))
            have hwa : IntKind.i64.wrap ((y : Int) + z) = (y : Int) + z := IntWalk.i64_in _ ⟨by omega, by omega⟩
            have hwb : IntKind.i64.wrap ((y : Int) + z - x) = (y : Int) + z - x := IntWalk.i64_in _ ⟨by omega, by omega⟩
            go_quiet (fail)
            have HO8 := Lib.hid (HO7.out.fut (Fut.drewN w7 nq))
            have HF8 : Hid (RowKit.Below g wg (w7.drewN nq)) := Lib.hid (HF7.out.trans (RowKit.Below.mono (Fut.drewN w7 nq) (Nat.le_of_lt (HO7.out.lt g rfl).2)))
            clear hb b0 b1 s1 s2 hwa hwb
            go_wp2_with fail
            go_roundw
            case rel => first | exact ⟨k + 1, xo, by omega, by go_num, by rw [HXS.out], HXL, HWK2, HO8, HF8⟩ | ((repeat apply Exists.intro); refine ⟨⟨k + 1, xo, by omega, ?_, by rw [HXS.out], HXL, HWK2, HO8, HF8⟩, rfl⟩; go_num)
            case measure => simp [intOf]; omega
        · obtain rfl : RL = k := by omega
          have hdr : r.drop RL = [] := List.drop_of_length_le (by rw [HRL.out]; exact Nat.le_refl _)
          have hx0 : x = 0 := by have := HWK.out; rw [hdr] at this; simpa [wk] using this
          subst hx0
          have hOK : Owns wr g (.slice (some ⟨g, 0, none⟩) ss.length ss.length) (kL K ss.length) := by
            have h := HOW.out
            rw [List.take_of_length_le (by rw [HRL.out]; exact Nat.le_refl _)] at h
            have e : kL (fun j => r.count j) ss.length = kL K ss.length := by
              unfold kL
              exact List.map_congr_left fun j hj => by show ((r.count j : Nat) : Int) = _; rw [HFU.out.2.2 j (List.mem_range.1 hj)]
            rwa [e] at h
          have HOW := Lib.hid hOK
          clear hdr HWK hOK
          go_upto_region 25 with fail
          go_loopw [16, 139] (fun _ iv wx => ∃ i : Nat, i ≤ ss.length ∧ iv = .int .i64 i ∧ Hid (Owns wx g (.slice (some ⟨g, 0, none⟩) ss.length ss.length) (kL K ss.length)) ∧ Hid (RowKit.Below g wg wx)) (fun _ iv _ => ss.length - (intOf iv).toNat)
          case atStart => exact ⟨0, Nat.zero_le _, rfl, HOW, HB2⟩
          case round =>
            clear HOW HB2
            obtain ⟨i, hi, rfl, HOW, HB2⟩ := hrel
            by_cases hlt3 : i < ss.length
            · have hix : (i : Int) < ss.length := by omega
              obtain ⟨o1, o2, o3⟩ := kL_at HOW.out i hlt3
              have hkv := HKV.out i hlt3
              have hbx := bit_shr2 T i (by omega)
              cases hb : T.testBit i <;> simp only [hb] at hbx hkv <;> simp only [Bool.false_eq_true, if_false, if_true] at hbx hkv <;> rw [hkv] at o1 <;> clear hb hkv
              all_goals
                go_upto_region 27 with fail
                go_quiet (fail)
                have HO8 := Lib.hid (HOW.out.fut (Fut.drewN wr nq))
                have HF8 : Hid (RowKit.Below g wg (wr.drewN nq)) := Lib.hid (HB2.out.trans (RowKit.Below.mono (Fut.drewN wr nq) (Nat.le_of_lt o3)))
                clear o1 o2 hbx
                go_wp2_with fail
                go_roundw
                case rel => first | exact ⟨i + 1, by omega, by go_num, HO8, HF8⟩ | ((repeat apply Exists.intro); refine ⟨⟨i + 1, by omega, ?_, HO8, HF8⟩, rfl⟩; go_num)
                case measure => simp [intOf]; omega
            · obtain rfl : i = ss.length := by omega
              go_upto_region 30 with fail
              have HW4 := Lib.hid (HBG.out _ HB2.out)
              have hrev : (ints' r).reverse = ints' r.reverse := by rw [← List.map_reverse]
              have hKp : ∀ i, i < ss.length → r.count i = K i ∧ 0 < K i := fun i hi => ⟨HFU.out.2.2 i hi, by rw [HKV.out i hi]; omega⟩
              obtain ⟨he1, hr1⟩ := goes_full HCHK.out HFU.out.1 HFU.out.2.1 hKp
              obtain ⟨he2, hr2⟩ := goes_full HCHK.out (wk_rev r 0 0 HFU.out.1) (fun i hi => HFU.out.2.1 i (List.mem_reverse.1 hi)) (fun i hi => by rw [List.count_reverse]; exact hKp i hi)
              have hil : (ints' r).length = RL := by rw [List.length_map]; exact HRL.out
              have hil2 : (ints' r.reverse).length = RL := by rw [List.length_map, List.length_reverse]; exact HRL.out
              have HG1 : Hid (∀ W, Fut w4 W → Calls Tryd.prog 27 #[mapV n l ss.length lc, .slice ra RL rc] W fun e w' => ∃ ka kc, e = .returned (.tuple #[.slice ka ss.length kc, .int .i64 0]) ∧ IntsAt w' ka (kL K ss.length) ∧ Fut W w') := Lib.hid (fun W F => by
                have h := goesf_any n l lc ss ra rc (ints' r) W (HALL.out W (HFG.out W F)).1 (HIR.out W F) (by omega)
                rw [he1, hr1, hil] at h
                refine h.mono fun e w' (h : ∃ ka kc, e = .returned (.tuple #[.slice ka (kL K ss.length).length kc, .int .i64 0]) ∧ IntsAt w' ka (kL K ss.length) ∧ Fut W w') => ?_
                rw [kL_len] at h
                exact h)
              have HG2 : Hid (∀ W (a : Option Addr) (c : Nat), Fut w4 W → IntsAt W a (ints' r).reverse → Calls Tryd.prog 27 #[mapV n l ss.length lc, .slice a RL c] W fun e w' => ∃ ka kc, e = .returned (.tuple #[.slice ka ss.length kc, .int .i64 0]) ∧ IntsAt w' ka (kL K ss.length) ∧ Fut W w') := Lib.hid (fun W a c F hI => by
                rw [hrev] at hI
                have h := goesf_any n l lc ss a c (ints' r.reverse) W (HALL.out W (HFG.out W F)).1 hI (by omega)
                rw [he2, hr2, hil2] at h
                refine h.mono fun e w' (h : ∃ ka kc, e = .returned (.tuple #[.slice ka (kL K ss.length).length kc, .int .i64 0]) ∧ IntsAt w' ka (kL K ss.length) ∧ Fut W w') => ?_
                rw [kL_len] at h
                exact h)
              have HCLN : Hid (∀ W, Fut w4 W → Calls Tryd.prog 28 #[.slice ra RL rc] W fun e w' => ∃ bv bc, e = .returned (.slice bv RL bc) ∧ Owns w' W.heap.size (.slice bv RL bc) (ints' r) ∧ Fut W w') := Lib.hid (fun W F => by
                have h := clone_any ra rc (ints' r) W (HIR.out W F) (by omega)
                rw [hil] at h
                refine h.mono fun e w' (h : ∃ v, e = .returned v ∧ Owns w' W.heap.size v (ints' r) ∧ Fut W w') => ?_
                obtain ⟨v, h1, h2, h3⟩ := h
                obtain ⟨bv, bc, rfl, _⟩ := h2.ints
                rw [hil] at h1 h2
                exact ⟨bv, bc, h1, h2, h3⟩)
              have HREV : Hid (∀ W BB bv bc, Owns W BB (.slice bv RL bc) (ints' r) → Calls Tryd.prog 29 #[.slice bv RL bc] W fun e w' => e = .returned (.tuple #[]) ∧ IntsAt w' bv (ints' r).reverse ∧ RowKit.Below BB W w') := Lib.hid (fun W BB bv bc hO => (rev_own _ BB (ints' r) W hO (by omega)).mono fun e w' (h : e = .returned (.tuple #[]) ∧ (∃ a c, Value.slice bv RL bc = .slice a (ints' r).length c ∧ IntsAt w' a (ints' r).reverse) ∧ RowKit.Below BB W w') => by
                obtain ⟨h1, ⟨a, c, h2, h3⟩, h4⟩ := h
                simp only [Value.slice.injEq] at h2
                rw [← h2.1] at h3
                exact ⟨h1, h3, h4⟩)
              have HSAME : Hid (∀ W (a c : Option Addr) (cap dap : Nat), IntsAt W a (kL K ss.length) → IntsAt W c (kL K ss.length) → Calls Tryd.prog 15 #[.slice a ss.length cap, .slice c ss.length dap] W fun e w' => e = .returned (.bool true) ∧ ∃ q, w' = W.drewN q) := Lib.hid (fun W a c cap dap h1 h2 => by
                have h := same_any a c cap dap (kL K ss.length) (kL K ss.length) W (by rw [kL_len]; omega) (by rw [kL_len]; omega) h1 h2
                rw [kL_len, show sameB (kL K ss.length) (kL K ss.length) = true by simp [sameB]] at h
                exact h)
              have HCL2 : Hid (∀ W, IntsAt W (some ⟨g, 0, none⟩) (kL K ss.length) → Calls Tryd.prog 28 #[.slice (some ⟨g, 0, none⟩) ss.length ss.length] W fun e w' => ∃ g2 c2, e = .returned (.slice (some ⟨g2, 0, none⟩) ss.length c2) ∧ Owns w' W.heap.size (.slice (some ⟨g2, 0, none⟩) ss.length c2) (kL K ss.length) ∧ Fut W w') := Lib.hid (fun W hI => by
                have h := clone_some ⟨g, 0, none⟩ ss.length (kL K ss.length) W hI (by rw [kL_len]; omega)
                rw [kL_len] at h
                exact h)
              have HIO : Hid (IntsAt wr (some ⟨g, 0, none⟩) (kL K ss.length)) := Lib.hid (by
                obtain ⟨a, c, e, h⟩ := HOW.out.ints
                simp only [Value.slice.injEq] at e
                rw [← e.1] at h; exact h)
              obtain ⟨_, ⟨hb, b0, b1⟩, _⟩ := HALL.out wr (HFG.out wr HW4.out)
              clear hrev hKp he1 hr1 he2 hr2 hil hil2
              go_wp2_with (first
                | (go_at_call 27; (with_reducible refine (HG1.out _ HW4.out).mono ?_); rintro _ wa ⟨ka, kc, rfl, hIa, Fa⟩; have HFa := Lib.hid (HW4.out.trans Fa); have HFA := Lib.hid Fa; have HIa := Lib.hid hIa; clear hIa hb b0 b1 Fa)
                | (go_at_call 28; (with_reducible refine (HCLN.out _ HFa.out).mono ?_); rintro _ wb ⟨bv, bc, rfl, hOb, Fb⟩; have HFb := Lib.hid (HFa.out.trans Fb); have HFAB := Lib.hid (HFA.out.trans Fb); have HIab := Lib.hid (HIa.out.fut Fb); have HOb := Lib.hid hOb; have HFB1 := Lib.hid Fb; clear hOb Fb)
                | (go_at_call 29; (with_reducible refine (HREV.out _ _ _ _ HOb.out).mono ?_); rintro _ wc ⟨rfl, hIc, Fc⟩; have HFBC : Hid (Fut wa wc) := Lib.hid (HFB1.out.trans' Fc (Nat.le_refl _)); have HFc := Lib.hid (HFa.out.trans HFBC.out); have HIc := Lib.hid hIc; clear hIc Fc; obtain ⟨_, ⟨hb, b0, b1⟩, _⟩ := HALL.out wc (HFG.out wc HFc.out)))
              refine (HG2.out _ _ _ HFc.out HIc.out).mono ?_
              rintro _ wd ⟨kb, kbc, rfl, hId, Fd⟩
              have HFd := Lib.hid (HFc.out.trans Fd)
              have HId := Lib.hid hId
              have HIda := Lib.hid ((HIa.out.fut HFBC.out).fut Fd)
              have HOd := Lib.hid (HIO.out.fut ((HFA.out.trans HFBC.out).trans Fd))
              have HRd := Lib.hid ((HFA.out.trans HFBC.out).trans Fd)
              clear hId Fd hb b0 b1 HIa HIab HFAB HOb HFB1 HFBC HIc HFa HFb HFc HG1 HG2 HCLN HREV HFA
              go_wp2_with (first
                | (go_at_call 15; (with_reducible refine (HSAME.out _ _ _ _ _ HIda.out HOd.out).mono ?_); rintro _ _ ⟨rfl, qa, rfl⟩; have HIdb := Lib.hid (HId.out.fut (Fut.drewN wd qa)); have HOdb := Lib.hid (HOd.out.fut (Fut.drewN wd qa)))
                | (go_at_call 15; (with_reducible refine (HSAME.out _ _ _ _ _ HIdb.out HOdb.out).mono ?_); rintro _ _ ⟨rfl, qb, rfl⟩; have HOdc := Lib.hid (HOdb.out.fut (Fut.drewN (wd.drewN qa) qb)))
                | (go_at_call 28; (with_reducible refine (HCL2.out _ (HOd.out.fut (Fut.drewN wd (qa + qb)))).mono ?_); rintro _ wl ⟨g2, c2, rfl, hOl, Fl⟩; have hgb := (hOl.lt g2 rfl).1; have HOl := Lib.hid hOl; have HFl := Lib.hid ((Fut.drewN wd (qa + qb)).trans Fl); clear hOl Fl))
              have hg4 : w4.heap.size ≤ g2 := Nat.le_trans (RowKit.Below.size ((HW4.out.trans HRd.out).trans (Fut.drewN wd (qa + qb)))) hgb
              have HRL2 := Lib.hid ((HW4.out.trans HRd.out).trans HFl.out)
              have HKW : Hid (∀ W, RowKit.Below g2 wl W → Fut w4 W) := Lib.hid (fun W F => HRL2.out.trans' F hg4)
              generalize (wd.drewN (qa + qb)).heap.size = BB at *
              have hP0 : Par (en1 ss) (en2 ss) ss.length K 0 0 := by
                have hp := trail_par (fun i hi => by have := (good_str HMEM.out hi).1; omega) r 0 0 HFU.out.1 HFU.out.2.1
                intro v
                have hv := hp v
                have hd : dg (en1 ss) (en2 ss) ss.length (fun i => r.count i) v = dg (en1 ss) (en2 ss) ss.length K v := sm_congr _ fun i hi => by show r.count i * _ = _; rw [HFU.out.2.2 i hi]
                rw [hd] at hv
                exact hv
              have HP0 := Lib.hid hP0
              have HK2 : Hid (∀ j, j < ss.length → K j ≤ 2) := Lib.hid (fun j hj => by rw [HKV.out j hj]; split <;> omega)
              clear hP0 hg4 hgb HSAME HCL2 HOd HId HIda HRd HFl HIO HOW HB2
              go_upto_region 39 with fail
              go_loopw [13, 23, 24, 25, 26, 196, 201] (fun xv _ _ _ _ kv _ wx => ∃ (k x : Nat) (Kc : Nat → Nat), k ≤ RL ∧ kv = .int .i64 k ∧ xv = .int .i64 x ∧ x < n ∧ Hid (goG ss (40 - k) x Kc = some (r.drop k)) ∧ Hid (Par (en1 ss) (en2 ss) ss.length Kc x 0) ∧ Hid (sm ss.length Kc < 40 - k) ∧ Hid (∀ j, j < ss.length → Kc j ≤ 2) ∧ Hid (Owns wx BB (.slice (some ⟨g2, 0, none⟩) ss.length c2) (kL Kc ss.length)) ∧ Hid (RowKit.Below g2 wl wx)) (fun _ _ _ _ _ kv _ _ => RL - (intOf kv).toNat)
              case atStart => exact ⟨0, 0, K, Nat.zero_le _, rfl, rfl, hn1', Lib.hid HGO.out, HP0, Lib.hid HSMK.out, HK2, HOl, Lib.hid (RowKit.Below.refl g2 wl)⟩
              case round =>
                clear HP0 HK2 HOl HGO HSMK
                obtain ⟨k, x, Kc, hk, rfl, rfl, hx, HGO, HPA, HSMK, HK2, HOW, HB3⟩ := hrel
                have HW5 := Lib.hid (HKW.out _ HB3.out)
                by_cases hlt4 : k < RL
                · have hkx : (k : Int) < RL := by omega
                  obtain ⟨i, hri⟩ : ∃ i, r[k]? = some i := ⟨_, List.getElem?_eq_getElem (by rw [HRL.out]; exact hlt4)⟩
                  obtain ⟨N, hN⟩ : ∃ N, 40 - k = N + 1 := ⟨39 - k, by omega⟩
                  have hN2 : 40 - (k + 1) = N := by omega
                  have hg0 := HGO.out
                  have hdr : r.drop k = i :: r.drop (k + 1) := by
                    have hl : k < r.length := by rw [HRL.out]; exact hlt4
                    rw [List.drop_eq_getElem_cons hl]
                    rw [List.getElem?_eq_getElem hl] at hri
                    rw [Option.some.inj hri]
                  rw [hN, hdr] at hg0
                  obtain ⟨him, hKi, htc, hgo2, hfirst⟩ := go_step hg0
                  have hsmk := HSMK.out
                  rw [hN] at hsmk
                  have hne2 := (good_str HMEM.out him).1
                  have HPA2 := Lib.hid (par_less (by omega) him hKi htc HPA.out)
                  have HSM2 : Hid (sm ss.length (less1 Kc i) < 40 - (k + 1)) := Lib.hid (by have := tot_less him hKi; omega)
                  have HGO2 : Hid (goG ss (40 - (k + 1)) (oth (en1 ss) (en2 ss) i x) (less1 Kc i) = some (r.drop (k + 1))) := Lib.hid (by rw [hN2]; exact hgo2)
                  have HK3 : Hid (∀ j, j < ss.length → less1 Kc i j ≤ 2) := Lib.hid (fun j hj => by have := HK2.out j hj; unfold less1; split <;> omega)
                  have HNG : Hid (∀ j, j < i → 0 < Kc j → touches (en1 ss) (en2 ss) j x → ¬ Conn (en1 ss) (en2 ss) ss.length (less1 Kc j) (oth (en1 ss) (en2 ss) j x)) := Lib.hid (fun j hj h0 ht => no_gone HMEM.out (by omega) h0 ht HPA.out hsmk (hfirst j hj))
                  have HTC := Lib.hid htc
                  have HKi := Lib.hid hKi
                  obtain ⟨rb, roff, ea, hrb, hrc⟩ := ints_at (HIR.out wr HW5.out) hri
                  subst ea
                  have HRI := Lib.hid hri
                  clear hri hN hN2 hg0 hdr htc hKi hgo2 hfirst hsmk HGO HSMK HPA hne2
                  have hix : (i : Int) < ss.length := by omega
                  have hxx : (x : Int) ≤ 5 := by omega
                  go_upto_region 42 with fail
                  clear hrc hrb
                  go_loopw [24, 25, 26, 201] (fun _ _ _ jv wx => ∃ j : Nat, j ≤ i ∧ jv = .int .i64 j ∧ Hid (Owns wx BB (.slice (some ⟨g2, 0, none⟩) ss.length c2) (kL Kc ss.length)) ∧ Hid (RowKit.Below g2 wl wx)) (fun _ _ _ jv _ => i - (intOf jv).toNat)
                  case atStart => exact ⟨0, Nat.zero_le _, rfl, HOW, HB3⟩
                  case round =>
                    clear HOW HB3 HW5
                    obtain ⟨j, hj, rfl, HOW, HB3⟩ := hrel
                    have HW5 := Lib.hid (HKW.out _ HB3.out)
                    obtain ⟨hSt, ⟨hb, b0, b1⟩, _⟩ := HALL.out wr (HFG.out wr HW5.out)
                    by_cases hlt5 : j < i
                    · have hjx : (j : Int) < i := by omega
                      have hjm : j < ss.length := by omega
                      have hjl : (j : Int) < ss.length := by omega
                      obtain ⟨sb, soff, ea, hsb, s1, s2⟩ := hSt j hjm
                      obtain ⟨q1, q2, q3, q4⟩ := good_str HMEM.out hjm
                      rw [q3] at s1
                      rw [q4] at s2
                      subst ea
                      go_upto_region 45 with fail
                      obtain ⟨o1, o2, o3⟩ := kL_at HOW.out j hjm
                      have hkc := HK2.out j hjm
                      have hgl : g2 ≤ wr.heap.size := Nat.le_of_lt o3
                      have F5 : Fut wr (wr.alloc (.cells #[.int .i64 (en1 ss j), .int .i64 (en2 ss j)] 54)) := Fut.alloc _ _
                      have l0 : (wr.alloc (.cells #[.int .i64 (en1 ss j), .int .i64 (en2 ss j)] 54)).cell? ⟨wr.heap.size, 0, none⟩ = some (.int .i64 (en1 ss j)) := by simp [go_sem]
                      have l1 : (wr.alloc (.cells #[.int .i64 (en1 ss j), .int .i64 (en2 ss j)] 54)).cell? ⟨wr.heap.size, 1, none⟩ = some (.int .i64 (en2 ss j)) := by simp [go_sem]
                      have o5 : (wr.alloc (.cells #[.int .i64 (en1 ss j), .int .i64 (en2 ss j)] 54)).cell? ⟨g2, j, none⟩ = some (.int .i64 (Kc j : Nat)) := (RowKit.Below.cell F5 (p := ⟨g2, j, none⟩) o3).trans o1
                      have HO5 := Lib.hid (HOW.out.fut F5)
                      have f5 := (kL_at HO5.out j hjm).2.1
                      have HB5 : Hid (RowKit.Below g2 wl (wr.alloc (.cells #[.int .i64 (en1 ss j), .int .i64 (en2 ss j)] 54))) := Lib.hid (HB3.out.alloc hgl _)
                      have hLg : g2 < wr.heap.size := o3
                      have hLs : wr.heap.size < (wr.alloc (.cells #[.int .i64 (en1 ss j), .int .i64 (en2 ss j)] 54)).heap.size := by simp
                      have hls : (kL Kc ss.length).set j ((Kc j : Int) - 1) = kL (less1 Kc j) ss.length ∨ Kc j = 0 := by
                        by_cases h0 : Kc j = 0
                        · exact Or.inr h0
                        · exact Or.inl (kL_less (by omega))
                      have HLS := Lib.hid hls
                      have HNJ := Lib.hid (HNG.out j hlt5)
                      have HOS : Hid (touches (en1 ss) (en2 ss) j x → ((oth (en1 ss) (en2 ss) j x : Nat) : Int) = (en1 ss j : Int) + en2 ss j - x ∧ oth (en1 ss) (en2 ss) j x < n) := Lib.hid (fun h => ⟨oth_sum h, (oth_lt HMEM.out hjm h).1⟩)
                      have HTI : Hid (touches (en1 ss) (en2 ss) j x ↔ (en1 ss j = x ∨ en2 ss j = x)) := Lib.hid Iff.rfl
                      have HLB : Hid ((kL Kc ss.length).set j (Kc j : Int) = kL Kc ss.length) := Lib.hid (by
                        apply List.ext_getElem
                        · simp
                        · intro a h1 h2
                          rw [List.getElem_set]
                          split
                          · rename_i e; subst e; simp [kL]
                          · rfl)
                      have HL1 : Hid (less1 Kc j j = Kc j - 1) := Lib.hid (by unfold less1; rw [if_pos rfl])
                      have HKJ : Hid (∀ a, a < ss.length → less1 Kc j a ≤ 2) := Lib.hid (fun a ha => by have := HK2.out a ha; unfold less1; split <;> omega)
                      clear o1 o2 o3 F5 hls s1 s2 hsb
                      generalize oth (en1 ss) (en2 ss) j x = xo at HNJ HOS
                      generalize touches (en1 ss) (en2 ss) j x = TT at HNJ HOS HTI
                      generalize en1 ss j = y at *
                      generalize en2 ss j = z at *
                      generalize wr.alloc (.cells #[.int .i64 y, .int .i64 z] 54) = w5 at *
                      generalize wr.heap.size = L at *
                      obtain ⟨kj, hkj⟩ : ∃ kj, kj = Kc j := ⟨_, rfl⟩
                      rw [← hkj] at o5 hkc HLS HNJ HLB HL1
                      clear hkj
                      have hkc2 : (kj : Int) ≤ 2 := by omega
                      obtain ⟨cnd, hcnd⟩ : ∃ cnd : Bool, cnd = decide (kj = 0 ∨ (y ≠ x ∧ z ≠ x)) := ⟨_, rfl⟩
                      have HCN := Lib.hid hcnd
                      clear hcnd hb b0 b1
                      go_cut [225] from 209 to 224 (fun s225 wx => s225 = .bool cnd ∧ wx = w5)
                      case first =>
                        have hc := HCN.out
                        by_cases h0 : kj = 0
                        · have h0b : ((kj : Int) == 0) = true := by rw [h0]; rfl
                          rw [decide_eq_true (Or.inl h0)] at hc
                          subst hc
                          clear h0
                          go_wp2_with fail
                          go_meet
                          exact ⟨rfl, rfl⟩
                        · have h0b : ((kj : Int) == 0) = false := by rw [beq_eq_false_iff_ne]; omega
                          by_cases hy : y = x
                          · subst hy
                            have hyy : ((y : Int) != y) = false := by simp
                            rw [decide_eq_false (by omega)] at hc
                            subst hc
                            clear h0
                            go_wp2_with fail
                            go_meet
                            exact ⟨rfl, rfl⟩
                          · have hyy : ((y : Int) != x) = true := by rw [bne_iff_ne]; omega
                            by_cases hz : z = x
                            · have hzz : ((z : Int) != x) = false := by rw [hz]; simp
                              rw [decide_eq_false (by omega)] at hc
                              subst hc
                              clear h0 hy hz
                              go_wp2_with fail
                              go_meet
                              exact ⟨rfl, rfl⟩
                            · have hzz : ((z : Int) != x) = true := by rw [bne_iff_ne]; omega
                              rw [decide_eq_true (Or.inr ⟨hy, hz⟩)] at hc
                              subst hc
                              clear h0 hy hz
                              go_wp2_with fail
                              go_meet
                              exact ⟨rfl, rfl⟩
                      case rest =>
                        obtain ⟨rfl, rfl⟩ := hcut
                        cases cnd
                        · have hcc := of_decide_eq_false HCN.out.symm
                          have hk0 : 0 < kj := by omega
                          have hTT : TT := HTI.out.2 (by omega)
                          obtain ⟨ho1, ho2⟩ := HOS.out hTT
                          have hls : (kL Kc ss.length).set j ((kj : Int) - 1) = kL (less1 Kc j) ss.length := by
                            rcases HLS.out with h | h
                            · exact h
                            · omega
                          have hnc := HNJ.out hk0 hTT
                          have HLS2 := Lib.hid hls
                          have HNC := Lib.hid hnc
                          have HO1 := Lib.hid ho1
                          have HLB2 : Hid ((kL (less1 Kc j) ss.length).set j (kj : Int) = kL Kc ss.length) := Lib.hid (by rw [← hls, List.set_set]; exact HLB.out)
                          clear hcc hTT hls hnc ho1
                          go_upto_region 47 with fail
                          have O7 := kL_put HO5.out j ((kj : Int) - 1)
                          rw [HLS2.out] at O7
                          have F7 : RowKit.Below g2 wl (wc.setCell ⟨g2, j, none⟩ (.int .i64 ((kj : Int) - 1))) := HB5.out.setCell (p := ⟨g2, j, none⟩) (Nat.le_refl _) _
                          have k0 : (wc.setCell ⟨g2, j, none⟩ (.int .i64 ((kj : Int) - 1))).cell? ⟨L, 0, none⟩ = some (.int .i64 y) := (World.cell?_setCell_other _ _ _ _ (by intro e; have := congrArg Addr.block e; simp at this; omega)).trans l0
                          have k1 : (wc.setCell ⟨g2, j, none⟩ (.int .i64 ((kj : Int) - 1))).cell? ⟨L, 1, none⟩ = some (.int .i64 z) := (World.cell?_setCell_other _ _ _ _ (by intro e; have := congrArg Addr.block e; simp at this; omega)).trans l1
                          generalize wc.setCell ⟨g2, j, none⟩ (.int .i64 ((kj : Int) - 1)) = w7 at *
                          obtain ⟨hSt7, ⟨hb, b0, b1⟩, _⟩ := HALL.out w7 (HFG.out w7 (HKW.out _ F7))
                          have hI7 : IntsAt w7 (some ⟨g2, 0, none⟩) (kL (less1 Kc j) ss.length) := by
                            have O7' : Owns w7 BB (.slice (some ⟨g2, 0, none⟩) ss.length c2) (kL (less1 Kc j) ss.length) := O7
                            obtain ⟨a, c, e, h⟩ := O7'.ints
                            simp only [Value.slice.injEq] at e
                            rw [← e.1] at h; exact h
                          have HGN : Hid (Calls Tryd.prog 30 #[mapV n (some ⟨sb, soff, none⟩) ss.length lc, .int .i64 xo, .slice (some ⟨g2, 0, none⟩) ss.length c2] w7 fun e w' => e = .returned (.bool false) ∧ Fut w7 w') := Lib.hid ((gone_any (c := n) HMEM.out (by omega) (by omega) (some ⟨sb, soff, none⟩) lc (less1 Kc j) xo (some ⟨g2, 0, none⟩) c2 w7 hSt7 hI7 ho2 HKJ.out).mono fun e w' h => by
                            obtain ⟨b, h1, h2, h3⟩ := h
                            cases b with
                            | true => exact absurd (h2 rfl) HNC.out
                            | false => exact ⟨h1, h3⟩)
                          rw [HO1.out] at HGN
                          have HO7 := Lib.hid O7
                          have HF7 := Lib.hid F7
                          have hg7 : g2 ≤ w7.heap.size := Nat.le_of_lt (HO7.out.lt g2 rfl).2
                          have hyx : (y : Int) ≤ 5 := by omega
                          have hzx : (z : Int) ≤ 5 := by omega
                          have hk0x : (1 : Int) ≤ kj := by omega
                          have hwa : IntKind.i64.wrap ((y : Int) + z) = (y : Int) + z := IntWalk.i64_in _ ⟨by omega, by omega⟩
                          have hwb : IntKind.i64.wrap ((y : Int) + z - x) = (y : Int) + z - x := IntWalk.i64_in _ ⟨by omega, by omega⟩
                          clear O7 F7 hI7 hSt7 l0 l1 o5 f5 HNC HNJ HOS HLS
                          go_wp2_with (go_at_call 30; (with_reducible refine HGN.out.mono ?_); rintro _ w8 ⟨rfl, F8⟩; have HO8 := Lib.hid (HO7.out.fut F8); have HF8 := Lib.hid (HF7.out.trans (RowKit.Below.mono F8 hg7)); obtain ⟨p1, p2, p3⟩ := kL_at HO8.out j hjm; rw [HL1.out, show ((kj - 1 : Nat) : Int) = (kj : Int) - 1 by omega] at p1; clear F8 k0 k1 hb b0 b1)
                          have HO9 := Lib.hid (show Owns (w8.setCell ⟨g2, j, none⟩ (.int .i64 (kj : Int))) BB (.slice (some ⟨g2, 0, none⟩) ss.length c2) (kL Kc ss.length) by
                            have := kL_put HO8.out j (kj : Int)
                            rw [HLB2.out] at this; exact this)
                          have HF9 : Hid (RowKit.Below g2 wl (w8.setCell ⟨g2, j, none⟩ (.int .i64 (kj : Int)))) := Lib.hid (HF8.out.setCell (p := ⟨g2, j, none⟩) (Nat.le_refl _) _)
                          go_roundw
                          case rel => first | exact ⟨j + 1, by omega, by go_num, HO9, HF9⟩ | ((repeat apply Exists.intro); refine ⟨⟨j + 1, by omega, ?_, HO9, HF9⟩, rfl⟩; go_num)
                          case measure => simp [intOf]; omega
                        · clear o5 f5 l0 l1
                          go_wp2_with fail
                          go_roundw
                          case rel => first | exact ⟨j + 1, by omega, by go_num, HO5, HB5⟩ | ((repeat apply Exists.intro); refine ⟨⟨j + 1, by omega, ?_, HO5, HB5⟩, rfl⟩; go_num)
                          case measure => simp [intOf]; omega
                    · obtain rfl : i = j := by omega
                      obtain ⟨sb, soff, ea, hsb, s1, s2⟩ := hSt i him
                      obtain ⟨q1, q2, q3, q4⟩ := good_str HMEM.out him
                      subst ea
                      obtain ⟨o1, o2, o3⟩ := kL_at HOW.out i him
                      have hkc := HK2.out i him
                      have hKi := HKi.out
                      have HLS : Hid ((kL Kc ss.length).set i ((Kc i : Int) - 1) = kL (less1 Kc i) ss.length) := Lib.hid (kL_less hKi)
                      have HOS := Lib.hid (oth_sum HTC.out)
                      have hol := (oth_lt HMEM.out him HTC.out).1
                      have HST : Hid (∀ W, Fut w2 W → W.cell? ⟨sb, soff + i * 2, none⟩ = some (.int .i64 (en1 ss i)) ∧ W.cell? ⟨sb, soff + i * 2 + 1, none⟩ = some (.int .i64 (en2 ss i))) := Lib.hid (fun W F => by
                        obtain ⟨b', off', e, _, c1, c2⟩ := (HALL.out W F).1 i him
                        simp at e
                        obtain ⟨rfl, rfl⟩ := e
                        rw [q3] at c1
                        rw [q4] at c2
                        exact ⟨c1, c2⟩)
                      clear s1 s2 hsb q3 q4 hSt HTC
                      generalize oth (en1 ss) (en2 ss) i x = xo at *
                      generalize en1 ss i = y at *
                      generalize en2 ss i = z at *
                      obtain ⟨kj, hkj⟩ : ∃ kj, kj = Kc i := ⟨_, rfl⟩
                      rw [← hkj] at o1 hkc HLS hKi
                      clear hkj
                      have hkc2 : (kj : Int) ≤ 2 := by omega
                      have hk0x : (1 : Int) ≤ kj := by omega
                      have hyx : (y : Int) ≤ 5 := by omega
                      have hzx : (z : Int) ≤ 5 := by omega
                      go_upto_region 53 with fail
                      have O7 := kL_put HOW.out i ((kj : Int) - 1)
                      rw [HLS.out] at O7
                      have F7 : RowKit.Below g2 wl (wr.setCell ⟨g2, i, none⟩ (.int .i64 ((kj : Int) - 1))) := HB3.out.setCell (p := ⟨g2, i, none⟩) (Nat.le_refl _) _
                      generalize wr.setCell ⟨g2, i, none⟩ (.int .i64 ((kj : Int) - 1)) = w7 at *
                      have HO7 := Lib.hid O7
                      have HF7 := Lib.hid F7
                      have HW7 := Lib.hid (HFG.out w7 (HKW.out _ F7))
                      clear o1 o2 o3 O7 F7 hb b0 b1
                      obtain ⟨_, ⟨hb, b0, b1⟩, _⟩ := HALL.out w7 HW7.out
                      obtain ⟨s1, s2⟩ := HST.out w7 HW7.out
                      have hwa : IntKind.i64.wrap ((y : Int) + z) = (y : Int) + z := IntWalk.i64_in _ ⟨by omega, by omega⟩
                      have hwb : IntKind.i64.wrap ((y : Int) + z - x) = (y : Int) + z - x := IntWalk.i64_in _ ⟨by omega, by omega⟩
                      go_quiet (fail)
                      have HO8 := Lib.hid (HO7.out.fut (Fut.drewN w7 nq))
                      have HF8 : Hid (RowKit.Below g2 wl (w7.drewN nq)) := Lib.hid (HF7.out.trans (RowKit.Below.mono (Fut.drewN w7 nq) (Nat.le_of_lt (HO7.out.lt g2 rfl).2)))
                      clear hb b0 b1 s1 s2 hwa hwb
                      go_wp2_with fail
                      go_roundw
                      case rel => first | exact ⟨k + 1, xo, less1 Kc i, by omega, by go_num, by rw [HOS.out], hol, HGO2, HPA2, HSM2, HK3, HO8, HF8⟩ | ((repeat apply Exists.intro); refine ⟨⟨k + 1, xo, less1 Kc i, by omega, ?_, by rw [HOS.out], hol, HGO2, HPA2, HSM2, HK3, HO8, HF8⟩, rfl⟩; go_num)
                      case measure => simp [intOf]; omega
                · obtain rfl : RL = k := by omega
                  go_wp2_with (go_at_call 22; (with_reducible refine (works_any _).mono ?_); rintro _ w8 ⟨rfl, F8⟩)
                  go_ret
                  exact ⟨rfl, HFW.out.trans ((HFG.out _ HW5.out).trans F8)⟩
end Gn
end Go.Proofs.YtimddkofcejijaaDoor
