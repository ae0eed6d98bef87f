/- lways_own: the ways are one's own, elements too -/
import Derived.Test.YtflllkamdihfaaaLGD
import Derived.Test.YtflllkamdihfaaaLA
namespace Go.Proofs.Ytflllkamdihfaaa
open Go.RowKit Go.Sort
theorem OwnL.one {w : World} {B : Nat} {v : Value} {zs : List Int} (h : Owns w B v zs) (hB : B ≤ w.heap.size) : OwnL (w.alloc (.cells #[v] 22)) B (.slice (some ⟨w.heap.size, 0, none⟩) 1 1) [zs] :=
  ⟨[v], World.ownsRow_lit (base := B) (e := 22) (size := 1) w #[v] 1 hB (by unfold maxLen; omega) rfl, rfl, fun j hj => by
    obtain rfl : j = 0 := by simp at hj; exact hj
    exact ⟨v, rfl, h.fut (Fut.alloc _ _)⟩⟩
structure TwL (w : World) (B : Nat) (va vb : Value) (A L : List (List Int)) : Prop where
  a : OwnL w B va A
  b : OwnL w B vb L
  ap : vb.ownBlock = none ∨ vb.ownBlock ≠ va.ownBlock
theorem TwL.fut {w w' : World} {B : Nat} {va vb : Value} {A L : List (List Int)} (h : TwL w B va vb A L) (F : Fut w w') : TwL w' B va vb A L := ⟨h.a.fut F, h.b.fut F, h.ap⟩
/-- an own row of lists keeps its numbers where another such row grows. -/
theorem Elems.keptB {w w' : World} {vals : List Value} {L : List (List Int)} {B' : Nat} {u : Value} {n : Nat} {xs : List Value} {B : Nat} (h : Elems w B vals L) (hu : w.ownsRow B' 22 1 u n xs) (g : w.grownBy w' u.ownBlock) : Elems w' B vals L :=
  ⟨h.1, fun j hj => by
    obtain ⟨a, e, ha⟩ := h.2 j hj
    exact ⟨a, e, World.ownsRow.kept ha g (row_apart (by decide) ha hu)⟩⟩
theorem OwnL.kept {w w' : World} {B B' : Nat} {v u : Value} {L : List (List Int)} {n : Nat} {xs : List Value} (h : OwnL w B v L) (hu : w.ownsRow B' 22 1 u n xs) (g : w.grownBy w' u.ownBlock) (hne : v.ownBlock = none ∨ v.ownBlock ≠ u.ownBlock) : OwnL w' B v L := by
  obtain ⟨vals, h1, h2⟩ := h
  exact ⟨vals, World.ownsRow.kept h1 g hne, h2.keptB hu g⟩
theorem TwL.addA {w w' : World} {B n g : Nat} {va vb nv : Value} {A L : List (List Int)} {vals : List Value} {x : Value} {z : List Int} (h : TwL w B va vb A L) (hr : w.ownsRow B 22 1 va n vals) (hE : Elems w B vals A) (hx : Owns w B x z) (hn : A.length = n)
    (hown : w'.ownsRow B 22 1 nv (n + 1) (vals ++ [x])) (hnv : nv.ownBlock = some g) (hg : w.grownBy w' va.ownBlock) (hat : va.ownBlock = some g ∨ g = w.heap.size) : TwL w' B nv vb (A ++ [z]) L := by
  subst hn
  refine ⟨⟨_, by rw [List.length_append]; exact hown, hE.app hx hr hg⟩, h.b.kept hr hg h.ap, ?_⟩
  rw [hnv]
  rcases hat with e | e
  · rw [← e]; exact h.ap
  · refine .inr fun e2 => ?_
    obtain ⟨_, h1, _⟩ := h.b
    have := (World.ownsRow.lt h1 g e2).2
    omega
theorem TwL.addB {w w' : World} {B n g : Nat} {va vb nv : Value} {A L : List (List Int)} {vals : List Value} {x : Value} {z : List Int} (h : TwL w B va vb A L) (hr : w.ownsRow B 22 1 vb n vals) (hE : Elems w B vals L) (hx : Owns w B x z) (hn : L.length = n)
    (hown : w'.ownsRow B 22 1 nv (n + 1) (vals ++ [x])) (hnv : nv.ownBlock = some g) (hg : w.grownBy w' vb.ownBlock) (hat : vb.ownBlock = some g ∨ g = w.heap.size) : TwL w' B va nv A (L ++ [z]) := by
  subst hn
  refine ⟨h.a.kept hr hg (ap_symm h.ap), ⟨_, by rw [List.length_append]; exact hown, hE.app hx hr hg⟩, ?_⟩
  rw [hnv]
  rcases hat with e | e
  · rw [← e]; exact h.ap
  · refine .inr fun e2 => ?_
    obtain ⟨_, h1, _⟩ := h.a
    have := (World.ownsRow.lt h1 g e2.symm).2
    omega
theorem OwnL.pop {w : World} {B : Nat} {v : Value} {L : List (List Int)} {z : List Int} (h : OwnL w B v (L ++ [z])) : ∃ g c, v = .slice (some ⟨g, 0, none⟩) (L.length + 1) c ∧ L.length + 1 ≤ c ∧ c ≤ 9223372036854775807 ∧ g < w.heap.size ∧ OwnL w B (.slice (some ⟨g, 0, none⟩) L.length c) L ∧ ∃ u, w.cell? ⟨g, L.length, none⟩ = some u ∧ Owns w B u z := by
  obtain ⟨vals, h1, h2⟩ := h
  rw [List.length_append, List.length_singleton] at h1
  have h1' := h1
  have hvl : vals.length = L.length + 1 := by have := h2.1; rw [List.length_append, List.length_singleton] at this; exact this
  rcases h1.2 with ⟨_, h0⟩ | ⟨g, cap, cur, rfl, _, _, hn, hm, _⟩
  · omega
  · obtain ⟨u, e, hu⟩ := h2.2 L.length (by simp)
    have e2 : lth (L ++ [z]) L.length = z := by rw [lth_eq, List.getElem?_append_right (Nat.le_refl _), Nat.sub_self]; rfl
    rw [e2] at hu
    refine ⟨g, cap, rfl, hn, by unfold maxLen at hm; omega, (World.ownsRow.lt h1' g rfl).2, ⟨_, own_pop h1', ?_, fun j hj => ?_⟩, u, ?_, hu⟩
    · rw [List.length_take]; omega
    · obtain ⟨a, ea, ha⟩ := h2.2 j (by simp; omega)
      refine ⟨a, by rw [List.getElem?_take_of_lt hj]; exact ea, ?_⟩
      have e3 : lth (L ++ [z]) j = lth L j := by rw [lth_eq, lth_eq, List.getElem?_append_left hj]
      rw [e3] at ha; exact ha
    · rw [h1'.cellAt L.length (by omega), e]
set_option maxRecDepth 100000 in
set_option maxHeartbeats 16000000 in
theorem lways_own (r c m : Int) (hs : Side r c m) (a : Option Addr) (cap : Nat) (S : List Int) (k : Int) (hk : 0 ≤ k ∧ k < m) (ta : Option Addr) (tc : Nat) (T : List Int) (w : World) (hS : IntsAt w a S) (hl : S.length ≤ 1000) (hT : IntsAt w ta T) (hTl : T.length ≤ 1000) :
    Calls Try.prog 47 #[parV r c a S.length cap, .int .i64 k, .slice ta T.length tc] w fun e w' => ∃ v, e = .returned v ∧ OwnL w' w.heap.size v (lwL (stL c m S) S T k) ∧ Fut w w' := by
  obtain ⟨i0, hi0, hz0, hz1, hz2⟩ := info_parts info3
  obtain ⟨i1, hi1, hy0, hy1, hy2⟩ := info_parts info22
  have hmm := side_m hs
  have hu := up_stL hs S
  have HCS := Lib.hid (fun W (F : Fut w W) => contains_any a cap S k W (hS.fut F) hl)
  have HCT := Lib.hid (fun x W (F : Fut w W) => contains_any ta tc T x W (hT.fut F) hTl)
  have HST := Lib.hid (fun x (hx : 0 ≤ x ∧ x < m) W (F : Fut w W) => lsteps_any r c m hs a cap S x hx W (hS.fut F) hl)
  have HCL := Lib.hid (fun la lc zs W (hz : IntsAt W la zs) (hzl : zs.length ≤ 1000) => clone_any la lc zs W hz hzl)
  have HB0 := BoxP.new w r c a S.length cap
  have hFA : Fut w (w.alloc (.cells #[.int .i64 r, .int .i64 c, .slice a S.length cap] 24)) := Fut.alloc _ _
  have HSTP := Lib.hid (fun L z (hz : OkW m z) => stk_step hu hmm.2 T L z hz.1 hz.2.1 hz.2.2.1)
  have HNX := Lib.hid (fun z (hz : OkW m z) y (hy : y ∈ stL c m S (lst z)) => hz.next hu hy)
  have HSL := Lib.hid (fun x => stL_len c m S x)
  have HN0 : Hid (stkN (stL c m S) [[k]] ≤ 65535) := Lib.hid (by
    have := ndL_le c m S 16 k
    have e : stkN (stL c m S) [[k]] = ndL (stL c m S) 16 k := by unfold stkN; simp [lst, nth]
    rw [e]; omega)
  have HM := Lib.hid hmm
  have HK := Lib.hid hk
  have HBP := Lib.hid HB0
  have HFA := Lib.hid hFA
  obtain ⟨E, hE⟩ : ∃ E, E = lwL (stL c m S) S T k := ⟨_, rfl⟩
  rw [← hE]
  have HE : Hid (E = if S.contains k = true then [] else stkL (stL c m S) T [[k]]) := Lib.hid hE
  clear hE hS hl hT hTl hs hmm hu hk hFA
  generalize stL c m S = st at *
  obtain ⟨_, p0, p1, p2⟩ := HB0
  go_enter Try.func47, Try.ntmps47
  go_wp2_with fail
  generalize hW1 : w.alloc (.cells #[.int .i64 r, .int .i64 c, .slice a S.length cap] 24) = w1 at *
  clear hW1
  refine (HCS.out _ HFA.out).mono ?_
  rintro _ _ ⟨rfl, rfl⟩
  cases hsh : S.contains k
  · rw [hsh] at HE
    simp only [Bool.false_eq_true, if_false] at HE
    clear hsh
    have hlt1 := HBP.out.lt
    have hFX : Fut w1 ((w1.alloc (.cells #[.int .i64 k] 3)).alloc (.cells #[.slice (some ⟨w1.heap.size, 0, none⟩) 1 1] 22)) := (Fut.alloc _ _).trans (Fut.alloc _ _)
    have hO1 : Owns (w1.alloc (.cells #[.int .i64 k] 3)) (w.heap.size + 1) (.slice (some ⟨w1.heap.size, 0, none⟩) 1 1) [k] := World.ownsRow_lit (base := w.heap.size + 1) (e := 3) (size := 1) w1 #[.int .i64 k] 1 (by omega) (by unfold maxLen; omega) rfl
    have hX1 := OwnL.one hO1 (by rw [World.size_alloc]; omega)
    rw [World.size_alloc] at hX1
    have HTX : Hid (TwL ((w1.alloc (.cells #[.int .i64 k] 3)).alloc (.cells #[.slice (some ⟨w1.heap.size, 0, none⟩) 1 1] 22)) (w.heap.size + 1) (.slice none 0 0) (.slice (some ⟨w1.heap.size + 1, 0, none⟩) 1 1) [] [[k]]) := Lib.hid ⟨OwnL.nil _ _, hX1, .inr (by simp [Value.ownBlock])⟩
    have HF2 := Lib.hid (HFA.out.trans hFX)
    have HBP2 := Lib.hid (HBP.out.fut hFX)
    have HOK : Hid (∀ z ∈ [[k]], OkW m z) := Lib.hid (fun z hz => by
      obtain rfl : z = [k] := by simpa using hz
      have := HK.out
      refine ⟨by simp, ?_, ?_, ?_⟩ <;> simp [lst, nth] <;> omega)
    clear hFX hO1 hX1 hlt1 HBP HFA HCS p0 p1 p2
    go_wp2_with fail
    generalize hW2 : (w1.alloc (.cells #[.int .i64 k] 3)).alloc (.cells #[.slice (some ⟨w1.heap.size, 0, none⟩) 1 1] 22) = w2 at *
    clear hW2
    obtain ⟨N0, hN0⟩ : ∃ N0, Hid (stkN st [[k]] = N0) := ⟨_, Lib.hid rfl⟩
    go_loopg [7, 8] N0 (fun gn ov tv wr => ∃ (O L : List (List Int)) (oa : Option Addr) (oc : Nat) (sa : Option Addr) (sc : Nat), ov = .slice oa O.length oc ∧ tv = .slice sa L.length sc ∧ Hid (TwL wr (w.heap.size + 1) (.slice oa O.length oc) (.slice sa L.length sc) O L) ∧ Hid (∀ z ∈ L, OkW m z) ∧ Hid (E = O ++ stkL st T L) ∧ Hid (stkN st L = gn) ∧ Hid (O.length + stkN st L ≤ 65535) ∧ Hid (Fut w wr) ∧ Hid (BoxP wr w.heap.size r c a S.length cap))
    case atStart => exact ⟨[], [[k]], none, 0, _, 1, rfl, rfl, HTX, HOK, Lib.hid (by rw [HE.out]; rfl), hN0, Lib.hid (by have := HN0.out; simpa using this), HF2, HBP2⟩
    case round =>
      obtain ⟨O, L, oa, oc, sa, sc, rfl, rfl, HT2, HOL, HEL, HNL, HBL, HFL, HBPL⟩ := hrel
      clear HTX HF2 HBP2 HOK hN0 HE HN0 HK
      rcases L.eq_nil_or_concat with hL | ⟨L', z, hL⟩
      · subst hL
        go_wp2_with fail
        go_ret
        exact ⟨_, rfl, by rw [HEL.out, stk_nil, List.append_nil]; exact HT2.out.a.base (Nat.le_succ _), HFL.out⟩
      · rw [List.concat_eq_append] at hL
        subst hL
        have hPP := HT2.out.b.pop
        obtain ⟨g, sc', e1, hc1, hc2, hgl, hXp, u, cu, hOu⟩ := hPP
        rw [List.length_append, List.length_singleton] at e1
        cases e1
        have hOz := HOL.out z (by simp)
        obtain ⟨hz1, hz2, hz3, hz4⟩ := hOz
        have hzl : 0 < z.length := List.length_pos_iff.2 hz1
        have HZL : Hid (0 < z.length ∧ z.length ≤ 16) := Lib.hid (by have := HM.out; omega)
        have HZB : Hid (0 ≤ lst z ∧ lst z < m) := Lib.hid ⟨hz2, hz3⟩
        have HOZ : Hid (OkW m z) := Lib.hid ⟨hz1, hz2, hz3, hz4⟩
        obtain ⟨_, uc, e2, huc1, huc2, hIu⟩ := hOu.form
        subst e2
        obtain ⟨zb, zo, ez, hzb, cz⟩ := hIu (z.length - 1) (by omega)
        subst ez
        have HAP : Hid ((Value.slice (some ⟨g, 0, none⟩) (L'.length + 1) sc).ownBlock = none ∨ (Value.slice (some ⟨g, 0, none⟩) (L'.length + 1) sc).ownBlock ≠ (Value.slice oa O.length oc).ownBlock) := Lib.hid (by have := HT2.out.ap; rwa [List.length_append, List.length_singleton] at this)
        have HTP : Hid (TwL wr (w.heap.size + 1) (.slice oa O.length oc) (.slice (some ⟨g, 0, none⟩) L'.length sc) O L') := Lib.hid ⟨HT2.out.a, hXp, HAP.out⟩
        have HOU := Lib.hid hOu
        have HOLP : Hid (∀ y ∈ L', OkW m y) := Lib.hid (fun y hy => HOL.out y (by simp [hy]))
        have HSP := Lib.hid (HSTP.out L' z HOZ.out)
        have cz' : wr.cell? ⟨zb, zo + (z.length - 1), none⟩ = some (.int .i64 (lst z)) := cz
        have HCZ : Hid (∀ W, Fut wr W → W.cell? ⟨zb, zo + (z.length - 1), none⟩ = some (.int .i64 (lst z))) := Lib.hid (fun W F => (RowKit.Below.cell F (p := ⟨zb, zo + (z.length - 1), none⟩) hzb).trans cz')
        have hL1 : L'.length ≤ 65535 := by have h1 := HBL.out; have h2 := stkN_len st (L' ++ [z]); rw [List.length_append, List.length_singleton] at h2; omega
        have hO1 : O.length ≤ 65535 := by have h1 := HBL.out; omega
        have hw1 : IntKind.i64.wrap ((L'.length : Int) + 1 - 1) = (L'.length : Int) := by rw [IntWalk.i64_in _ ⟨by omega, by omega⟩]; omega
        have hz16 := HZL.out.2
        have hw2 : IntKind.i64.wrap ((z.length : Int) - 1) = ((z.length - 1 : Nat) : Int) := by rw [IntWalk.i64_in _ ⟨by omega, by omega⟩]; omega
        have hcx := slice_toL g 0 (L'.length + 1) sc L'.length (by omega)
        have hwlx : ((z.length - 1 : Nat) : Int) < z.length := by omega
        obtain ⟨cb, HCB⟩ : ∃ cb, Hid (T.contains (lst z) = cb) := ⟨_, Lib.hid rfl⟩
        have hQ0 := HCT.out (lst z) wr HFL.out
        rw [HCB.out] at hQ0
        have HQ := Lib.hid hQ0
        clear hQ0
        clear hz1 hz2 hz3 hz4 HT2 hXp hOu hIu HOL hzb cz HAP
        go_wp2_with fail
        refine HQ.out.mono ?_
        rintro _ w3 ⟨rfl, rfl⟩
        obtain ⟨O2, HO2⟩ : ∃ O2, Hid (O2 = O ++ (if T.contains (lst z) = true then [z] else [])) := ⟨_, Lib.hid rfl⟩
        have HE2 : Hid (E = O2 ++ stkL st T (L' ++ (st (lst z)).map fun y => z ++ [y])) := Lib.hid (by rw [HEL.out, HSP.out.1, HO2.out, List.append_assoc])
        have HN2 : Hid (gk = 1 + stkN st (L' ++ (st (lst z)).map fun y => z ++ [y])) := Lib.hid (by rw [← HNL.out, HSP.out.2])
        have HB2 : Hid (O2.length + stkN st (L' ++ (st (lst z)).map fun y => z ++ [y]) ≤ 65535) := Lib.hid (by
          have h1 := HBL.out
          rw [HSP.out.2] at h1
          rw [HO2.out, List.length_append]
          have h2 : (if T.contains (lst z) = true then [z] else []).length ≤ 1 := by split <;> simp
          omega)
        clear HEL HNL HBL HSP HQ
        go_upto_if 40 with fail
        go_cut [7] from 40 to 44 (fun s7 wx => ∃ (pa : Option Addr) (pc : Nat), s7 = .slice pa O2.length pc ∧ Hid (TwL wx (w.heap.size + 1) (.slice pa O2.length pc) (.slice (some ⟨g, 0, none⟩) L'.length sc) O2 L') ∧ Hid (Owns wx (w.heap.size + 1) (.slice (some ⟨zb, zo, none⟩) z.length uc) z) ∧ Hid (wx.cell? ⟨zb, zo + (z.length - 1), none⟩ = some (.int .i64 (lst z))) ∧ Hid (Fut w wx) ∧ Hid (BoxP wx w.heap.size r c a S.length cap))
        case first =>
          cases cb
          · have hin := HCB.out
            rw [hin] at HO2
            simp only [Bool.false_eq_true, if_false, List.append_nil] at HO2
            obtain rfl := HO2.out
            clear hin
            go_wp2_with fail
            go_meet
            exact ⟨oa, oc, rfl, HTP, HOU, Lib.hid cz', HFL, HBPL⟩
          · have hin := HCB.out
            rw [hin] at HO2
            simp only [if_true] at HO2
            obtain rfl := HO2.out
            clear hin
            obtain ⟨ovals, hrow, hel⟩ := HTP.out.a
            have HRW : Hid ((wr.alloc (.cells #[.slice (some ⟨zb, zo, none⟩) z.length uc] 22)).ownsRow (w.heap.size + 1) 22 1 (.slice oa O.length oc) O.length ovals) := Lib.hid (World.ownsRow.alloc hrow _)
            have HEL := Lib.hid (hel.fut (Fut.alloc wr (.cells #[.slice (some ⟨zb, zo, none⟩) z.length uc] 22)))
            clear hrow hel
            go_wp2_with (at_builtin; refine wpList_append_lies _ rfl _ _ 35 rfl (w.heap.size + 1) 22 i1 (.slice none 0 0) 1 24 Try.underlying35 hi1 hy0 hy1 hy2 rfl (by decide) (.slice oa O.length oc) O.length ovals rfl HRW.out ⟨wr.heap.size, 0, none⟩ 1 1 [.slice (some ⟨zb, zo, none⟩) z.length uc] rfl rfl (cell_one (by simp [go_sem])) (by simp [Value.oneCell']) (by omega) (by unfold maxLen; omega) (by omega) (Nat.le_trans HBPL.out.lt (RowKit.Below.size (Fut.alloc wr _))) _ rfl ?_)
            intro q5 c5 w5 hown hgr hat hlt
            have FA : Fut wr (wr.alloc (.cells #[.slice (some ⟨zb, zo, none⟩) z.length uc] 22)) := Fut.alloc _ _
            have hnB : (Value.slice oa O.length oc).ownBlock ≠ some w.heap.size := fun e => by have := (World.ownsRow.lt HRW.out _ e).1; omega
            have hF5 : Fut w w5 := RowKit.Below.grown (HFL.out.trans FA) hgr (RowKit.Below.size (HFL.out.trans FA)) fun q hq => by have := (World.ownsRow.lt HRW.out q hq).1; omega
            have hU5 : Owns w5 (w.heap.size + 1) (.slice (some ⟨zb, zo, none⟩) z.length uc) z := World.ownsRow.kept (HOU.out.fut FA) hgr (row_apart (by decide) (HOU.out.fut FA) HRW.out)
            have hT5 : TwL w5 (w.heap.size + 1) (.slice (some ⟨q5, 0, none⟩) (O.length + 1) c5) (.slice (some ⟨g, 0, none⟩) L'.length sc) (O ++ [z]) L' := (HTP.out.fut FA).addA (g := q5) HRW.out HEL.out (HOU.out.fut FA) rfl hown rfl hgr (by simpa using hat)
            have hC5 := hU5.form
            obtain ⟨_, _, e6, _, _, hI6⟩ := hC5
            simp only [Value.slice.injEq, true_and] at e6
            obtain ⟨e6a, e6b⟩ := e6
            obtain ⟨zb', zo', e7, _, hc7⟩ := hI6 (z.length - 1) (by omega)
            rw [← e6a] at e7
            cases e7
            have HT5 := Lib.hid hT5
            have HU5 := Lib.hid hU5
            have HC5 : Hid (w5.cell? ⟨zb, zo + (z.length - 1), none⟩ = some (.int .i64 (lst z))) := Lib.hid hc7
            have HF5 := Lib.hid hF5
            have HB5 := Lib.hid (BoxP.kept (HBPL.out.fut FA) hgr hnB)
            clear hown hgr hat hlt FA hnB hF5 hU5 hT5 hI6 hc7 e6a e6b HRW HEL
            go_wp2_with fail
            go_meet
            exact ⟨_, c5, by rw [List.length_append, List.length_singleton], by rw [List.length_append, List.length_singleton]; exact HT5, HU5, HC5, HF5, HB5⟩
        case rest =>
          obtain ⟨pa, pc, rfl, HTW, HUW, HCW, HFW, HBW⟩ := hcut
          obtain ⟨w2', hw2'⟩ : ∃ w2', w2' = wc := ⟨_, rfl⟩
          subst hw2'
          clear HTP HOU HCZ HFL HBPL cz' HO2 HCB
          have HFR : Hid (Fut w2' w2'.drew) := Lib.hid (below_drewN Fut.rfl 1)
          have HFU : Hid (Fut w w2'.drew) := Lib.hid (HFW.out.trans HFR.out)
          have HBX : Hid (BoxP w2'.drew w.heap.size r c a S.length cap ∧ w2'.drew.cell? ⟨zb, zo + (z.length - 1), none⟩ = some (.int .i64 (lst z))) := Lib.hid ⟨HBW.out.fut HFR.out, HCW.out⟩
          have HTU := Lib.hid (HTW.out.fut HFR.out)
          have HUU := Lib.hid (HUW.out.fut HFR.out)
          clear HFR HFW HBW HCW HTW HUW
          go_upto_region 10 with fail
          refine wp_region_held_drew (S := (fun w' => BoxP w' w.heap.size r c a S.length cap ∧ w'.cell? ⟨zb, zo + (z.length - 1), none⟩ = some (.int .i64 (lst z)))) (by kernel_rfl) ?_ (fun hHeld => ?_)
          · exact HBX.out
          generalize w2'.drew = u0 at *
          refine wpAnyH_take (i := 0) (oi := { dst := some 45, op := Op.load 24 (Operand.tmp 3), type := 24, pos := "outright.go:74", after := #[], guard := none }) (v := ?_) rfl (by kernel_rfl) (by kernel_rfl) (by kernel_rfl) (fun _ _ _ h => h) (Or.inl ⟨by rfl, ?_⟩) (by assumption) ?_
          rotate_left
          · (intro w hSw; (obtain ⟨⟨_, s0, s1, s2⟩, s3⟩ := hSw); go_simp <;> with_reducible rfl)
          try simp only [Act.put, List.setIfInBounds_toArray, List.set_cons_zero, List.set_cons_succ]
          refine wpAnyH_take (i := 1) (oi := { dst := some 46, op := Op.move (Operand.tmp 9), type := 22, pos := "outright.go:74", after := #[], guard := none }) (v := ?_) rfl (by kernel_rfl) (by kernel_rfl) (by kernel_rfl) (fun _ _ _ h => h) (Or.inl ⟨by rfl, ?_⟩) (by assumption) ?_
          rotate_left
          · (intro w hSw; (obtain ⟨⟨_, s0, s1, s2⟩, s3⟩ := hSw); go_simp <;> with_reducible rfl)
          try simp only [Act.put, List.setIfInBounds_toArray, List.set_cons_zero, List.set_cons_succ]
          refine wpAnyH_take (i := 2) (oi := { dst := some 47, op := Op.move (Operand.tmp 9), type := 22, pos := "outright.go:74", after := #[], guard := none }) (v := ?_) rfl (by kernel_rfl) (by kernel_rfl) (by kernel_rfl) (fun _ _ _ h => h) (Or.inl ⟨by rfl, ?_⟩) (by assumption) ?_
          rotate_left
          · (intro w hSw; (obtain ⟨⟨_, s0, s1, s2⟩, s3⟩ := hSw); go_simp <;> with_reducible rfl)
          try simp only [Act.put, List.setIfInBounds_toArray, List.set_cons_zero, List.set_cons_succ]
          refine wpAnyH_take (i := 3) (oi := { dst := some 48, op := Op.call { callee := Callee.builtin Builtin.len, args := #[Operand.tmp 47], argTypes := #[22] }, type := 3, pos := "outright.go:74", after := #[{ on := 2, ground := Ground.data }], guard := none }) (v := ?_) rfl (by kernel_rfl) (by kernel_rfl) (by kernel_rfl) (fun _ _ _ h => h) (Or.inl ⟨by rfl, ?_⟩) (by assumption) ?_
          rotate_left
          · (intro w hSw; (obtain ⟨⟨_, s0, s1, s2⟩, s3⟩ := hSw); go_simp <;> with_reducible rfl)
          try simp only [Act.put, List.setIfInBounds_toArray, List.set_cons_zero, List.set_cons_succ]
          refine wpAnyH_take (i := 4) (oi := { dst := some 49, op := Op.binOp BinOp.sub 3 (Operand.tmp 48) (Operand.const (Value.int IntKind.i64 1)) 3, type := 3, pos := "outright.go:74", after := #[{ on := 3, ground := Ground.data }], guard := none }) (v := ?_) rfl (by kernel_rfl) (by kernel_rfl) (by kernel_rfl) (fun _ _ _ h => h) (Or.inl ⟨by rfl, ?_⟩) (by assumption) ?_
          rotate_left
          · (intro w hSw; (obtain ⟨⟨_, s0, s1, s2⟩, s3⟩ := hSw); go_simp <;> with_reducible rfl)
          try simp only [Act.put, List.setIfInBounds_toArray, List.set_cons_zero, List.set_cons_succ]
          refine wpAnyH_take (i := 5) (oi := { dst := some 50, op := Op.indexAddr 22 (Operand.tmp 46) (Operand.tmp 49), type := 0, pos := "outright.go:74", after := #[{ on := 1, ground := Ground.data }, { on := 4, ground := Ground.data }], guard := none }) (v := ?_) rfl (by kernel_rfl) (by kernel_rfl) (by kernel_rfl) (fun _ _ _ h => h) (Or.inl ⟨by rfl, ?_⟩) (by assumption) ?_
          rotate_left
          · (intro w hSw; (obtain ⟨⟨_, s0, s1, s2⟩, s3⟩ := hSw); go_simp <;> with_reducible rfl)
          try simp only [Act.put, List.setIfInBounds_toArray, List.set_cons_zero, List.set_cons_succ]
          refine wpAnyH_take (i := 6) (oi := { dst := some 51, op := Op.load 3 (Operand.tmp 50), type := 3, pos := "outright.go:74", after := #[{ on := 5, ground := Ground.data }], guard := none }) (v := ?_) rfl (by kernel_rfl) (by kernel_rfl) (by kernel_rfl) (fun _ _ _ h => h) (Or.inl ⟨by rfl, ?_⟩) (by assumption) ?_
          rotate_left
          · (intro w hSw; (obtain ⟨⟨_, s0, s1, s2⟩, s3⟩ := hSw); go_simp <;> with_reducible rfl)
          try simp only [Act.put, List.setIfInBounds_toArray, List.set_cons_zero, List.set_cons_succ]
          refine wpAnyH_take (i := 9) (oi := { dst := some 54, op := Op.move (Operand.const (Value.int IntKind.i64 0)), type := 3, pos := "outright.go:74", after := #[], guard := none }) (v := ?_) rfl (by kernel_rfl) (by kernel_rfl) (by kernel_rfl) (fun _ _ _ h => h) (Or.inl ⟨by rfl, ?_⟩) (by assumption) ?_
          rotate_left
          · (intro w hSw; (obtain ⟨⟨_, s0, s1, s2⟩, s3⟩ := hSw); go_simp <;> with_reducible rfl)
          try simp only [Act.put, List.setIfInBounds_toArray, List.set_cons_zero, List.set_cons_succ]
          refine wpAnyH_ready (rs := [7]) (by kernel_rfl) (by simp) ?_
          refine AllReadyH.cons (o := { dst := some 52, op := Op.call { callee := Callee.value (Operand.func 102), args := #[Operand.tmp 45, Operand.tmp 51], argTypes := #[24, 3] }, type := 22, pos := "outright.go:74", after := #[{ on := 0, ground := Ground.data }, { on := 6, ground := Ground.data }], guard := none }) rfl (fun K hK => ?_) AllReadyH.nil
          go_simp
          go_at_call 102
          refine (HST.out (lst z) HZB.out u0 (HFU.out)).mono ?_
          rintro _ w5 ⟨v5, rfl, hO5, F5⟩
          obtain ⟨a5, c5, e5, hc5, hcm5, hI5⟩ := hO5.form
          subst e5
          have HF5 := Lib.hid F5
          have HI5 := Lib.hid (Owns.base hO5 (Nat.zero_le _))
          clear hO5 F5 hI5
          try go_wp2_with fail
          refine hK.out _ _ ?_ (fun hHeld => ?_)
          · exact ⟨HBX.out.1.fut HF5.out, (RowKit.Below.cell HF5.out (p := ⟨zb, zo + (z.length - 1), none⟩) (World.block_lt_of_cell? _ _ HBX.out.2)).trans HBX.out.2⟩
          clear hK K
          try simp only [Act.put, List.setIfInBounds_toArray, List.set_cons_zero, List.set_cons_succ]
          refine wpAnyH_take (i := 8) (oi := { dst := some 53, op := Op.call { callee := Callee.builtin Builtin.len, args := #[Operand.tmp 52], argTypes := #[22] }, type := 3, pos := "outright.go:74", after := #[{ on := 7, ground := Ground.data }], guard := none }) (v := ?_) rfl (by kernel_rfl) (by kernel_rfl) (by kernel_rfl) (fun _ _ _ h => h) (Or.inl ⟨by rfl, ?_⟩) (by assumption) ?_
          rotate_left
          · (intro w hSw; (obtain ⟨⟨_, s0, s1, s2⟩, s3⟩ := hSw); go_simp <;> with_reducible rfl)
          try simp only [Act.put, List.setIfInBounds_toArray, List.set_cons_zero, List.set_cons_succ]
          refine wpAnyH_done (by kernel_rfl) ?_ _
          skip
          have HT5 := Lib.hid (HTU.out.fut HF5.out)
          have HU5 := Lib.hid (HUU.out.fut HF5.out)
          have HB5 := Lib.hid (HBX.out.1.fut HF5.out)
          have HFW5 := Lib.hid (HFU.out.trans HF5.out)
          have HNZ := Lib.hid (fun y hy => HNX.out z HOZ.out y hy)
          have hl2 := HSL.out (lst z)
          obtain ⟨l, hl⟩ : ∃ l, l = st (lst z) := ⟨_, rfl⟩
          have HT50 : Hid (TwL w5 (w.heap.size + 1) (.slice pa O2.length pc) (.slice (some ⟨g, 0, none⟩) L'.length sc) O2 L') := HT5
          have HNE : Hid (nxS z l l.length = l.map fun y => z ++ [y]) := Lib.hid (by simp [nxS])
          rw [← hl] at HI5 hl2 HNZ HE2 HN2 HB2 ⊢
          clear hl HT5 HTU HUU HBX HFU HF5
          obtain ⟨gO, hgO⟩ : ∃ gO, gO = gk := ⟨_, rfl⟩
          subst hgO
          go_wp2_with fail
          go_loopg [8, 54] l.length (fun gn tv iv wx => ∃ (i : Nat) (Lc : List (List Int)) (sa2 : Option Addr) (sc2 : Nat), i ≤ l.length ∧ gn = l.length - i ∧ tv = .slice sa2 Lc.length sc2 ∧ iv = .int .i64 i ∧ Hid (Lc = L' ++ nxS z l i) ∧ Hid (TwL wx (w.heap.size + 1) (.slice pa O2.length pc) (.slice sa2 Lc.length sc2) O2 Lc) ∧ Hid (Owns wx (w.heap.size + 1) (.slice (some ⟨zb, zo, none⟩) z.length uc) z) ∧ Hid (Owns wx 0 (.slice a5 l.length c5) l) ∧ Hid (Fut w wx) ∧ Hid (BoxP wx w.heap.size r c a S.length cap))
          case atStart => exact ⟨0, L', some ⟨g, 0, none⟩, sc, Nat.zero_le _, rfl, rfl, rfl, Lib.hid (by simp [nxS]), HT50, HU5, HI5, HFW5, HB5⟩
          case round =>
            obtain ⟨i, Lc, sa2, sc2, hi, hgn, rfl, rfl, HLC, HTi, HUi, HIi, HFi, HBi⟩ := hrel
            have HGN := Lib.hid hgn
            clear hgn HT50 HU5 HI5 HFW5 HB5
            by_cases hil : i < l.length
            · have hix : (i : Int) < l.length := by omega
              obtain ⟨lb, lo, ea, hlb, cl⟩ := HIi.out.at rfl i hil
              subst ea
              have HYm := Lib.hid (HNZ.out (nth l i) (nth_mem hil))
              have HNS := Lib.hid (nxS_succ z l i hil)
              have hIz : IntsAt wr (some ⟨zb, zo, none⟩) z := HUi.out.at rfl
              have HCC := Lib.hid (HCL.out (some ⟨zb, zo, none⟩) uc z wr hIz (by have := HZL.out; omega))
              generalize nth l i = y at *
              have hnl : (nxS z l i).length ≤ 2 := by unfold nxS; rw [List.length_map, List.length_take]; omega
              clear hIz hlb
              go_wp2_with fail
              refine HCC.out.mono ?_
              rintro _ w6 ⟨v6, rfl, hO6, F6⟩
              obtain ⟨a6, c6, e6, hc61, hc62, hI6⟩ := hO6.form
              subst e6
              have HR6 : Hid ((w6.alloc (.cells #[.int .i64 y] 3)).ownsRow wr.heap.size 3 1 (.slice a6 z.length c6) z.length (z.map (Value.int .i64))) := Lib.hid (World.ownsRow.alloc hO6 _)
              have HFA6 : Hid (Fut wr (w6.alloc (.cells #[.int .i64 y] 3))) := Lib.hid (F6.trans (Fut.alloc _ _))
              have hz16' := HZL.out.2
              clear hO6 F6 hI6 HCC
              go_wp2_with (at_builtin; refine wpList_append_lies _ rfl _ _ 22 rfl wr.heap.size 3 i0 (.int .i64 0) 1 8 Try.underlying22 hi0 hz0 hz1 hz2 rfl (by decide) (.slice a6 z.length c6) z.length (z.map (Value.int .i64)) rfl HR6.out ⟨w6.heap.size, 0, none⟩ 1 1 [.int .i64 y] rfl rfl (cell_one (by simp [go_sem])) (by simp [Value.oneCell']) (by omega) (by unfold maxLen; omega) (by omega) (RowKit.Below.size HFA6.out) _ rfl ?_)
              intro g7 c7 w7 hown7 hgr7 _ hlt7
              have F7 : Fut wr w7 := RowKit.Below.grown HFA6.out hgr7 (RowKit.Below.size HFA6.out) fun q hq => (World.ownsRow.lt HR6.out q hq).1
              have hO7 : Owns w7 (w.heap.size + 1) (.slice (some ⟨g7, 0, none⟩) (z.length + 1) c7) (z ++ [y]) := Owns.base (B := wr.heap.size) (by unfold Owns; rw [List.length_append, List.length_singleton, List.map_append]; exact hown7) HBi.out.lt
              have hT7 := HTi.out.fut F7
              obtain ⟨tvals, hrow, hel⟩ := hT7.b
              have FA : Fut w7 (w7.alloc (.cells #[.slice (some ⟨g7, 0, none⟩) (z.length + 1) c7] 22)) := Fut.alloc _ _
              have HRW : Hid ((w7.alloc (.cells #[.slice (some ⟨g7, 0, none⟩) (z.length + 1) c7] 22)).ownsRow (w.heap.size + 1) 22 1 (.slice sa2 Lc.length sc2) Lc.length tvals) := Lib.hid (World.ownsRow.alloc hrow _)
              have HEL7 := Lib.hid (hel.fut FA)
              have HO7 := Lib.hid (hO7.fut FA)
              have HT7 := Lib.hid (hT7.fut FA)
              have HU7 := Lib.hid (HUi.out.fut (F7.trans FA))
              have HI7 := Lib.hid (HIi.out.fut (F7.trans FA))
              have HF7 := Lib.hid (HFi.out.trans (F7.trans FA))
              have HB7 := Lib.hid (HBi.out.fut (F7.trans FA))
              have hll : Lc.length ≤ 65537 := by rw [HLC.out, List.length_append]; omega
              have hsz7 : w.heap.size + 1 ≤ (w7.alloc (.cells #[.slice (some ⟨g7, 0, none⟩) (z.length + 1) c7] 22)).heap.size := HB7.out.lt
              have HSZ7 := Lib.hid hsz7
              clear hown7 hgr7 F7 hO7 hT7 hrow hel FA HR6 HFA6 HTi HUi HIi HFi HBi cl hsz7 hlt7
              go_wp2_with (at_builtin; refine wpList_append_lies _ rfl _ _ 35 rfl (w.heap.size + 1) 22 i1 (.slice none 0 0) 1 24 Try.underlying35 hi1 hy0 hy1 hy2 rfl (by decide) (.slice sa2 Lc.length sc2) Lc.length tvals rfl HRW.out ⟨w7.heap.size, 0, none⟩ 1 1 [.slice (some ⟨g7, 0, none⟩) (z.length + 1) c7] rfl rfl (cell_one (by simp [go_sem])) (by simp [Value.oneCell']) (by omega) (by unfold maxLen; omega) (by omega) HSZ7.out _ rfl ?_)
              intro g8 c8 w8 hown hgr hat hlt
              have hnB : (Value.slice sa2 Lc.length sc2).ownBlock ≠ some w.heap.size := fun e => by have := (World.ownsRow.lt HRW.out _ e).1; omega
              have HU8 : Hid (Owns w8 (w.heap.size + 1) (.slice (some ⟨zb, zo, none⟩) z.length uc) z) := Lib.hid (World.ownsRow.kept HU7.out hgr (row_apart (by decide) HU7.out HRW.out))
              have HI8 : Hid (Owns w8 0 (.slice (some ⟨lb, lo, none⟩) l.length c5) l) := Lib.hid (World.ownsRow.kept HI7.out hgr (row_apart (by decide) HI7.out HRW.out))
              have HF8 : Hid (Fut w w8) := Lib.hid (RowKit.Below.grown HF7.out hgr (RowKit.Below.size HF7.out) fun q hq => by have := (World.ownsRow.lt HRW.out q hq).1; omega)
              have HB8 := Lib.hid (BoxP.kept HB7.out hgr hnB)
              have hT8 := HT7.out.addB (g := g8) HRW.out HEL7.out HO7.out rfl hown rfl hgr (by simpa using hat)
              have HT8 := Lib.hid hT8
              have HL8 : Hid (Lc ++ [z ++ [y]] = L' ++ nxS z l (i + 1)) := Lib.hid (by rw [HLC.out, HNS.out, List.append_assoc])
              clear hown hgr hat hlt hnB hT8 HRW HEL7 HO7 HT7 HU7 HI7 HF7 HB7 HLC HNS hll
              go_wp2_with fail
              go_roundg (l.length - (i + 1))
              case measure => have := HGN.out; omega
              case rel => exact ⟨i + 1, Lc ++ [z ++ [y]], some ⟨g8, 0, none⟩, c8, hil, rfl, by rw [List.length_append, List.length_singleton], by go_num, HL8, by rw [List.length_append, List.length_singleton]; exact HT8, HU8, HI8, HF8, HB8⟩
            · obtain rfl : l.length = i := by omega
              have eLc : L' ++ (l.map fun y => z ++ [y]) = Lc := by rw [HLC.out, HNE.out]
              have hOLN : ∀ y ∈ L' ++ l.map fun y => z ++ [y], OkW m y := fun y hy => by
                rcases List.mem_append.1 hy with h | h
                · exact HOLP.out y h
                · obtain ⟨x, hx, rfl⟩ := List.mem_map.1 h
                  exact HNZ.out x hx
              rw [eLc] at HE2 HN2 HB2 hOLN
              have HOLN := Lib.hid hOLN
              clear eLc hOLN
              go_wp2_with fail
              go_roundg (stkN st Lc)
              case measure => have := HN2.out; omega
              case rel => exact ⟨O2, Lc, pa, pc, sa2, sc2, rfl, rfl, HTi, HOLN, HE2, Lib.hid rfl, HB2, HFi, HBi⟩
  · rw [hsh] at HE
    simp only [if_true] at HE
    clear hsh
    go_wp2_with fail
    go_ret
    exact ⟨_, rfl, by rw [HE.out]; exact OwnL.nil _ _, HFA.out⟩end Go.Proofs.Ytflllkamdihfaaa
