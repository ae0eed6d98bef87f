/- law 12: law12_int -/
import Derived.Test.YtpgifeaejjjjnaaNF
import Derived.Test.YtpgifeaejjjjnaaOF
import Derived.Test.YtpgifeaejjjjnaaCU
import Derived.Test.YtpgifeaejjjjnaaCY
import Derived.Test.YtpgifeaejjjjnaaFC
import Derived.Deep.DeepCutAuto
namespace Go.Proofs.Ytpgifeaejjjjnaa
open Go.RowKit Go.Sort
theorem own_other {w : World} {B B' g g' n : Nat} {L L' : List Int} (h : Owns w B (.slice (some ⟨g, 0, none⟩) n n) L) (h' : Owns w B' (.slice (some ⟨g', 0, none⟩) n n) L') (hn' : L'.length = n) (hne : g ≠ g') (a : Nat) (u : Value) : Owns (w.setCell ⟨g', a, none⟩ u) B (.slice (some ⟨g, 0, none⟩) n n) L := by
  unfold Owns at h'
  rw [hn'] at h'
  exact World.ownsRow.kept h (h'.stored a u).2 (.inr (by simp only [Value.ownBlock]; exact fun e => hne (Option.some.inj e)))
theorem own_swL {w : World} {B g n : Nat} {L : List Int} (h : Owns w B (.slice (some ⟨g, 0, none⟩) n n) L) (hn : L.length = n) (i k : Nat) : Owns ((w.setCell ⟨g, i, none⟩ (.int .i64 (nth L k))).setCell ⟨g, k, none⟩ (.int .i64 (nth L i))) B (.slice (some ⟨g, 0, none⟩) n n) (swL L i k) :=
  own_set (own_set h hn i _) (by rw [List.length_set]; exact hn) k _
theorem md_facts (i b N : Nat) (hi : i < N) (hN : N ≤ 5) (hb : (b : Int) < 256) : ∃ j : Nat, wrap64 ((i : Int) + 1) = (i : Int) + 1 ∧ IntKind.i64.wrap ((i : Int) + 1) = (i : Int) + 1 ∧ ¬ (i : Int) + 1 = 0 ∧ IntKind.i64.wrap (b : Int) = b ∧ (b : Int) % ((i : Int) + 1) = (j : Int) ∧ (b : Int).tmod ((i : Int) + 1) = (j : Int) ∧ j < i + 1 ∧ j < N ∧ (j : Int) < N := by
  have h1 : wrap64 ((i : Int) + 1) = (i : Int) + 1 := w64_in (by omega) (by omega)
  have h2 : IntKind.i64.wrap ((i : Int) + 1) = (i : Int) + 1 := IntWalk.i64_in _ ⟨by omega, by omega⟩
  have h3 : IntKind.i64.wrap (b : Int) = b := IntWalk.i64_in _ ⟨by omega, by omega⟩
  have h4 : (b : Int) % ((i : Int) + 1) = ((b % (i + 1) : Nat) : Int) := by exact_mod_cast rfl
  have h5 : (b : Int).tmod ((i : Int) + 1) = ((b % (i + 1) : Nat) : Int) := by rw [Int.tmod_eq_emod_of_nonneg (Int.natCast_nonneg b)]; exact h4
  have h6 := Nat.mod_lt b (show 0 < i + 1 from Nat.succ_pos i)
  exact ⟨b % (i + 1), h1, h2, by omega, h3, h4, h5, h6, by omega, by omega⟩
theorem low_facts (i D b N : Nat) (hi : i < N) (hN : N ≤ 5) (hb : (b : Int) < 256) (hD : D ≤ i) : ∃ M q j : Nat, IntKind.i64.wrap ((i : Int) - D + 1) = (M : Int) ∧ ¬ (M : Int) = 0 ∧ IntKind.i64.wrap (b : Int) = b ∧ (b : Int) % (M : Int) = (q : Int) ∧ (b : Int).tmod (M : Int) = (q : Int) ∧ IntKind.i64.wrap ((D : Int) + (q : Int)) = (j : Int) ∧ j < i + 1 ∧ (i < D ↔ j < D) ∧ j < N ∧ (j : Int) < N := by
  have h1 : IntKind.i64.wrap ((i : Int) - D + 1) = ((i - D + 1 : Nat) : Int) := by rw [IntWalk.i64_in _ ⟨by omega, by omega⟩]; omega
  have h3 : IntKind.i64.wrap (b : Int) = b := IntWalk.i64_in _ ⟨by omega, by omega⟩
  obtain ⟨M, hM⟩ : ∃ M : Nat, M = i - D + 1 := ⟨_, rfl⟩
  rw [← hM] at h1
  have hMp : 0 < M := by omega
  have h4 : (b : Int) % (M : Int) = ((b % M : Nat) : Int) := by exact_mod_cast rfl
  have h5 : (b : Int).tmod (M : Int) = ((b % M : Nat) : Int) := by rw [Int.tmod_eq_emod_of_nonneg (Int.natCast_nonneg b)]; exact h4
  have h6 := Nat.mod_lt b hMp
  generalize b % M = q at *
  exact ⟨M, q, D + q, h1, by omega, h3, h4, h5, by rw [IntWalk.i64_in _ ⟨by omega, by omega⟩]; omega, by omega, by omega, by omega, by omega⟩
theorem low0_facts (i D b N : Nat) (hi : i < N) (hN : N ≤ 5) (hb : (b : Int) < 256) (hD : ¬ D ≤ i) : ∃ M j : Nat, IntKind.i64.wrap ((i : Int) + 1) = (M : Int) ∧ ¬ (M : Int) = 0 ∧ IntKind.i64.wrap (b : Int) = b ∧ (b : Int) % (M : Int) = (j : Int) ∧ (b : Int).tmod (M : Int) = (j : Int) ∧ IntKind.i64.wrap (j : Int) = (j : Int) ∧ j < i + 1 ∧ (i < D ↔ j < D) ∧ j < N ∧ (j : Int) < N := by
  have h1 : IntKind.i64.wrap ((i : Int) + 1) = ((i + 1 : Nat) : Int) := by rw [IntWalk.i64_in _ ⟨by omega, by omega⟩]; omega
  have h3 : IntKind.i64.wrap (b : Int) = b := IntWalk.i64_in _ ⟨by omega, by omega⟩
  obtain ⟨M, hM⟩ : ∃ M : Nat, M = i + 1 := ⟨_, rfl⟩
  rw [← hM] at h1
  have hMp : 0 < M := by omega
  have h4 : (b : Int) % (M : Int) = ((b % M : Nat) : Int) := by exact_mod_cast rfl
  have h5 : (b : Int).tmod (M : Int) = ((b % M : Nat) : Int) := by rw [Int.tmod_eq_emod_of_nonneg (Int.natCast_nonneg b)]; exact h4
  have h6 := Nat.mod_lt b hMp
  generalize b % M = q at *
  exact ⟨M, q, h1, by omega, h3, h4, h5, by rw [IntWalk.i64_in _ ⟨by omega, by omega⟩], by omega, by omega, by omega, by omega⟩
theorem rz_lst {w : World} {B n c : Nat} {l : Option Addr} {zss : List (List Int)} (h : RowZ w B (.slice l n c) zss) (hz : zss.length = n) : n ≤ c ∧ c ≤ 9223372036854775807 ∧ LstC w l zss := by
  obtain ⟨l', c', e, h1, h2, h3⟩ := h.lists
  subst hz
  simp only [Value.slice.injEq, true_and] at e
  obtain ⟨rfl, rfl⟩ := e
  exact ⟨h1, h2, h3⟩
set_option maxRecDepth 100000 in
set_option maxHeartbeats 16000000 in
theorem law12_any (st ca wd : Nat) (by_ nb db : Nat → Int) (hst : st < 256) (hca : ca < 256) (hwd : wd < 256) (hby : ∀ i, i < 5 → 0 ≤ by_ i ∧ by_ i < 256) (hnb : ∀ i, i < 5 → 0 ≤ nb i ∧ nb i < 256) (hdb : ∀ i, i < 5 → 0 ≤ db i ∧ db i < 256) (w : World) :
    Calls Try.prog 12 #[rotaV st ca by_, fiveV nb, fiveV db, .int .u8 wd] w fun e w' => e = .returned (.bool true) ∧ Fut w w' := by
  obtain ⟨i0, hi0, hz0, hz1, hz2⟩ := info_parts info3
  obtain ⟨i1, hi1, hy0, hy1, hy2⟩ := info_parts info28
  have HMD := Lib.hid (fun W => made_any 5 (by omega) (by omega) st ca by_ hst hca hby W)
  have hN1 : madN 5 st ≤ 5 := by have := Nat.mod_lt st (show 0 < 5 by omega); show 1 + st % 5 ≤ 5; omega
  have hNd : 1 ≤ madN 5 st := by show 1 ≤ 1 + st % 5; omega
  have hPl : Plan (madN 5 st) (madP 5 st ca by_) := madL_plan _ _ _ (by have := Nat.mod_lt ca (show 0 < madN 5 st + 1 by omega); omega)
  generalize madN 5 st = N at *
  generalize madP 5 st ca by_ = P at *
  have hpl := hPl.len
  have HP := Lib.hid hPl
  have hnx : (N : Int) ≤ 5 := by omega
  have hn1x : (1 : Int) ≤ N := by omega
  have hpx : (P.length : Int) ≤ 5 := by omega
  have hW1 : wrap64 ((N : Int) + 1) = (N : Int) + 1 := w64_in (by omega) (by omega)
  have hW2 : IntKind.i64.wrap ((N : Int) + 1) = (N : Int) + 1 := IntWalk.i64_in _ ⟨by omega, by omega⟩
  have hW5 : ¬ (N : Int) + 1 = 0 := by omega
  have hW6 : IntKind.i64.wrap (wd : Int) = wd := IntWalk.i64_in _ ⟨by omega, by omega⟩
  have hW3 : (wd : Int) % ((N : Int) + 1) = ((wd % (N + 1) : Nat) : Int) := by exact_mod_cast rfl
  have hW4 : (wd : Int).tmod ((N : Int) + 1) = ((wd % (N + 1) : Nat) : Int) := by rw [Int.tmod_eq_emod_of_nonneg (Int.natCast_nonneg wd)]; exact hW3
  have hWl := Nat.mod_lt wd (show 0 < N + 1 by omega)
  generalize wd % (N + 1) = D at *
  have hDN : D ≤ N := by omega
  have hDx : (D : Int) ≤ N := by omega
  have HCY := Lib.hid hnb
  have HDY := Lib.hid hdb
  have hA : Fut w (w.alloc (.cells #[.int .u8 st, .int .u8 ca, .int .u8 (by_ 0), .int .u8 (by_ 1), .int .u8 (by_ 2), .int .u8 (by_ 3), .int .u8 (by_ 4)] 42)) := Fut.alloc _ _
  have hC0 := BoxFv.new (w.alloc (.cells #[.int .u8 st, .int .u8 ca, .int .u8 (by_ 0), .int .u8 (by_ 1), .int .u8 (by_ 2), .int .u8 (by_ 3), .int .u8 (by_ 4)] 42)) nb
  have hD0 := BoxFv.new ((w.alloc (.cells #[.int .u8 st, .int .u8 ca, .int .u8 (by_ 0), .int .u8 (by_ 1), .int .u8 (by_ 2), .int .u8 (by_ 3), .int .u8 (by_ 4)] 42)).alloc (.cells #[.int .u8 (nb 0), .int .u8 (nb 1), .int .u8 (nb 2), .int .u8 (nb 3), .int .u8 (nb 4)] 40)) db
  rw [World.size_alloc] at hC0
  rw [World.size_alloc, World.size_alloc] at hD0
  have HDX := Lib.hid hD0
  have HCX := Lib.hid (hC0.fut (Fut.alloc _ (.cells #[.int .u8 (db 0), .int .u8 (db 1), .int .u8 (db 2), .int .u8 (db 3), .int .u8 (db 4)] 40)))
  have HF1 : Hid (Fut w (((w.alloc (.cells #[.int .u8 st, .int .u8 ca, .int .u8 (by_ 0), .int .u8 (by_ 1), .int .u8 (by_ 2), .int .u8 (by_ 3), .int .u8 (by_ 4)] 42)).alloc (.cells #[.int .u8 (nb 0), .int .u8 (nb 1), .int .u8 (nb 2), .int .u8 (nb 3), .int .u8 (nb 4)] 40)).alloc (.cells #[.int .u8 (db 0), .int .u8 (db 1), .int .u8 (db 2), .int .u8 (db 3), .int .u8 (db 4)] 40))) := Lib.hid ((hA.trans (Fut.alloc _ _)).trans (Fut.alloc _ _))
  clear hst hca hwd hby hnb hdb hA hC0 hD0 hPl hWl
  go_enter Try.func12, Try.ntmps12
  go_wp2_with fail
  refine (HMD.out _).mono ?_
  rintro _ w2 ⟨v, rfl, hO, F⟩
  generalize ((w.alloc (.cells #[.int .u8 st, .int .u8 ca, .int .u8 (by_ 0), .int .u8 (by_ 1), .int .u8 (by_ 2), .int .u8 (by_ 3), .int .u8 (by_ 4)] 42)).alloc (.cells #[.int .u8 (nb 0), .int .u8 (nb 1), .int .u8 (nb 2), .int .u8 (nb 3), .int .u8 (nb 4)] 40)).alloc (.cells #[.int .u8 (db 0), .int .u8 (db 1), .int .u8 (db 2), .int .u8 (db 3), .int .u8 (db 4)] 40) = w1 at *
  obtain ⟨la, lc, rfl, q1, q2, _⟩ := hO.listsC
  have HO2 := Lib.hid hO
  have HF2 := Lib.hid (HF1.out.trans F)
  have HCX2 := Lib.hid (HCX.out.fut F)
  have HDX2 := Lib.hid (HDX.out.fut F)
  have HQ := Lib.hid (show P.length ≤ lc ∧ lc ≤ 9223372036854775807 from ⟨q1, q2⟩)
  clear hO F HMD q1 q2 HCX HDX HF1
  have hmkr := mk_row N (by omega)
  have hm1 := made_own w2 N (by omega)
  have hm2 := made_own (w2.alloc (.cells (madeCells #[Value.int .i64 0] N) 3)) N (by omega)
  rw [World.size_alloc] at hm2
  have HM1 : Hid (Owns (((w2.alloc (.cells (madeCells #[Value.int .i64 0] N) 3)).alloc (.cells (madeCells #[Value.int .i64 0] N) 3)).drew) w2.heap.size (.slice (some ⟨w2.heap.size, 0, none⟩) N N) (oftL N [])) := Lib.hid (hm1.fut (below_drewN (Fut.alloc _ _) 1))
  have HM2 : Hid (Owns (((w2.alloc (.cells (madeCells #[Value.int .i64 0] N) 3)).alloc (.cells (madeCells #[Value.int .i64 0] N) 3)).drew) w2.heap.size (.slice (some ⟨w2.heap.size + 1, 0, none⟩) N N) (oftL N [])) := Lib.hid ((hm2.base (Nat.le_succ _)).fut (Fut.drewN _ 1))
  have HM3 : Hid (RowKit.Below w2.heap.size w2 (((w2.alloc (.cells (madeCells #[Value.int .i64 0] N) 3)).alloc (.cells (madeCells #[Value.int .i64 0] N) 3)).drew)) := Lib.hid (below_drewN ((Fut.alloc w2 _).trans (Fut.alloc _ _)) 1)
  clear hm1 hm2
  go_upto_region 4 with fail
  go_cut [15, 16] (fun s15 s16 wx => ∃ g1 g2, s15 = .slice (some ⟨g1, 0, none⟩) N N ∧ s16 = .slice (some ⟨g2, 0, none⟩) N N ∧ g1 ≠ g2 ∧ Hid (Owns wx w2.heap.size (.slice (some ⟨g1, 0, none⟩) N N) (oftL N [])) ∧ Hid (Owns wx w2.heap.size (.slice (some ⟨g2, 0, none⟩) N N) (oftL N [])) ∧ Hid (RowKit.Below w2.heap.size w2 wx))
  case first =>
    go_region
    all_goals
      go_wp2_with fail
      go_meet
    all_goals first
      | exact ⟨_, _, rfl, rfl, by omega, HM1, HM2, HM3⟩
      | exact ⟨_, _, rfl, rfl, by omega, HM2, HM1, HM3⟩
  case rest =>
    obtain ⟨g1, g2, rfl, rfl, hg12, HT0, HF0, HB0⟩ := hcut
    clear HM1 HM2 HM3 hmkr hW1 hW2 hW3 hW4 hW5 hW6
    go_wp2_with fail
    go_loopw [46] (fun iv wx => ∃ (i : Nat) (T F : List Int), i ≤ N ∧ iv = .int .i64 i ∧ Hid (PmL N i T) ∧ Hid (PmL N i F) ∧ Hid (WpL i D F) ∧ Hid (Owns wx w2.heap.size (.slice (some ⟨g1, 0, none⟩) N N) T) ∧ Hid (Owns wx w2.heap.size (.slice (some ⟨g2, 0, none⟩) N N) F) ∧ Hid (RowKit.Below w2.heap.size w2 wx)) (fun iv _ => N - (intOf iv).toNat)
    case atStart => exact ⟨0, oftL N [], oftL N [], Nat.zero_le _, rfl, Lib.hid (PmL.zero (oft_len _ _)), Lib.hid (PmL.zero (oft_len _ _)), Lib.hid (WpL.zero _ _), HT0, HF0, HB0⟩
    case round =>
      clear HT0 HF0 HB0
      obtain ⟨i, T, F, hiN, rfl, HPT, HPF, HWF, HOT, HOF, HBW⟩ := hrel
      by_cases hil : i < N
      · have hix : (i : Int) < N := by omega
        have hi5 : (i : Int) < 5 := by omega
        have hi5n : i < 5 := by omega
        have hTl := HPT.out.len
        have hFl := HPF.out.len
        obtain ⟨c1, f1, b1⟩ := own_at HOT.out hTl i hil
        obtain ⟨c2, f2, b2⟩ := own_at HOF.out hFl i hil
        have hT1 := own_set HOT.out hTl i (i : Int)
        have hF1 := own_other HOF.out HOT.out hTl hg12.symm i (.int .i64 i)
        have hF2 := own_set hF1 hFl i (i : Int)
        have hT2 := own_other hT1 hF1 hFl hg12 i (.int .i64 i)
        have HT2 := Lib.hid hT2
        have HF2' := Lib.hid hF2
        have HPT1 := Lib.hid (HPT.out.put hil)
        have HPF1 := Lib.hid (HPF.out.put hil)
        have HWF1 := Lib.hid (HWF.out.put (by omega))
        have hgb1 := ((World.ownsRow.lt HOT.out g1 rfl).1 : w2.heap.size ≤ g1)
        have hgb2 := ((World.ownsRow.lt HOF.out g2 rfl).1 : w2.heap.size ≤ g2)
        have HB1 : Hid (RowKit.Below w2.heap.size w2 ((wr.setCell ⟨g1, i, none⟩ (.int .i64 i)).setCell ⟨g2, i, none⟩ (.int .i64 i))) := Lib.hid ((HBW.out.setCell (p := ⟨g1, i, none⟩) hgb1 _).setCell (p := ⟨g2, i, none⟩) hgb2 _)
        have hg21 : ¬ g2 = g1 := fun q => hg12 q.symm
        clear hT1 hF1 hF2 hT2 HPT HPF HWF HOT HOF HBW
        generalize T.set i (i : Int) = T1 at *
        generalize F.set i (i : Int) = F1 at *
        go_upto_region 9 with fail
        generalize (wr.setCell ⟨g1, i, none⟩ (.int .i64 i)).setCell ⟨g2, i, none⟩ (.int .i64 i) = wA at *
        clear c1 c2 f1 f2 b1 b2 hTl hFl
        have hTl := HPT1.out.len
        have hFl := HPF1.out.len
        obtain ⟨b, hb⟩ := Int.eq_ofNat_of_zero_le (HCY.out i hi5n).1
        have hb256 := (HCY.out i hi5n).2
        have hbc := (HCX2.out.fut HB1.out).b i hi5n
        rw [hb] at hbc hb256
        obtain ⟨j, a1, a2, a3, a4, a5, a6, hjl, hjn, hjx⟩ := md_facts i b N hil hN1 hb256
        have HA := Lib.hid (And.intro a1 (And.intro a2 (And.intro a3 (And.intro a4 (And.intro a5 a6)))))
        clear hb a1 a2 a3 a4 a5 a6
        obtain ⟨c1, f1, _⟩ := own_at HT2.out hTl i hil
        obtain ⟨c2, f2, _⟩ := own_at HT2.out hTl j hjn
        have HT3 := Lib.hid (own_swL HT2.out hTl i j)
        have HF3 := Lib.hid (own_other (own_other HF2'.out HT2.out hTl hg12.symm i (.int .i64 (nth T1 j))) (own_set HT2.out hTl i (nth T1 j)) (by rw [List.length_set]; exact hTl) hg12.symm j (.int .i64 (nth T1 i)))
        have HB3 : Hid (RowKit.Below w2.heap.size w2 ((wA.setCell ⟨g1, i, none⟩ (.int .i64 (nth T1 j))).setCell ⟨g1, j, none⟩ (.int .i64 (nth T1 i)))) := Lib.hid ((HB1.out.setCell (p := ⟨g1, i, none⟩) hgb1 _).setCell (p := ⟨g1, j, none⟩) hgb1 _)
        have HPT2 := Lib.hid (HPT1.out.swap (i := i) (k := j) (by omega) (by omega) (by omega))
        obtain ⟨hw2, hw2', hfz, hwb, hrm, hrt⟩ := HA.out
        go_upto_region 10 with fail
        clear hw2 hw2' hfz hwb hrm hrt HA
        go_cut [] (fun wx => Hid (Owns wx w2.heap.size (.slice (some ⟨g1, 0, none⟩) N N) (swL T1 i j)) ∧ Hid (Owns wx w2.heap.size (.slice (some ⟨g2, 0, none⟩) N N) F1) ∧ Hid (RowKit.Below w2.heap.size w2 wx))
        case first =>
          by_cases hij : i = j
          · subst hij
            go_region
            all_goals
              go_wp2_with fail
              go_meet
            all_goals exact ⟨Lib.hid (HT3.out.fut (Fut.drewN _ 1)), Lib.hid (HF3.out.fut (Fut.drewN _ 1)), Lib.hid (below_drewN HB3.out 1)⟩
          · have hji : ¬ j = i := fun q => hij q.symm
            generalize nth T1 i = y1 at *
            generalize nth T1 j = y2 at *
            go_region
            all_goals
              go_wp2_with fail
              go_meet
            all_goals exact ⟨Lib.hid (HT3.out.fut (Fut.drewN _ 1)), Lib.hid (HF3.out.fut (Fut.drewN _ 1)), Lib.hid (below_drewN HB3.out 1)⟩
        case rest =>
          obtain ⟨HT4, HF4, HB4⟩ := hcut
          clear HT3 HF3 HB3 HT2 HF2' HB1 c1 c2 f1 f2 hbc hb256 HPT1 hTl
          generalize swL T1 i j = T2 at *
          clear hjl hjn hjx
          have hswp : ∀ (k : Nat), k < i + 1 → (i < D ↔ k < D) → Hid (PmL N (i + 1) (swL F1 i k) ∧ WpL (i + 1) D (swL F1 i k)) := fun k hk hs => Lib.hid ⟨HPF1.out.swap (by omega) (by omega) hk, HWF1.out.swap (by omega) hk (by omega) (by omega) hs⟩
          have HSWP := Lib.hid hswp
          clear hswp HWF1 HPF1
          by_cases hid : D ≤ i
          · have hbr : (D : Int) ≤ i := by omega
            obtain ⟨b, hb⟩ := Int.eq_ofNat_of_zero_le (HDY.out i hi5n).1
            have hb256 := (HDY.out i hi5n).2
            have hbc := (HDX2.out.fut HB4.out).b i hi5n
            rw [hb] at hbc hb256
            obtain ⟨M, q, j, a1, a2, a3, a4, a5, a6, hji1, hiff, hjn, hjx⟩ := low_facts i D b N hil hN1 hb256 hid
            have HA := Lib.hid (And.intro a1 (And.intro a2 (And.intro a3 (And.intro a4 (And.intro a5 a6)))))
            clear a1 a2 a3 a4 a5 a6
            have HPW := Lib.hid (HSWP.out j hji1 hiff).out
            clear hb hiff
            obtain ⟨c1, f1, _⟩ := own_at HF4.out hFl i hil
            obtain ⟨c2, f2, _⟩ := own_at HF4.out hFl j hjn
            have HF5 := Lib.hid (own_swL HF4.out hFl i j)
            have HT5 := Lib.hid (own_other (own_other HT4.out HF4.out hFl hg12 i (.int .i64 (nth F1 j))) (own_set HF4.out hFl i (nth F1 j)) (by rw [List.length_set]; exact hFl) hg12 j (.int .i64 (nth F1 i)))
            have HB5 : Hid (RowKit.Below w2.heap.size w2 ((wc.setCell ⟨g2, i, none⟩ (.int .i64 (nth F1 j))).setCell ⟨g2, j, none⟩ (.int .i64 (nth F1 i)))) := Lib.hid ((HB4.out.setCell (p := ⟨g2, i, none⟩) hgb2 _).setCell (p := ⟨g2, j, none⟩) hgb2 _)
            clear HSWP
            obtain ⟨hw2, hfz, hwb, hrm, hrt, hw3⟩ := HA.out
            go_upto_region 15 with fail
            clear hw2 hfz hwb hrm hrt hw3 HA hbc hb256
            by_cases hij : i = j
            · subst hij
              go_region
              all_goals
                go_wp2_with fail
                go_roundw
              all_goals first
                | exact ⟨i + 1, T2, _, by omega, by go_num, HPT2, Lib.hid HPW.out.1, Lib.hid HPW.out.2, Lib.hid (HT5.out.fut (Fut.drewN _ 1)), Lib.hid (HF5.out.fut (Fut.drewN _ 1)), Lib.hid (below_drewN HB5.out 1)⟩
                | (simp [intOf]; omega)
            · have hji : ¬ j = i := fun q => hij q.symm
              generalize hy1 : nth F1 i = y1 at *
              generalize hy2 : nth F1 j = y2 at *
              clear hy1 hy2
              go_region
              all_goals
                go_wp2_with fail
                go_roundw
              all_goals first
                | exact ⟨i + 1, T2, _, by omega, by go_num, HPT2, Lib.hid HPW.out.1, Lib.hid HPW.out.2, Lib.hid (HT5.out.fut (Fut.drewN _ 1)), Lib.hid (HF5.out.fut (Fut.drewN _ 1)), Lib.hid (below_drewN HB5.out 1)⟩
                | (simp [intOf]; omega)
          · have hbr : ¬ (D : Int) ≤ i := by omega
            obtain ⟨b, hb⟩ := Int.eq_ofNat_of_zero_le (HDY.out i hi5n).1
            have hb256 := (HDY.out i hi5n).2
            have hbc := (HDX2.out.fut HB4.out).b i hi5n
            rw [hb] at hbc hb256
            obtain ⟨M, j, a1, a2, a3, a4, a5, a6, hji1, hiff, hjn, hjx⟩ := low0_facts i D b N hil hN1 hb256 hid
            have HA := Lib.hid (And.intro a1 (And.intro a2 (And.intro a3 (And.intro a4 (And.intro a5 a6)))))
            clear a1 a2 a3 a4 a5 a6
            have HPW := Lib.hid (HSWP.out j hji1 hiff).out
            clear hb hiff
            obtain ⟨c1, f1, _⟩ := own_at HF4.out hFl i hil
            obtain ⟨c2, f2, _⟩ := own_at HF4.out hFl j hjn
            have HF5 := Lib.hid (own_swL HF4.out hFl i j)
            have HT5 := Lib.hid (own_other (own_other HT4.out HF4.out hFl hg12 i (.int .i64 (nth F1 j))) (own_set HF4.out hFl i (nth F1 j)) (by rw [List.length_set]; exact hFl) hg12 j (.int .i64 (nth F1 i)))
            have HB5 : Hid (RowKit.Below w2.heap.size w2 ((wc.setCell ⟨g2, i, none⟩ (.int .i64 (nth F1 j))).setCell ⟨g2, j, none⟩ (.int .i64 (nth F1 i)))) := Lib.hid ((HB4.out.setCell (p := ⟨g2, i, none⟩) hgb2 _).setCell (p := ⟨g2, j, none⟩) hgb2 _)
            clear HSWP
            obtain ⟨hw2, hfz, hwb, hrm, hrt, hw3⟩ := HA.out
            go_upto_region 15 with fail
            clear hw2 hfz hwb hrm hrt hw3 HA hbc hb256
            by_cases hij : i = j
            · subst hij
              go_region
              all_goals
                go_wp2_with fail
                go_roundw
              all_goals first
                | exact ⟨i + 1, T2, _, by omega, by go_num, HPT2, Lib.hid HPW.out.1, Lib.hid HPW.out.2, Lib.hid (HT5.out.fut (Fut.drewN _ 1)), Lib.hid (HF5.out.fut (Fut.drewN _ 1)), Lib.hid (below_drewN HB5.out 1)⟩
                | (simp [intOf]; omega)
            · have hji : ¬ j = i := fun q => hij q.symm
              generalize hy1 : nth F1 i = y1 at *
              generalize hy2 : nth F1 j = y2 at *
              clear hy1 hy2
              go_region
              all_goals
                go_wp2_with fail
                go_roundw
              all_goals first
                | exact ⟨i + 1, T2, _, by omega, by go_num, HPT2, Lib.hid HPW.out.1, Lib.hid HPW.out.2, Lib.hid (HT5.out.fut (Fut.drewN _ 1)), Lib.hid (HF5.out.fut (Fut.drewN _ 1)), Lib.hid (below_drewN HB5.out 1)⟩
                | (simp [intOf]; omega)
      · obtain rfl : i = N := by omega
        have hTl := HPT.out.len
        have hFl := HPF.out.len
        obtain ⟨wz, hwz⟩ : ∃ wz, wz = wr := ⟨_, rfl⟩
        subst hwz
        have HFZ : Hid (Fut w2 wz) := HBW
        have HOP := Lib.hid (HO2.out.fut HFZ.out)
        have HW0 := Lib.hid (HF2.out.trans HFZ.out)
        clear HBW HO2 HF2 HFZ HCX2 HDX2 HCY HDY HWF
        go_wp2_with fail
        go_loopw [12, 13, 14, 110] (fun vo vc vt rv wx => ∃ (r : Nat) (xo xc xt : List Value), r ≤ P.length ∧ rv = .int .i64 r ∧ (∃ l c, vo = .slice l r c) ∧ (∃ l c, vc = .slice l r c) ∧ (∃ l c, vt = .slice l r c) ∧ Hid (Th wx wz.heap.size vo vc vt xo xc xt ((P.take r).map (nmR T F)) ((P.take r).map (List.take D)) (((P.take r).map (nmR T F)).map (List.take D))) ∧ Hid (Fut wz wx)) (fun _ _ _ rv _ => P.length - (intOf rv).toNat)
        case atStart => exact ⟨0, [], [], [], Nat.zero_le _, rfl, ⟨none, 0, rfl⟩, ⟨none, 0, rfl⟩, ⟨none, 0, rfl⟩, Lib.hid (Th.nil _ _), Lib.hid Fut.rfl⟩
        case round =>
          obtain ⟨r, xo, xc, xt, hrR, rfl, ⟨lo, co, rfl⟩, ⟨lcc, ccc, rfl⟩, ⟨lt, ctc, rfl⟩, HTH, HFX⟩ := hrel
          by_cases hrl : r < P.length
          · have hrx : (r : Int) < P.length := by omega
            obtain ⟨gP, cP, l, lcap, eP, hgP, hcP, hOP⟩ := HOP.out.at r hrl
            simp only [Value.slice.injEq, true_and] at eP
            obtain ⟨rfl, rfl⟩ := eP
            have hrow := HP.out.row r hrl
            have hlen := ord_len hrow
            have hTK : P.take (r + 1) = P.take r ++ [lth P r] := by
              rw [List.take_succ_eq_append_getElem hrl, lth_eq, List.getElem?_eq_getElem hrl]; rfl
            have HTK := Lib.hid hTK
            have htl : (P.take r).length = r := by rw [List.length_take]; omega
            have HTKL := Lib.hid htl
            have hIN : ∀ k, k < i → 0 ≤ nth (lth P r) k ∧ nth (lth P r) k < i := fun k hk => ord_in hrow hk
            have HIN := Lib.hid hIN
            rw [hlen] at hcP
            have HOPr := Lib.hid hOP
            have HLEN := Lib.hid hlen
            clear hTK htl hIN hrow hOP hlen
            generalize lth P r = row at *
            obtain ⟨gl, e1, hgl⟩ : ∃ gl, l = some ⟨gl, 0, none⟩ ∧ i ≤ lcap := by
              rcases HOPr.out.2 with ⟨e, h0⟩ | ⟨gl, cap', cur, e, _, _, hnc, _⟩
              · have := HLEN.out; omega
              · injection e with e1 e2 e3
                exact ⟨gl, e1, by have := HLEN.out; omega⟩
            subst e1
            have hcP2 : wr.cell? ⟨gP, r, none⟩ = some (.slice (some ⟨gl, 0, none⟩) i lcap) := (RowKit.Below.cell HFX.out (p := ⟨gP, r, none⟩) hgP).trans hcP
            obtain ⟨wo, hwo⟩ : ∃ wo, wo = wr := ⟨_, rfl⟩
            subst hwo
            go_wp2_with fail
            go_loopw [22, 116] (fun ov dv wx => ∃ d : Nat, d ≤ i ∧ dv = .int .i64 d ∧ Hid (Owns wx wo.heap.size ov ((F.take d).map fun e => nth T (nth row e.toNat).toNat)) ∧ Hid (Fut wo wx)) (fun _ dv _ => i - (intOf dv).toNat)
            case atStart => exact ⟨0, Nat.zero_le _, rfl, Lib.hid (World.ownsRow_nil _ _ _ _), Lib.hid Fut.rfl⟩
            case round =>
              obtain ⟨d, hdN, rfl, HOD, HFD⟩ := hrel
              by_cases hdl : d < i
              · have hdx : (d : Int) < i := by omega
                have hFd := HPF.out.rng d hdl
                obtain ⟨e, he⟩ := Int.eq_ofNat_of_zero_le hFd.1
                have hei : e < i := by omega
                have hex : (e : Int) < i := by omega
                have hRd := HIN.out e hei
                obtain ⟨s, hs⟩ := Int.eq_ofNat_of_zero_le hRd.1
                have hsi : s < i := by omega
                have hsx : (s : Int) < i := by omega
                have hFwz := HFX.out.trans HFD.out
                obtain ⟨c1, _, _⟩ := own_at (HOF.out.fut hFwz) hFl d hdl
                obtain ⟨a', c', e', hI⟩ := (HOPr.out.fut hFwz).ints
                simp only [Value.slice.injEq, true_and] at e'
                obtain ⟨rfl, rfl⟩ := e'
                obtain ⟨b2, o2, e2, _, c2⟩ := hI e (by have := HLEN.out; omega)
                simp only [Option.some.injEq, Addr.mk.injEq, and_true] at e2
                obtain ⟨rfl, rfl⟩ := e2
                rw [Nat.zero_add] at c2
                obtain ⟨c3, _, _⟩ := own_at (HOT.out.fut hFwz) hTl s hsi
                have HNX : Hid ((F.take (d + 1)).map (fun e => nth T (nth row e.toNat).toNat) = (F.take d).map (fun e => nth T (nth row e.toNat).toNat) ++ [nth T s]) := Lib.hid (by
                  rw [List.take_succ_eq_append_getElem (by omega), List.map_append]
                  have : F[d]'(by omega) = (e : Int) := by
                    have h5 := he
                    rw [nth_eq, List.getElem?_eq_getElem (by omega)] at h5
                    exact h5
                  rw [this]
                  simp [hs])
                have HLN : Hid (((F.take d).map (fun e => nth T (nth row e.toNat).toNat)).length = d) := Lib.hid (by rw [List.length_map, List.length_take]; omega)
                rw [he] at c1
                rw [hs] at c2
                clear hI hFd hRd he hs hFwz
                generalize (F.take d).map (fun e => nth T (nth row e.toNat).toNat) = acc at *
                generalize nth T s = tv at *
                obtain ⟨oa, ocp, eov, _⟩ := HOD.out.ints
                rw [HLN.out] at eov
                subst eov
                have HOD2 := Lib.hid (HOD.out.fut (Fut.alloc wr (.cells #[.int .i64 tv] 3)))
                have HBD : Hid (wo.heap.size ≤ (wr.alloc (.cells #[.int .i64 tv] 3)).heap.size) := Lib.hid (RowKit.Below.size (HFD.out.trans (Fut.alloc _ _)))
                have hrow2 : (wr.alloc (.cells #[.int .i64 tv] 3)).ownsRow wo.heap.size 3 1 (.slice oa d ocp) d (acc.map (Value.int .i64)) := by
                  have h5 := HOD2.out
                  unfold Owns at h5
                  rwa [HLN.out] at h5
                have HR2 := Lib.hid hrow2
                clear hrow2
                go_wp2_with (at_builtin; refine wpList_append_lies _ rfl _ _ 28 rfl wo.heap.size 3 i0 (.int .i64 0) 1 8 Try.underlying28 hi0 hz0 hz1 hz2 rfl (by decide) _ d (acc.map (.int .i64)) rfl HR2.out ⟨wr.heap.size, 0, none⟩ 1 1 [.int .i64 tv] rfl rfl (cell_one (by simp [go_sem])) (by simp [Value.oneCell']) (by omega) (by unfold maxLen; omega) (by omega) HBD.out _ rfl ?_)
                intro g8 c8 w8 hown8 hgrow8 _ _
                have HO8 : Hid (Owns w8 wo.heap.size (.slice (some ⟨g8, 0, none⟩) (d + 1) c8) (acc ++ [tv])) := Lib.hid (by
                  unfold Owns
                  rw [List.length_append, List.length_singleton, HLN.out, List.map_append]
                  exact hown8)
                have HF8 : Hid (Fut wo w8) := Lib.hid (RowKit.Below.grown (HFD.out.trans (Fut.alloc wr (.cells #[.int .i64 tv] 3))) hgrow8 HBD.out fun q hq => (World.ownsRow.lt HR2.out q hq).1)
                clear hown8 hgrow8 c1 c2 c3
                go_wp2
                go_round
                case rel => exact ⟨d + 1, by omega, by go_num, by rw [HNX.out]; exact HO8, HF8⟩
                case measure => simp [intOf]; omega
              · obtain rfl : d = i := by omega
                have HZO : Hid ((P.take (r + 1)).map (nmR T F) = (P.take r).map (nmR T F) ++ [nmR T F row]) := Lib.hid (by rw [HTK.out, List.map_append]; rfl)
                have HZC : Hid ((P.take (r + 1)).map (List.take D) = (P.take r).map (List.take D) ++ [row.take D]) := Lib.hid (by rw [HTK.out, List.map_append]; rfl)
                have HZT : Hid (((P.take (r + 1)).map (nmR T F)).map (List.take D) = ((P.take r).map (nmR T F)).map (List.take D) ++ [(nmR T F row).take D]) := Lib.hid (by rw [HTK.out, List.map_append, List.map_append]; rfl)
                have HLO : Hid (((P.take r).map (nmR T F)).length = r) := Lib.hid (by rw [List.length_map]; exact HTKL.out)
                have HLC : Hid (((P.take r).map (List.take D)).length = r) := Lib.hid (by rw [List.length_map]; exact HTKL.out)
                have HLT : Hid ((((P.take r).map (nmR T F)).map (List.take D)).length = r) := Lib.hid (by rw [List.length_map, List.length_map]; exact HTKL.out)
                have hon := HOD.out
                rw [List.take_of_length_le (Nat.le_of_eq hFl)] at hon
                rw [show F.map (fun e => nth T (nth row e.toNat).toNat) = nmR T F row from rfl] at hon
                have hol : (nmR T F row).length = d := by rw [nmR_len, hFl]
                have HOL := Lib.hid hol
                obtain ⟨go, ocap, rfl, hoc, hO0⟩ := own_form hon hol hNd
                have HOW := Lib.hid hO0
                have HTH2 := Lib.hid (HTH.out.fut HFD.out)
                have HF7 := Lib.hid (HFX.out.trans HFD.out)
                have HOPW := Lib.hid (Owns.fut (HOPr.out.base (Nat.zero_le _)) HF7.out)
                have HCL : Hid (D ≤ row.length ∧ row.length ≤ 1000) := Lib.hid ⟨by have := HLEN.out; omega, by have := HLEN.out; omega⟩
                have HOLB : Hid (D ≤ (nmR T F row).length ∧ (nmR T F row).length ≤ 1000) := Lib.hid ⟨by omega, by omega⟩
                have hDl : (D : Int) ≤ lcap := by omega
                have hDo : (D : Int) ≤ ocap := by omega
                have hmx1 : r + 1 ≤ 9223372036854775807 := by omega
                have hmx2 : (r + 1) * 24 ≤ 140737488355328 := by omega
                clear hon hol hoc hO0 HOD HTH HFD HOPr
                generalize nmR T F row = orow at *
                generalize (P.take r).map (nmR T F) = zo at *
                generalize (P.take r).map (List.take D) = zc at *
                generalize zo.map (List.take D) = zt at *
                have HS7 : Hid (wz.heap.size ≤ (wr.alloc (.cells #[.slice (some ⟨go, 0, none⟩) d ocap] 28)).heap.size) := Lib.hid (RowKit.Below.size (HF7.out.trans (Fut.alloc _ _)))
                go_wp2_with (at_builtin; refine wpList_append_lies _ rfl _ _ 22 rfl wz.heap.size 28 i1 (.slice none 0 0) 1 24 Try.underlying22 hi1 hy0 hy1 hy2 rfl (by decide) _ r xo rfl ((HTH2.out.fut (Fut.alloc _ _)).rowO HLO.out) ⟨wr.heap.size, 0, none⟩ 1 1 [.slice (some ⟨go, 0, none⟩) d ocap] rfl rfl (cell_one (by simp [go_sem])) (by simp [Value.oneCell']) (by omega) (by unfold maxLen; exact hmx1) hmx2 HS7.out _ rfl ?_)
                intro g8 c8 w8 hown8 hgrow8 hat8 _
                have HT8 : Hid (Th w8 wz.heap.size (.slice (some ⟨g8, 0, none⟩) (r + 1) c8) (.slice lcc r ccc) (.slice lt r ctc) (xo ++ [.slice (some ⟨go, 0, none⟩) d ocap]) xc xt (zo ++ [orow]) zc zt) := Lib.hid ((HTH2.out.fut (Fut.alloc _ _)).addO HLO.out (by have h5 := cut_whole (Owns.fut HOW.out (Fut.alloc wr (.cells #[.slice (some ⟨go, 0, none⟩) d ocap] 28))); rwa [HOL.out] at h5) hown8 hgrow8 (by rw [World.size_alloc]; exact hat8))
                have HF8 : Hid (Fut wz w8) := Lib.hid (RowKit.Below.grown (HF7.out.trans (Fut.alloc wr (.cells #[.slice (some ⟨go, 0, none⟩) d ocap] 28))) hgrow8 HS7.out fun q hq => (World.ownsRow.lt (HTH2.out.rowO HLO.out) q hq).1)
                have HOW8 : Hid (Owns w8 0 (.slice (some ⟨go, 0, none⟩) orow.length ocap) orow) := Lib.hid (World.ownsRow.kept (Owns.fut HOW.out (Fut.alloc wr (.cells #[.slice (some ⟨go, 0, none⟩) d ocap] 28))) hgrow8 (own_apart (Owns.fut HOW.out (Fut.alloc wr (.cells #[.slice (some ⟨go, 0, none⟩) d ocap] 28))) ((HTH2.out.fut (Fut.alloc wr (.cells #[.slice (some ⟨go, 0, none⟩) d ocap] 28))).rowO HLO.out)))
                have HOP8 : Hid (Owns w8 0 (.slice (some ⟨gl, 0, none⟩) row.length lcap) row) := Lib.hid (World.ownsRow.kept (Owns.fut HOPW.out (Fut.alloc wr (.cells #[.slice (some ⟨go, 0, none⟩) d ocap] 28))) hgrow8 (own_apart (Owns.fut HOPW.out (Fut.alloc wr (.cells #[.slice (some ⟨go, 0, none⟩) d ocap] 28))) ((HTH2.out.fut (Fut.alloc wr (.cells #[.slice (some ⟨go, 0, none⟩) d ocap] 28))).rowO HLO.out)))
                have HNB : Hid (∀ k, w8.heap.size ≤ k → some k ≠ (Value.slice lcc r ccc).ownBlock) := Lib.hid (fun k hk e => by have := (World.ownsRow.lt (HT8.out.rowC HLC.out) k e.symm).2; omega)
                clear hown8 hgrow8 hat8 HTH2 HF7 HOW HOPW HS7
                go_upto_region 27 with fail
                go_region_held3 (fun _ => True) (trivial)
                  (first
                    | (rw [if_pos (by rfl)]; refine wp_append_lies _ _ _ _ (by rfl) wz.heap.size 28 i1 (.slice none 0 0) 1 24 Try.underlying22 hi1 hy0 hy1 hy2 rfl (by decide) (.slice lcc r ccc) r xc (by rfl) ((HT8.out.fut (gu1 w8 (.cells #[.slice (some ⟨gl, 0, none⟩) D D] 28))).rowC HLC.out) ⟨w8.heap.size, 0, none⟩ 1 1 [.slice (some ⟨gl, 0, none⟩) D D] (by rfl) (by rfl) (cell_one (by1 w8 _)) (by simp [Value.oneCell']) (by decide) (by unfold maxLen; exact hmx1) hmx2 (Nat.le_trans (RowKit.Below.size HF8.out) (RowKit.Below.size (gu1 w8 (.cells #[.slice (some ⟨gl, 0, none⟩) D D] 28)))) _ rfl ?_; intro gc cc9 w9 hown9 hgrow9 hat9 _; have hT9 := (HT8.out.fut (gu1 w8 (.cells #[.slice (some ⟨gl, 0, none⟩) D D] 28))).addC HLC.out (cut_take (Owns.fut HOP8.out (gu1 w8 (.cells #[.slice (some ⟨gl, 0, none⟩) D D] 28))) HCL.out.1 HCL.out.2) hown9 hgrow9 hat9; have hF9 : Fut wz w9 := RowKit.Below.grown (HF8.out.trans (gu1 w8 (.cells #[.slice (some ⟨gl, 0, none⟩) D D] 28))) hgrow9 (RowKit.Below.size (HF8.out.trans (gu1 w8 (.cells #[.slice (some ⟨gl, 0, none⟩) D D] 28)))) (fun q hq => (World.ownsRow.lt ((HT8.out.fut (gu1 w8 (.cells #[.slice (some ⟨gl, 0, none⟩) D D] 28))).rowC HLC.out) q hq).1); have hO9 : Owns w9 0 (.slice (some ⟨go, 0, none⟩) orow.length ocap) orow := World.ownsRow.kept (Owns.fut HOW8.out (gu1 w8 (.cells #[.slice (some ⟨gl, 0, none⟩) D D] 28))) hgrow9 (own_apart (Owns.fut HOW8.out (gu1 w8 (.cells #[.slice (some ⟨gl, 0, none⟩) D D] 28))) ((HT8.out.fut (gu1 w8 (.cells #[.slice (some ⟨gl, 0, none⟩) D D] 28))).rowC HLC.out)))
                    | (rw [if_pos (by rfl)]; refine wp_append_lies _ _ _ _ (by rfl) wz.heap.size 28 i1 (.slice none 0 0) 1 24 Try.underlying22 hi1 hy0 hy1 hy2 rfl (by decide) (.slice lcc r ccc) r xc (by rfl) ((HT8.out.fut (gu2 w8 (.cells #[.slice (some ⟨gl, 0, none⟩) D D] 28) (.cells #[.slice (some ⟨go, 0, none⟩) D D] 28))).rowC HLC.out) ⟨w8.heap.size, 0, none⟩ 1 1 [.slice (some ⟨gl, 0, none⟩) D D] (by rfl) (by rfl) (cell_one (by2 w8 _ _)) (by simp [Value.oneCell']) (by decide) (by unfold maxLen; exact hmx1) hmx2 (Nat.le_trans (RowKit.Below.size HF8.out) (RowKit.Below.size (gu2 w8 (.cells #[.slice (some ⟨gl, 0, none⟩) D D] 28) (.cells #[.slice (some ⟨go, 0, none⟩) D D] 28)))) _ rfl ?_; intro gc cc9 w9 hown9 hgrow9 hat9 _; have hT9 := (HT8.out.fut (gu2 w8 (.cells #[.slice (some ⟨gl, 0, none⟩) D D] 28) (.cells #[.slice (some ⟨go, 0, none⟩) D D] 28))).addC HLC.out (cut_take (Owns.fut HOP8.out (gu2 w8 (.cells #[.slice (some ⟨gl, 0, none⟩) D D] 28) (.cells #[.slice (some ⟨go, 0, none⟩) D D] 28))) HCL.out.1 HCL.out.2) hown9 hgrow9 hat9; have hF9 : Fut wz w9 := RowKit.Below.grown (HF8.out.trans (gu2 w8 (.cells #[.slice (some ⟨gl, 0, none⟩) D D] 28) (.cells #[.slice (some ⟨go, 0, none⟩) D D] 28))) hgrow9 (RowKit.Below.size (HF8.out.trans (gu2 w8 (.cells #[.slice (some ⟨gl, 0, none⟩) D D] 28) (.cells #[.slice (some ⟨go, 0, none⟩) D D] 28)))) (fun q hq => (World.ownsRow.lt ((HT8.out.fut (gu2 w8 (.cells #[.slice (some ⟨gl, 0, none⟩) D D] 28) (.cells #[.slice (some ⟨go, 0, none⟩) D D] 28))).rowC HLC.out) q hq).1); have hO9 : Owns w9 0 (.slice (some ⟨go, 0, none⟩) orow.length ocap) orow := World.ownsRow.kept (Owns.fut HOW8.out (gu2 w8 (.cells #[.slice (some ⟨gl, 0, none⟩) D D] 28) (.cells #[.slice (some ⟨go, 0, none⟩) D D] 28))) hgrow9 (own_apart (Owns.fut HOW8.out (gu2 w8 (.cells #[.slice (some ⟨gl, 0, none⟩) D D] 28) (.cells #[.slice (some ⟨go, 0, none⟩) D D] 28))) ((HT8.out.fut (gu2 w8 (.cells #[.slice (some ⟨gl, 0, none⟩) D D] 28) (.cells #[.slice (some ⟨go, 0, none⟩) D D] 28))).rowC HLC.out)); have y2 : w9.cell? ⟨w8.heap.size + 1, 0, none⟩ = some (.slice (some ⟨go, 0, none⟩) D D) := hgrow9.cell (by3 w8 (.slice (some ⟨go, 0, none⟩) D D) (.cells #[.slice (some ⟨gl, 0, none⟩) D D] 28)) (HNB.out _ (by first | exact Nat.le_refl _ | exact Nat.le_succ _)))
                    | (rw [if_pos (by rfl)]; refine wp_append_lies _ _ _ _ (by rfl) wz.heap.size 28 i1 (.slice none 0 0) 1 24 Try.underlying22 hi1 hy0 hy1 hy2 rfl (by decide) (.slice lcc r ccc) r xc (by rfl) ((HT8.out.fut (gu2 w8 (.cells #[.slice (some ⟨go, 0, none⟩) D D] 28) (.cells #[.slice (some ⟨gl, 0, none⟩) D D] 28))).rowC HLC.out) ⟨w8.heap.size + 1, 0, none⟩ 1 1 [.slice (some ⟨gl, 0, none⟩) D D] (by rfl) (by rfl) (cell_one (by3 w8 _ _)) (by simp [Value.oneCell']) (by decide) (by unfold maxLen; exact hmx1) hmx2 (Nat.le_trans (RowKit.Below.size HF8.out) (RowKit.Below.size (gu2 w8 (.cells #[.slice (some ⟨go, 0, none⟩) D D] 28) (.cells #[.slice (some ⟨gl, 0, none⟩) D D] 28)))) _ rfl ?_; intro gc cc9 w9 hown9 hgrow9 hat9 _; have hT9 := (HT8.out.fut (gu2 w8 (.cells #[.slice (some ⟨go, 0, none⟩) D D] 28) (.cells #[.slice (some ⟨gl, 0, none⟩) D D] 28))).addC HLC.out (cut_take (Owns.fut HOP8.out (gu2 w8 (.cells #[.slice (some ⟨go, 0, none⟩) D D] 28) (.cells #[.slice (some ⟨gl, 0, none⟩) D D] 28))) HCL.out.1 HCL.out.2) hown9 hgrow9 hat9; have hF9 : Fut wz w9 := RowKit.Below.grown (HF8.out.trans (gu2 w8 (.cells #[.slice (some ⟨go, 0, none⟩) D D] 28) (.cells #[.slice (some ⟨gl, 0, none⟩) D D] 28))) hgrow9 (RowKit.Below.size (HF8.out.trans (gu2 w8 (.cells #[.slice (some ⟨go, 0, none⟩) D D] 28) (.cells #[.slice (some ⟨gl, 0, none⟩) D D] 28)))) (fun q hq => (World.ownsRow.lt ((HT8.out.fut (gu2 w8 (.cells #[.slice (some ⟨go, 0, none⟩) D D] 28) (.cells #[.slice (some ⟨gl, 0, none⟩) D D] 28))).rowC HLC.out) q hq).1); have hO9 : Owns w9 0 (.slice (some ⟨go, 0, none⟩) orow.length ocap) orow := World.ownsRow.kept (Owns.fut HOW8.out (gu2 w8 (.cells #[.slice (some ⟨go, 0, none⟩) D D] 28) (.cells #[.slice (some ⟨gl, 0, none⟩) D D] 28))) hgrow9 (own_apart (Owns.fut HOW8.out (gu2 w8 (.cells #[.slice (some ⟨go, 0, none⟩) D D] 28) (.cells #[.slice (some ⟨gl, 0, none⟩) D D] 28))) ((HT8.out.fut (gu2 w8 (.cells #[.slice (some ⟨go, 0, none⟩) D D] 28) (.cells #[.slice (some ⟨gl, 0, none⟩) D D] 28))).rowC HLC.out)); have y2 : w9.cell? ⟨w8.heap.size, 0, none⟩ = some (.slice (some ⟨go, 0, none⟩) D D) := hgrow9.cell (by2 w8 (.slice (some ⟨go, 0, none⟩) D D) (.cells #[.slice (some ⟨gl, 0, none⟩) D D] 28)) (HNB.out _ (by first | exact Nat.le_refl _ | exact Nat.le_succ _)))
                    | (rw [if_pos (by rfl)]; refine wp_append_lies _ _ _ _ (by rfl) wz.heap.size 28 i1 (.slice none 0 0) 1 24 Try.underlying22 hi1 hy0 hy1 hy2 rfl (by decide) (.slice lt r ctc) r xt (by rfl) ((hT9.fut (Fut.alloc w9 (.cells #[.slice (some ⟨go, 0, none⟩) D D] 28))).rowT HLT.out) ⟨w9.heap.size, 0, none⟩ 1 1 [.slice (some ⟨go, 0, none⟩) D D] (by rfl) (by rfl) (cell_one (alloc_cell w9 _ 28)) (by simp [Value.oneCell']) (by decide) (by unfold maxLen; exact hmx1) hmx2 (Nat.le_trans (RowKit.Below.size hF9) (RowKit.Below.size (Fut.alloc w9 (.cells #[.slice (some ⟨go, 0, none⟩) D D] 28)))) _ rfl ?_; intro gt ct10 w10 hown10 hgrow10 hat10 _; have hT10 := (hT9.fut (Fut.alloc w9 (.cells #[.slice (some ⟨go, 0, none⟩) D D] 28))).addT HLT.out (cut_take (Owns.fut hO9 (Fut.alloc w9 (.cells #[.slice (some ⟨go, 0, none⟩) D D] 28))) HOLB.out.1 HOLB.out.2) hown10 hgrow10 hat10; have hF10 : Fut wz w10 := RowKit.Below.grown (hF9.trans (Fut.alloc w9 (.cells #[.slice (some ⟨go, 0, none⟩) D D] 28))) hgrow10 (RowKit.Below.size (hF9.trans (Fut.alloc w9 (.cells #[.slice (some ⟨go, 0, none⟩) D D] 28)))) (fun q hq => (World.ownsRow.lt ((hT9.fut (Fut.alloc w9 (.cells #[.slice (some ⟨go, 0, none⟩) D D] 28))).rowT HLT.out) q hq).1))
                    | (rw [if_pos (by rfl)]; refine wp_append_lies _ _ _ _ (by rfl) wz.heap.size 28 i1 (.slice none 0 0) 1 24 Try.underlying22 hi1 hy0 hy1 hy2 rfl (by decide) (.slice lt r ctc) r xt (by rfl) ((hT9.fut (Fut.rfl)).rowT HLT.out) ⟨w8.heap.size + 1, 0, none⟩ 1 1 [.slice (some ⟨go, 0, none⟩) D D] (by rfl) (by rfl) (cell_one (y2)) (by simp [Value.oneCell']) (by decide) (by unfold maxLen; exact hmx1) hmx2 (Nat.le_trans (RowKit.Below.size hF9) (RowKit.Below.size (Fut.rfl))) _ rfl ?_; intro gt ct10 w10 hown10 hgrow10 hat10 _; have hT10 := (hT9.fut (Fut.rfl)).addT HLT.out (cut_take (Owns.fut hO9 (Fut.rfl)) HOLB.out.1 HOLB.out.2) hown10 hgrow10 hat10; have hF10 : Fut wz w10 := RowKit.Below.grown (hF9.trans (Fut.rfl)) hgrow10 (RowKit.Below.size (hF9.trans (Fut.rfl))) (fun q hq => (World.ownsRow.lt ((hT9.fut (Fut.rfl)).rowT HLT.out) q hq).1))
                    | (rw [if_pos (by rfl)]; refine wp_append_lies _ _ _ _ (by rfl) wz.heap.size 28 i1 (.slice none 0 0) 1 24 Try.underlying22 hi1 hy0 hy1 hy2 rfl (by decide) (.slice lt r ctc) r xt (by rfl) ((hT9.fut (Fut.rfl)).rowT HLT.out) ⟨w8.heap.size, 0, none⟩ 1 1 [.slice (some ⟨go, 0, none⟩) D D] (by rfl) (by rfl) (cell_one (y2)) (by simp [Value.oneCell']) (by decide) (by unfold maxLen; exact hmx1) hmx2 (Nat.le_trans (RowKit.Below.size hF9) (RowKit.Below.size (Fut.rfl))) _ rfl ?_; intro gt ct10 w10 hown10 hgrow10 hat10 _; have hT10 := (hT9.fut (Fut.rfl)).addT HLT.out (cut_take (Owns.fut hO9 (Fut.rfl)) HOLB.out.1 HOLB.out.2) hown10 hgrow10 hat10; have hF10 : Fut wz w10 := RowKit.Below.grown (hF9.trans (Fut.rfl)) hgrow10 (RowKit.Below.size (hF9.trans (Fut.rfl))) (fun q hq => (World.ownsRow.lt ((hT9.fut (Fut.rfl)).rowT HLT.out) q hq).1)))
                all_goals
                  have HT10 := Lib.hid hT10
                  have HF10 := Lib.hid hF10
                  clear hown9 hgrow9 hat9 hown10 hgrow10 hat10 hT9 hF9 hO9 hT10 hF10
                  go_wp2_with fail
                  go_roundw
                all_goals first
                  | exact ⟨r + 1, _, _, _, by omega, by go_num, ⟨_, _, rfl⟩, ⟨_, _, rfl⟩, ⟨_, _, rfl⟩, by rw [HZT.out, HZC.out, HZO.out]; exact HT10, HF10⟩
                  | (simp [intOf]; omega)
          · obtain rfl : r = P.length := by omega
            have hTKP : P.take P.length = P := List.take_length
            rw [hTKP] at HTH
            have HTZ := HTH
            have hqp := nm_plan HPT.out HPF.out HP.out
            have hqr := rev_plan hqp
            have hcount := nm_count HPT.out HPF.out HP.out
            have hop1 : opnE i (((P.map (nmR T F))).reverse) = opnE i P := by
              rw [opn_of hNd hN1 hqr, opn_of hNd hN1 HP.out, List.length_reverse, List.length_map]
            have hct1 : cntN i (((P.map (nmR T F))).reverse) = cntN i P := by
              unfold cntN
              rw [hop1, Int.toNat_natCast, fit_rev, hcount]
            have hf1 := cut_fill hNd hN1 HP.out hDN
            have hf2 := cut_fill hNd hN1 hqr hDN
            have hrv : ((P.map (nmR T F)).map (List.take D)).reverse = ((P.map (nmR T F)).reverse).map (List.take D) := by rw [List.map_reverse]
            have hlo : (P.map (nmR T F)).length = P.length := List.length_map _
            have hlc : (P.map (List.take D)).length = P.length := List.length_map _
            have hlt : ((P.map (nmR T F)).map (List.take D)).length = P.length := by rw [List.length_map, List.length_map]
            have HC26 : Hid (∀ W la lb, LstC W la P → P.length ≤ lb → lb ≤ 9223372036854775807 → Calls Try.prog 26 #[.int .i64 i, .slice la P.length lb] W (TupN (opnE i P) (cntN i P) W)) := Lib.hid (fun W la lb h h1 h2 => count26_any i la lb P W h h1 h2)
            have HD26 : Hid (∀ W la lb, LstC W la ((P.map (nmR T F)).reverse) → P.length ≤ lb → lb ≤ 9223372036854775807 → Calls Try.prog 26 #[.int .i64 i, .slice la P.length lb] W (TupN (opnE i P) (cntN i P) W)) := Lib.hid (fun W la lb h h1 h2 => by
              have q := count26_any i la lb _ W h (by rw [List.length_reverse, hlo]; exact h1) h2
              rwa [hop1, hct1, List.length_reverse, hlo] at q)
            have HC40 : Hid (∀ W la lb, LstC W la (P.map (List.take D)) → P.length ≤ lb → lb ≤ 9223372036854775807 → Calls Try.prog 40 #[.int .i64 i, .slice la P.length lb] W fun e w' => ∃ l m c, e = .returned (.tuple #[.slice l m c, .int .i64 0]) ∧ Fut W w') := Lib.hid (fun W la lb h h1 h2 => by
              have q := fillC_any i la lb _ W h (by rw [hlc]; exact h1) h2
              rw [hlc, hf1.1] at q
              exact q.mono fun e w' ⟨l, lc, he, _, _, _, F⟩ => ⟨l, _, lc, he, F⟩)
            have HD40 : Hid (∀ W la lb, LstC W la (((P.map (nmR T F)).reverse).map (List.take D)) → P.length ≤ lb → lb ≤ 9223372036854775807 → Calls Try.prog 40 #[.int .i64 i, .slice la P.length lb] W fun e w' => ∃ l m c, e = .returned (.tuple #[.slice l m c, .int .i64 0]) ∧ Fut W w') := Lib.hid (fun W la lb h h1 h2 => by
              have q := fillC_any i la lb _ W h (by rw [List.length_map, List.length_reverse, hlo]; exact h1) h2
              rw [List.length_map, List.length_reverse, hlo, hf2.1] at q
              exact q.mono fun e w' ⟨l, lc, he, _, _, _, F⟩ => ⟨l, _, lc, he, F⟩)
            have HD38 : Hid (∀ W la lb, LstC W la (((P.map (nmR T F)).reverse).map (List.take D)) → P.length ≤ lb → lb ≤ 9223372036854775807 → Calls Try.prog 38 #[.int .i64 i, .slice la P.length lb] W fun e w' => ∃ s : Int, e = .returned (.tuple #[.int .i64 s, .int .i64 13]) ∧ Fut W w') := Lib.hid (fun W la lb h h1 h2 => by
              have q := why_any i la lb _ W h (by rw [List.length_map, List.length_reverse, hlo]; exact h1) h2
              rw [List.length_map, List.length_reverse, hlo, hf2.2] at q
              exact q.mono fun e w' ⟨he, F⟩ => ⟨_, he, F⟩)
            have hro := (HTZ.out.o.z)
            have hrt := (HTZ.out.t.z)
            have HRO := Lib.hid (fun W (h : RowZ W wz.heap.size (.slice lo P.length co) (P.map (nmR T F))) => rev_lists _ _ W h (by rw [hlo]; exact Nat.le_trans hpl hN1))
            have HRT := Lib.hid (fun W (h : RowZ W wz.heap.size (.slice lt P.length ctc) ((P.map (nmR T F)).map (List.take D))) => rev_lists _ _ W h (by rw [hlt]; exact Nat.le_trans hpl hN1))
            have HRT2 : Hid (∀ W, RowZ W wz.heap.size (.slice lt P.length ctc) ((P.map (nmR T F)).map (List.take D)) → Calls Try.prog 57 #[.slice lt P.length ctc] W fun e w' => e = .returned (.tuple #[]) ∧ RowZ w' wz.heap.size (.slice lt P.length ctc) (((P.map (nmR T F)).reverse).map (List.take D)) ∧ W.grownBy w' (Value.slice lt P.length ctc).ownBlock) := Lib.hid (fun W h => by
              have q := HRT.out W h
              rwa [hrv] at q)
            have HHO := Lib.hid hro
            have HHT := Lib.hid hrt
            have HHC := Lib.hid HTZ.out.c
            have HLPC : Hid ((P.map (nmR T F)).length = P.length ∧ (P.map (List.take D)).length = P.length ∧ (((P.map (nmR T F)).reverse).map (List.take D)).length = P.length ∧ ((P.map (nmR T F)).reverse).length = P.length) := Lib.hid ⟨hlo, hlc, by rw [List.length_map, List.length_reverse, hlo], by rw [List.length_reverse, hlo]⟩
            have HFIN := Lib.hid (fun W (F : Fut wz W) => HOP.out.fut F)
            clear hTKP HTH hqp hqr hcount hop1 hct1 hf1 hf2 hrv hlo hlc hlt hro hrt HRT HOP
            generalize hQr : (P.map (nmR T F)).reverse = Qr at *
            generalize opnE i P = OE at *
            generalize cntN i P = CN at *
            have HZ := HTZ
            clear HTZ HHC
            go_wp2_with fail
            refine (HRO.out wr HHO.out).mono ?_
            rintro _ w5 ⟨rfl, hO5, hg5⟩
            have hC5 := HZ.out.c.other HZ.out.o.own hg5 (fun k hk e => HZ.out.oc k e hk)
            have hT5 := HZ.out.t.other HZ.out.o.own hg5 (fun k hk e => HZ.out.ot k e hk)
            have HF5 : Hid (Fut wz w5) := Lib.hid (RowKit.Below.grown HFX.out hg5 (RowKit.Below.size HFX.out) (fun q hq => (World.ownsRow.lt HZ.out.o.own q hq).1))
            have HO5 := Lib.hid hO5
            have HC5 := Lib.hid hC5
            have HT5 := Lib.hid hT5
            clear hO5 hC5 hT5 hg5 HHO HHT HRO
            go_wp2_with fail
            refine (HRT2.out w5 HT5.out.z).mono ?_
            rintro _ w6 ⟨rfl, hT6, hg6⟩
            have HF6 : Hid (Fut wz w6) := Lib.hid (RowKit.Below.grown HF5.out hg6 (RowKit.Below.size HF5.out) (fun q hq => (World.ownsRow.lt HT5.out.own q hq).1))
            obtain ⟨k1, k2, hLC⟩ := rz_lst (HC5.out.other HT5.out.own hg6 (fun k hk e => HZ.out.ct k hk e)).z HLPC.out.2.1
            obtain ⟨k3, k4, hLO⟩ := rz_lst (HO5.out.other HT5.out.own hg6 (fun k hk e => HZ.out.ot k hk e)) HLPC.out.2.2.2
            obtain ⟨k5, k6, hLT⟩ := rz_lst hT6 HLPC.out.2.2.1
            have hOPw := HFIN.out w6 HF6.out
            obtain ⟨la', lc', eP, _, _, hLP⟩ := hOPw.listsC
            simp only [Value.slice.injEq, true_and] at eP
            obtain ⟨rfl, rfl⟩ := eP
            have HLC := Lib.hid hLC
            have HLO := Lib.hid hLO
            have HLT := Lib.hid hLT
            have HLP := Lib.hid hLP
            have HK := Lib.hid (And.intro k1 (And.intro k2 (And.intro k3 (And.intro k4 (And.intro k5 k6)))))
            have HW6 := Lib.hid (HW0.out.trans HF6.out)
            clear hLC hLO hLT hLP hOPw hT6 hg6 k1 k2 k3 k4 k5 k6 HO5 HC5 HT5 HF5 HF6 HFX HFIN HZ HRT2 HLPC HW0 HOT HOF hQr
            go_wp2_with fail
            refine (HC26.out w6 la lc HLP.out HQ.out.1 HQ.out.2).mono ?_
            rintro _ w7 ⟨rfl, F7⟩
            have HW7 := Lib.hid (HW6.out.trans F7)
            have HLC7 := Lib.hid (HLC.out.fut F7)
            have HLO7 := Lib.hid (HLO.out.fut F7)
            have HLT7 := Lib.hid (HLT.out.fut F7)
            clear F7 HC26 HLP HLC HLO HLT HW6
            go_wp2_with fail
            refine (HD26.out w7 lo co HLO7.out HK.out.2.2.1 HK.out.2.2.2.1).mono ?_
            rintro _ w8 ⟨rfl, F8⟩
            have HW8 := Lib.hid (HW7.out.trans F8)
            have HLC8 := Lib.hid (HLC7.out.fut F8)
            have HLT8 := Lib.hid (HLT7.out.fut F8)
            clear F8 HD26 HLC7 HLO7 HLT7 HW7
            go_wp2_with fail
            refine (HC40.out w8 lcc ccc HLC8.out HK.out.1 HK.out.2.1).mono ?_
            rintro _ w9 ⟨l9, m9, c9, rfl, F9⟩
            have HW9 := Lib.hid (HW8.out.trans F9)
            have HLT9 := Lib.hid (HLT8.out.fut F9)
            clear F9 HC40 HLC8 HLT8 HW8
            go_wp2_with fail
            refine (HD40.out w9 lt ctc HLT9.out HK.out.2.2.2.2.1 HK.out.2.2.2.2.2).mono ?_
            rintro _ w10 ⟨l10, m10, c10, rfl, F10⟩
            have HW10 := Lib.hid (HW9.out.trans F10)
            have HLT10 := Lib.hid (HLT9.out.fut F10)
            clear F10 HD40 HLT9 HW9
            go_wp2_with fail
            refine (HD38.out w10 lt ctc HLT10.out HK.out.2.2.2.2.1 HK.out.2.2.2.2.2).mono ?_
            rintro _ w11 ⟨s11, rfl, F11⟩
            have HW11 := Lib.hid (HW10.out.trans F11)
            clear F11 HD38 HLT10 HW10
            go_wp2_with fail
            refine (works_any _).mono ?_
            rintro _ w12 ⟨rfl, F12⟩
            have HW12 := Lib.hid (HW11.out.trans F12)
            clear F12
            go_wp2
            go_ret
            exact ⟨rfl, HW12.out⟩
theorem law12_int (st ca : Nat) (by_ : Nat → Int) (hst : st < 256) (hca : ca < 256) (hby : ∀ i, i < 5 → 0 ≤ by_ i ∧ by_ i < 256) (nb : Nat → Int) (hnb : ∀ i, i < 5 → 0 ≤ nb i ∧ nb i < 256) (db : Nat → Int) (hdb : ∀ i, i < 5 → 0 ≤ db i ∧ db i < 256) (x : Int) (h0 : 0 ≤ x) (h1 : x < 256) (w : World) :
    Calls Try.prog 12 #[rotaV st ca by_, fiveV nb, fiveV db, .int .u8 x] w fun e w' => e = .returned (.bool true) ∧ Fut w w' := by
  obtain ⟨wd, rfl⟩ := Int.eq_ofNat_of_zero_le h0
  exact law12_any st ca wd by_ nb db hst hca (by omega) hby hnb hdb w
end Go.Proofs.Ytpgifeaejjjjnaa
