/- Layer 1: all orders that begin with one. -/
import Derived.Test.YtdnbdaegahcoeaaQueueB
import Derived.Deep.AppendLies
import Derived.OwnWalk
import Derived.StillTactics
namespace Go.Proofs.Ytdnbdaegahcoeaa
open Go.RowKit Go.Sort
theorem own_row2 {w : World} {B : Nat} {v : Value} {zs : List Int} (h : Owns w B v zs) (h0 : 0 < zs.length) :
    ∃ g cap, v = .slice (some ⟨g, 0, none⟩) zs.length cap ∧ B ≤ g ∧ g < w.heap.size ∧ RowN w g zs ∧ zs.length ≤ cap ∧ cap ≤ 9223372036854775807 := by
  obtain ⟨g, cap, e, h1, h2, h3⟩ := own_row h h0
  refine ⟨g, cap, e, h1, h2, h3, ?_⟩
  obtain ⟨_, h | ⟨g', cap', cur, e', hb, hg, hnc, hm, _, _⟩⟩ := h
  · exfalso; obtain ⟨_, h4⟩ := h; omega
  · rw [e] at e'
    injection e' with _ _ e3
    unfold maxLen at hm
    rw [e3]; exact ⟨hnc, by omega⟩
theorem K_ptf {x : Int} {zs : List Int} (h : Full5 x zs) (i : Fin 5) : Pt (K zs i) := by
  have := full_nth h i.val
  unfold K; constructor <;> omega
theorem own_head {w : World} {base : Nat} {v : Value} {n : Nat} {zs : List Int} (h : w.ownsRow base 3 1 v (n + 1) (zs.map (Value.int .i64))) : ∃ g cap, v = .slice (some ⟨g, 0, none⟩) (n + 1) cap ∧ base ≤ g ∧ n + 1 ≤ cap ∧ IntsAt w (some ⟨g, 0, none⟩) zs := by
  have hl := h.1
  rw [List.length_map] at hl
  have hO : Owns w base v zs := by unfold Owns; rw [hl, Nat.mul_one]; exact h
  obtain ⟨g, cap, e, h1, h2, h3, h4, _⟩ := own_row2 hO (by omega)
  rw [hl, Nat.mul_one] at e h4
  exact ⟨g, cap, e, h1, h4, h3.ints⟩
abbrev putA (v : Value) (pn pp pm pw pc pt pg : Nat) : Array Value := #[v, .pointer (some ⟨pn, 0, none⟩), .pointer (some ⟨pp, 0, none⟩), .pointer (some ⟨pm, 0, none⟩), .pointer (some ⟨pw, 0, none⟩), .pointer (some ⟨pc, 0, none⟩), .pointer (some ⟨pt, 0, none⟩), .pointer (some ⟨pg, 0, none⟩)]
theorem rest_step {os rest r : List (Fin 5)} (h : (os ++ rest).Perm r) (d : Fin 5) (hd : d ∈ r) (hn : d ∉ os) : ((os ++ [d]) ++ rest.erase d).Perm r ∧ (rest.erase d).length + 1 = rest.length := by
  have hm : d ∈ rest := by
    rcases List.mem_append.1 (h.mem_iff.2 hd) with h' | h'
    · exact absurd h' hn
    · exact h'
  have hp := List.perm_cons_erase hm
  refine ⟨?_, by have := hp.length_eq; simpa using this.symm⟩
  refine List.Perm.trans ?_ h
  rw [List.append_assoc]
  exact List.Perm.append_left os hp.symm
set_option maxRecDepth 100000 in
set_option maxHeartbeats 4000000 in
theorem put_all (pn pp pm pw pc pt pg gt ga oa cap B0 : Nat) (x : Int) (zs : List Int) (hF : Full5 x zs) (D : Dst pn pp pm pw pc pt pg gt ga B0) : ∀ (r : Nat) (os rest : List (Fin 5)) (bo : Option Addr) (co : Nat) (many : Nat) (tf : Fin 5 → Int) (w : World),
    (os ++ rest).Perm (idxL zs.length) → rest.length = r → Cst pn pp pm pw pc pt pg gt ga oa cap x zs w → Mut pm pg gt zs.length many tf w → IntsAt w bo (valL os) → (∀ b off, bo = some ⟨b, off, none⟩ → B0 ≤ b) → (bo = none → os = [] ∧ co = 0) → (∀ a, bo = some a → a.spot = none) → os.length ≤ co → B0 ≤ w.heap.size →
    many + 5 ^ r ≤ 1000000 → (∀ i, 0 ≤ tf i ∧ tf i + 1000000 * ((5 ^ r : Nat) : Int) ≤ 1000000000000) →
    Calls Try.prog 51 (putA (.slice bo os.length co) pn pp pm pw pc pt pg) w (PutPost pm pg gt zs.length (many + (ext zs.length r os).length) (addAll (K zs) (x * 120) (ext zs.length r os) tf) w)
  | 0, os, rest, bo, co, many, tf, w, hp, hr, hC, hM, hO, hb, _, _, _, hB0, hmb, htb => by
    have h0 : rest = [] := List.eq_nil_of_length_eq_zero hr
    subst h0
    rw [List.append_nil] at hp
    have hol : os.length = zs.length := by rw [hp.length_eq, idxL_length _ hF.2.1]
    rw [hol]
    exact put_leaf pn pp pm pw pc pt pg gt ga oa cap B0 x zs hF D os hp bo co many tf w hC hM hO hb hB0 (by simp at hmb; omega) (fun i => by have := htb i; simp at this; omega)
  | r + 1, os, rest, bo, co, many, tf, w, hp, hr, hC, hM, hO, hb, hbn, hbs, hco, hB0, hmb, htb => by
    have ih := put_all pn pp pm pw pc pt pg gt ga oa cap B0 x zs hF D r
    have IH := Lib.hid ih
    clear ih
    obtain ⟨i0, hi, hz0, hz1, hz2⟩ := info_parts info3
    have h1 := hF.1
    have h5 := hF.2.1
    have hol : os.length + (r + 1) = zs.length := by rw [← hr, ← List.length_append, hp.length_eq, idxL_length _ h5]
    have HK := Lib.hid hF
    have HD := Lib.hid D
    have HCC := Lib.hid hC
    have HMM := Lib.hid hM
    have HOO := Lib.hid hO
    have HP := Lib.hid hp
    have HR := Lib.hid hr
    have HTB := Lib.hid htb
    have HMB := Lib.hid hmb
    have HE : Hid (extK zs.length r os zs.length = ext zs.length (r + 1) os) := Lib.hid (extK_all _ _ _ h5)
    rw [← HE.out]
    have c1 := hC.n
    have hox : (os.length : Int) < zs.length := by omega
    have hol5 : (os.length : Int) ≤ 5 := by omega
    clear hC hM hO hp hr htb hmb hF D HE
    go_enter Try.func51, Try.ntmps51
    go_wp2_with fail
    go_loopw [21] (fun kv wr => ∃ k : Nat, k ≤ zs.length ∧ kv = .int .i64 k ∧ Hid (Cst pn pp pm pw pc pt pg gt ga oa cap x zs wr) ∧ Hid (Mut pm pg gt zs.length (many + (extK zs.length r os k).length) (addAll (K zs) (x * 120) (extK zs.length r os k) tf) wr) ∧ Hid (IntsAt wr bo (valL os)) ∧ Hid (Oth pm pg gt w wr)) (fun kv _ => zs.length - (intOf kv).toNat)
    case atStart => exact ⟨0, Nat.zero_le _, rfl, HCC, HMM, HOO, Lib.hid (Oth.refl _)⟩
    case round =>
      obtain ⟨k, hk, rfl, HC, HM, HO, HX⟩ := hrel
      clear HCC HMM HOO
      by_cases hkt : k < zs.length
      · have hkx : (k : Int) < zs.length := by omega
        have hex := Lib.hid (extK_succ zs.length r os k h5 hkt)
        by_cases hd : (⟨k, by omega⟩ : Fin 5) ∈ os
        · have hv : (k : Int) ∈ valL os := (val_mem os ⟨k, by omega⟩).2 hd
          have HH := Lib.hid (has_yes bo co (valL os) k wr (by rw [valL_length]; omega) HO.out hv)
          rw [valL_length] at HH
          have HEK : Hid (extK zs.length r os (k + 1) = extK zs.length r os k) := Lib.hid (by rw [hex.out, if_pos hd, List.append_nil])
          rw [← HEK.out] at HM
          clear hv hd hex c1
          go_wp2_with fail
          refine HH.out.mono ?_
          rintro _ _ ⟨rfl, rfl⟩
          go_wp2
          go_roundw
          case rel => exact ⟨k + 1, by omega, by go_num, HC, HM, HO, HX⟩
          case measure => simp [intOf]; omega
        · have hv : ¬ (k : Int) ∈ valL os := fun h => hd ((val_mem os ⟨k, by omega⟩).1 h)
          have HH := Lib.hid (has_no bo co (valL os) k wr (by rw [valL_length]; omega) HO.out hv)
          rw [valL_length] at HH
          have HEK : Hid (extK zs.length r os (k + 1) = extK zs.length r os k ++ ext zs.length r (os ++ [⟨k, by omega⟩])) := Lib.hid (by rw [hex.out, if_neg hd])
          obtain ⟨hp2, hl2⟩ := rest_step HP.out ⟨k, by omega⟩ (idx_mem ⟨zs.length, by omega⟩ ⟨k, by omega⟩ hkt) hd
          have hb5 : (extK zs.length r os k).length ≤ k * 5 ^ r := extK_len _ h5 r k os (by omega)
          have hk5 : k * 5 ^ r + 5 ^ r ≤ 5 ^ (r + 1) := by rw [Nat.pow_succ, ← Nat.succ_mul, Nat.mul_comm (5 ^ r) 5]; exact Nat.mul_le_mul_right _ (by omega)
          have htf := addAll_bd (K zs) (fun i => K_ptf HK.out i) (x * 120) (by have := HK.out.2.2.2; omega) (extK zs.length r os k) tf (1000000000000 - 1000000 * ((5 ^ (r + 1) : Nat) : Int)) (fun i => by have := HTB.out i; omega)
          have HIH : Hid (∀ (g cp : Nat) (w1 : World), Fut wr w1 → B0 ≤ g → os.length + 1 ≤ cp → IntsAt w1 (some ⟨g, 0, none⟩) (valL (os ++ [⟨k, by omega⟩])) →
              Calls Try.prog 51 (putA (.slice (some ⟨g, 0, none⟩) (os.length + 1) cp) pn pp pm pw pc pt pg) w1 (PutPost pm pg gt zs.length (many + (extK zs.length r os (k + 1)).length) (addAll (K zs) (x * 120) (extK zs.length r os (k + 1)) tf) w1)) := Lib.hid (fun g cp w1 F hg hcp hi => by
            have hgt : gt < wr.heap.size := World.block_lt_of_cell? _ _ (HM.out.t.cell 0 (by rw [list5_len _ _ h5]; omega))
            have := IH.out (os ++ [⟨k, by omega⟩]) (rest.erase ⟨k, by omega⟩) (some ⟨g, 0, none⟩) cp (many + (extK zs.length r os k).length) (addAll (K zs) (x * 120) (extK zs.length r os k) tf) w1 hp2 (by rw [HR.out] at hl2; omega) (HC.out.oth HD.out (Oth.of F)) (HM.out.fut F hgt) hi
              (fun b off e => by injection e with e; injection e with e1; omega) (fun e => by cases e) (fun a e => by injection e with e; rw [← e]) (by rw [List.length_append]; exact hcp) (by have := HX.out.size; have := RowKit.Below.size F; omega) (by have := HMB.out; omega) (fun i => by
                have h1 := htf i
                refine ⟨h1.1, ?_⟩
                have h2 : (((extK zs.length r os k).length + 5 ^ r : Nat) : Int) ≤ ((5 ^ (r + 1) : Nat) : Int) := by exact_mod_cast (by omega)
                have h3 : (((extK zs.length r os k).length + 5 ^ r : Nat) : Int) = ((extK zs.length r os k).length : Int) + ((5 ^ r : Nat) : Int) := by omega
                omega)
            rw [List.length_append] at this
            rw [HEK.out, List.length_append, addAll_append, ← Nat.add_assoc]
            exact this)
          clear hv hd hex hp2 hl2 hb5 hk5 htf IH HMB HTB
          have hpp := HC.out.p
          go_wp2_with fail
          refine HH.out.mono ?_
          rintro _ _ ⟨rfl, rfl⟩
          clear c1
          cases bo with
          | none =>
            obtain ⟨rfl, rfl⟩ := hbn rfl
            have HVAL : Hid ((valL ([] ++ [⟨k, by omega⟩])).map (Value.int .i64) = [] ++ [.int .i64 (k : Int)]) := Lib.hid (by simp [valL])
            skip
            have hwB : B0 ≤ wr.heap.size := Nat.le_trans hB0 HX.out.size
            have hd1 : pp ≠ pm := HD.out.m.2.1.symm
            have hd2 : pp ≠ pg := HD.out.g.2.1.symm
            have hd3 : pp ≠ gt := HD.out.t.2.1.symm
            have hkk : IntKind.i64.wrap ((k : Int)) = (k : Int) := IntWalk.i64_in _ ⟨by omega, by omega⟩
            go_wp2_with fail
            go_region_held3 (fun w' => w'.cell? ⟨pp, 0, none⟩ = some (.func (.func 51) #[] (putV pn pp pm pw pc pt pg))) (first | go_keep | exact hpp3 | exact hpp1)
              (first
                | (refine step_append_grows (by rfl) _ _ _ (by rfl) 3 i0 (.int .i64 0) 1 8 Try.underlying22 hi hz0 hz1 hz2 rfl (by omega) none 0 0 [] (by rfl) (fun _ => ⟨rfl, rfl⟩) (by rfl) (fun b h => by cases h) ⟨wr.heap.size, 0, none⟩ 1 1 [.int .i64 (k : Int)] (by rfl) (by rfl) (World.news_of_block (cs := #[.int .i64 (k : Int)]) (t := 3) (fr := (0, 0)) (heap_alloc_new wr _)) (by simp [Value.oneCell']) (by omega) (by unfold maxLen; omega) (by omega) ?_; intro v' w1 hown1 hgrow; obtain ⟨g, cg, rfl, hgb, hgc, hgi⟩ := own_head (zs := valL ([] ++ [⟨k, by omega⟩])) (by rw [HVAL.out]; exact hown1); have hF1 : Fut wr w1 := RowKit.Below.grown (below_drewN (Fut.alloc wr (.cells #[.int .i64 (k : Int)] 3)) 1) hgrow (by simp) (fun i hi => by cases hi); have hgB : B0 ≤ g := Nat.le_trans hwB (Nat.le_trans (by simp) hgb); have hpp1 : w1.cell? ⟨pp, 0, none⟩ = some (.func (.func 51) #[] (putV pn pp pm pw pc pt pg)) := ptr_fut hpp hF1)
                | (go_at_call 51; refine (HIH.out g cg w1 hF1 hgB hgc hgi).mono ?_; rintro _ w3 ⟨rfl, hM3, hO3⟩; have hpp3 : w3.cell? ⟨pp, 0, none⟩ = some (.func (.func 51) #[] (putV pn pp pm pw pc pt pg)) := hO3.cell hpp1 hd1 hd2 hd3))
            have HO3 : Hid (Oth pm pg gt wr w3) := Lib.hid ((Oth.of hF1).trans hO3)
            have HM3 := Lib.hid hM3
            clear hown1 hgrow hgi hpp1 hpp3 hM3 hO3 hpp hkk
            go_wp2
            go_roundw
            case rel =>
              have HR1 := Lib.hid (HC.out.oth HD.out HO3.out)
              have HR2 := Lib.hid (HO3.out.ints HO.out hb HD.out.b)
              have HR3 := Lib.hid (HX.out.trans HO3.out)
              first
              | exact ⟨k + 1, by omega, by go_num, HR1, HM3, HR2, HR3⟩
              | ((repeat apply Exists.intro); exact ⟨⟨k + 1, by omega, by go_num, HR1, HM3, HR2, HR3⟩, rfl⟩)
            case measure => simp [intOf]; omega
          | some a =>
            obtain ⟨bb, ob, spot⟩ := a
            obtain rfl : spot = none := hbs _ rfl
            have HOLD : Hid (∀ j u, ((valL os).map (Value.int .i64))[j]? = some u → wr.cell? ((⟨bb, ob, none⟩ : Addr).add j) = some u) := Lib.hid (fun j u hu => by
              rw [List.getElem?_map] at hu
              by_cases hj : j < (valL os).length
              · obtain ⟨b', o', e, h1, h2⟩ := HO.out j hj
                injection e with e
                injection e with e1 e2
                subst e1 e2
                have hadd : (⟨bb, ob, none⟩ : Addr).add j = ⟨bb, ob + j, none⟩ := by unfold Addr.add; split <;> simp_all
                rw [hadd, h2, nth_eq]
                rw [List.getElem?_eq_getElem hj] at hu ⊢
                simpa using hu
              · rw [List.getElem?_eq_none (by omega)] at hu
                cases hu)
            have HVAL : Hid ((valL (os ++ [⟨k, by omega⟩])).map (Value.int .i64) = ((valL os).map (Value.int .i64)) ++ [.int .i64 (k : Int)]) := Lib.hid (by simp [valL])
            have HOLD2 : Hid (∀ j u, ((valL os).map (Value.int .i64))[j]? = some u → ((wr.alloc (.cells #[.int .i64 (k : Int)] 3)).drew).cell? ((⟨bb, ob, none⟩ : Addr).add j) = some u) := Lib.hid (fun j u hu => by
              have h := HOLD.out j u hu
              exact (RowKit.Below.cell (below_drewN (Fut.alloc wr (.cells #[.int .i64 (k : Int)] 3)) 1) (World.block_lt_of_cell? _ _ h)).trans h)
            have hwB : B0 ≤ wr.heap.size := Nat.le_trans hB0 HX.out.size
            have hd1 : pp ≠ pm := HD.out.m.2.1.symm
            have hd2 : pp ≠ pg := HD.out.g.2.1.symm
            have hd3 : pp ≠ gt := HD.out.t.2.1.symm
            have hkk : IntKind.i64.wrap ((k : Int)) = (k : Int) := IntWalk.i64_in _ ⟨by omega, by omega⟩
            go_wp2_with fail
            go_region_held3 (fun w' => w'.cell? ⟨pp, 0, none⟩ = some (.func (.func 51) #[] (putV pn pp pm pw pc pt pg))) (first | go_keep | exact hpp3 | exact hpp1)
              (first
                | (refine step_append_grows (by rfl) _ _ _ (by rfl) 3 i0 (.int .i64 0) 1 8 Try.underlying22 hi hz0 hz1 hz2 rfl (by omega) (some ⟨bb, ob, none⟩) os.length os.length ((valL os).map (Value.int .i64)) (by rfl) (fun h => by cases h) (by simp [valL]) (fun b h => by injection h with h; subst h; exact HOLD2.out) ⟨wr.heap.size, 0, none⟩ 1 1 [.int .i64 (k : Int)] (by rfl) (by rfl) (World.news_of_block (cs := #[.int .i64 (k : Int)]) (t := 3) (fr := (0, 0)) (heap_alloc_new wr _)) (by simp [Value.oneCell']) (by omega) (by unfold maxLen; omega) (by omega) ?_; intro v' w1 hown1 hgrow; obtain ⟨g, cg, rfl, hgb, hgc, hgi⟩ := own_head (zs := valL (os ++ [⟨k, by omega⟩])) (by rw [HVAL.out]; exact hown1); have hF1 : Fut wr w1 := RowKit.Below.grown (below_drewN (Fut.alloc wr (.cells #[.int .i64 (k : Int)] 3)) 1) hgrow (by simp) (fun i hi => by cases hi); have hgB : B0 ≤ g := Nat.le_trans hwB (Nat.le_trans (by simp) hgb); have hpp1 : w1.cell? ⟨pp, 0, none⟩ = some (.func (.func 51) #[] (putV pn pp pm pw pc pt pg)) := ptr_fut hpp hF1)
                | (go_at_call 51; refine (HIH.out g cg w1 hF1 hgB hgc hgi).mono ?_; rintro _ w3 ⟨rfl, hM3, hO3⟩; have hpp3 : w3.cell? ⟨pp, 0, none⟩ = some (.func (.func 51) #[] (putV pn pp pm pw pc pt pg)) := hO3.cell hpp1 hd1 hd2 hd3))
            have HO3 : Hid (Oth pm pg gt wr w3) := Lib.hid ((Oth.of hF1).trans hO3)
            have HM3 := Lib.hid hM3
            clear hown1 hgrow hgi hpp1 hpp3 hM3 hO3 hpp hkk
            go_wp2
            go_roundw
            case rel =>
              have HR1 := Lib.hid (HC.out.oth HD.out HO3.out)
              have HR2 := Lib.hid (HO3.out.ints HO.out hb HD.out.b)
              have HR3 := Lib.hid (HX.out.trans HO3.out)
              first
              | exact ⟨k + 1, by omega, by go_num, HR1, HM3, HR2, HR3⟩
              | ((repeat apply Exists.intro); exact ⟨⟨k + 1, by omega, by go_num, HR1, HM3, HR2, HR3⟩, rfl⟩)
            case measure => simp [intOf]; omega
      · obtain rfl : k = zs.length := by omega
        go_wp2_with fail
        go_end0
        exact ⟨rfl, HM.out, HX.out⟩
end Go.Proofs.Ytdnbdaegahcoeaa
