/- The reference's bars are package week's where the corner is one (bars_same); Proves 45: rproves_any, the same as proves_any -/
import Derived.Test.YtpgifeaejjjjnaaMB
import Derived.Test.YtpgifeaejjjjnaaMC
import Derived.IntWalk
namespace Go.Proofs.Ytpgifeaejjjjnaa
open Go.RowKit Go.Sort
theorem cnt_not {s : Int} : ∀ (l : List Int) (u : Nat), s ∉ l → cntR s l u = u
  | [], _, _ => rfl
  | x :: t, u, h => by
    have h1 : x ≠ s := fun e => h (e ▸ List.mem_cons_self ..)
    unfold cntR
    rw [if_neg h1, cnt_not t u (fun hm => h (List.mem_cons_of_mem _ hm))]
theorem cnt_nodup {s : Int} : ∀ (l : List Int) (u : Nat), l.Nodup → cntR s l u = u + (if l.contains s = true then 1 else 0)
  | [], _, _ => rfl
  | x :: t, u, h => by
    obtain ⟨h1, h2⟩ := List.nodup_cons.1 h
    unfold cntR
    by_cases e : x = s
    · subst e
      rw [if_pos rfl, cnt_not t _ h1, if_pos (by simp)]
    · rw [if_neg e, cnt_nodup t u h2]
      have : (x :: t).contains s = t.contains s := by
        have e' : ¬ s = x := fun h => e h.symm
        simp [e']
      rw [this]
theorem tms_nodup {s : Int} : ∀ (zss : List (List Int)) (u : Nat), (∀ l ∈ zss, l.Nodup) → tmsR s zss u = u + (zss.filter fun l => l.contains s).length
  | [], _, _ => rfl
  | l :: t, u, h => by
    unfold tmsR
    rw [tms_nodup t _ (fun x hx => h x (List.mem_cons_of_mem _ hx)), cnt_nodup l u (h l (List.mem_cons_self ..)), List.filter_cons]
    by_cases e : l.contains s = true
    · rw [if_pos e, if_pos e, List.length_cons]; omega
    · rw [if_neg e, if_neg e]; omega
theorem day_same (d : Nat) : ∀ (zss : List (List Int)) (u : Nat), (∀ l ∈ zss, l.length = d) → dayR zss u = if zss.length = 0 then u else d
  | [], _, _ => rfl
  | l :: t, u, h => by
    unfold dayR
    rw [day_same d t _ (fun x hx => h x (List.mem_cons_of_mem _ hx)), h l (List.mem_cons_self ..)]
    simp
theorem nodup_am {c : Int} {zss : List (List Int)} {l : List Int} (h : amE c zss l = 0) : l.Nodup := by
  refine List.pairwise_iff_getElem.2 fun i j hi hj hij e => ?_
  have h1 := (am_in h j hj).2.2.1
  have h2 : nth l j = l[j] := by unfold nth; simp [hj]
  have h3 : l[j] ∈ l.take j := by rw [← e]; exact List.mem_take_iff_getElem.2 ⟨i, by omega, rfl⟩
  rw [h2] at h1
  simp [h3] at h1
theorem bars_same {c : Int} {zss : List (List Int)} (s : Int) (h : corE c zss = 0) : barR c zss s = barsE c zss s := by
  obtain ⟨_, _, _, hr⟩ := cor_rows h
  have hm : ∀ l ∈ zss, ∃ i, i < zss.length ∧ lth zss i = l := fun l hl => by
    obtain ⟨i, hi, rfl⟩ := List.getElem_of_mem hl
    exact ⟨i, hi, by rw [lth_eq, List.getElem?_eq_getElem hi]; rfl⟩
  have hd : ∀ l ∈ zss, l.Nodup := fun l hl => by
    obtain ⟨i, hi, rfl⟩ := hm l hl
    exact nodup_am (hr i hi).2.2
  have hl : ∀ l ∈ zss, l.length = (lth zss 0).length := fun l hl => by
    obtain ⟨i, hi, rfl⟩ := hm l hl
    exact (hr i hi).1
  unfold barR barsE hasN
  rw [tms_nodup zss 0 hd, day_same _ zss 0 hl, List.take_length, Nat.zero_add]
  cases zss with
  | nil => rfl
  | cons l t => rw [if_neg (by simp)]
set_option maxRecDepth 100000 in
theorem rproves_any (c : Int) (a : Option Addr) (cap : Nat) (zss : List (List Int)) (s : Int) (w : World) (hL : LstC w a zss) (hcap : zss.length ≤ cap) (hcm : cap ≤ 9223372036854775807) :
    Calls Try.prog 45 #[.int .i64 c, .slice a zss.length cap, .int .i64 s] w fun e w' => e = .returned (.int .i64 (prvE c zss s)) ∧ Fut w w' := by
  have HC := Lib.hid (rcorner_any c a cap zss w hL hcap hcm)
  unfold prvE
  by_cases hs : corE c zss = 0
  · rw [if_pos hs]
    rw [hs] at HC
    obtain ⟨c1, c5, hn, hrow⟩ := cor_rows hs
    have HB := Lib.hid (fun W (F : Fut w W) => rbars_any c a cap zss s W (hL.fut F) (by omega) (fun k hk => by have := (hrow k hk).2.1; omega) c1 c5 hcap hcm)
    rw [bars_same s hs] at HB
    have hw1 : IntKind.i64.wrap (c - 1) = c - 1 := IntWalk.i64_in _ ⟨by omega, by omega⟩
    have HI := Lib.hid (fun W => rin_any s 0 (c - 1) W)
    have hib : (decide ((0 : Int) ≤ s) && decide (s ≤ c - 1)) = inB c s := by
      unfold inB
      have : decide (s ≤ c - 1) = decide (s < c) := decide_eq_decide.2 (by omega)
      rw [this]
    rw [hib] at HI
    clear hL hs hrow hcap hcm hib
    generalize barsE c zss s = bb at *
    generalize inB c s = ib at *
    generalize hE : (if ib = true then (if bb = true then (0 : Int) else 14) else 2) = E at *
    have HE := Lib.hid hE
    clear hE
    go_enter Try.func45, Try.ntmps45
    go_wp2_with fail
    refine HC.out.mono ?_
    rintro _ w1 ⟨rfl, F1⟩
    have HF1 := Lib.hid F1
    clear F1
    go_wp2_with fail
    refine (HI.out w1).mono ?_
    rintro _ _ ⟨rfl, rfl⟩
    cases ib
    · go_wp2
      go_ret
      exact ⟨ret_int (by rw [← HE.out]; rfl), HF1.out⟩
    · go_wp2_with fail
      refine (HB.out _ HF1.out).mono ?_
      rintro _ _ ⟨rfl, rfl⟩
      cases bb
      · go_wp2
        go_ret
        exact ⟨ret_int (by rw [← HE.out]; rfl), HF1.out⟩
      · go_wp2
        go_ret
        exact ⟨ret_int (by rw [← HE.out]; rfl), HF1.out⟩
  · rw [if_neg hs]
    clear hL hcap hcm
    generalize corE c zss = E at *
    go_enter Try.func45, Try.ntmps45
    go_wp2_with fail
    refine HC.out.mono ?_
    rintro _ w1 ⟨rfl, F1⟩
    have HF1 := Lib.hid F1
    clear F1
    go_wp2
    go_ret
    exact ⟨rfl, HF1.out⟩
end Go.Proofs.Ytpgifeaejjjjnaa
