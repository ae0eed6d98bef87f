/- Layer 1: equal gains and equal losses. -/
import Derived.Test.YtdnbdaegahcoeaaD
import Derived.Deep.DeepCutAuto
namespace Go.Proofs.Ytdnbdaegahcoeaa
open Go.RowKit Go.Sort
theorem levRun_pt (m : Fin 5 → Int) (n : Nat) (hm : ∀ i, Pt (m i)) : ∀ (o : List (Fin 5)) (k : Nat) (p : Int) (g : Fin 5 → Int), k + o.length ≤ n → 0 ≤ p → (∀ i, Pt (g i)) → ∀ i, Pt (levRun m n k o p g i)
  | [], _, _, _, _, _, hg, i => hg i
  | j :: o, k, p, g, hk, hp, hg, i => by
    simp only [List.length_cons] at hk
    have h0 : 0 ≤ p / ((n : Int) - k) := Int.ediv_nonneg hp (by omega : (0 : Int) ≤ (n : Int) - k)
    have h1 : p / ((n : Int) - k) ≤ p := Int.ediv_le_self _ hp
    have hmj := hm j
    refine levRun_pt m n hm o (k + 1) _ _ (by omega) (by omega) (fun i => ?_) i
    unfold upd
    split
    · exact ⟨by omega, by omega⟩
    · exact hg i
theorem sum5 : ∀ {zs : List Int}, zs.length ≤ 5 → zs.sum = nth zs 0 + nth zs 1 + nth zs 2 + nth zs 3 + nth zs 4
  | [], _ => rfl
  | [a], _ => by simp [nth]
  | [a, b], _ => by simp [nth]
  | [a, b, c], _ => by simp [nth]; omega
  | [a, b, c, d], _ => by simp [nth]; omega
  | [a, b, c, d, e], _ => by simp [nth]; omega
  | _ :: _ :: _ :: _ :: _ :: _ :: _, h => by simp at h
theorem K_sum {zs : List Int} (h : zs.length ≤ 5) : K zs 0 + K zs 1 + K zs 2 + K zs 3 + K zs 4 = zs.sum * 120 := by
  rw [sum5 h]; show nth zs 0 * 120 + nth zs 1 * 120 + nth zs 2 * 120 + nth zs 3 * 120 + nth zs 4 * 120 = _; omega
abbrev agg5 (f : Fin 5 → Int) : Value := .agg #[.int .i64 (f 0), .int .i64 (f 1), .int .i64 (f 2), .int .i64 (f 3), .int .i64 (f 4)]
theorem sum_f (f : Fin 5 → Int) (hf : ∀ i, Pt (f i)) (w : World) : Calls Try.prog 56 #[agg5 f] w fun r w' => r = .returned (.int .i64 (f 0 + f 1 + f 2 + f 3 + f 4)) ∧ RowKit.Below w.heap.size w w' :=
  sum_any _ _ _ _ _ w (hf 0) (hf 1) (hf 2) (hf 3) (hf 4)
theorem half_f (f : Fin 5 → Int) (hf : ∀ i, Pt (f i)) (w : World) : Calls Try.prog 55 #[agg5 f] w fun r w' => r = .returned (agg5 fun i => f i / 2) ∧ RowKit.Below w.heap.size w w' :=
  half_any _ _ _ _ _ w (hf 0) (hf 1) (hf 2) (hf 3) (hf 4)
theorem without_f (f g : Fin 5 → Int) (hf : ∀ i, Pt (f i)) (hg : ∀ i, Pt (g i)) (w : World) : Calls Try.prog 60 #[agg5 f, agg5 g] w fun r w' => r = .returned (agg5 fun i => f i - g i) ∧ RowKit.Below w.heap.size w w' :=
  without_any _ _ _ _ _ _ _ _ _ _ w (hf 0) (hf 1) (hf 2) (hf 3) (hf 4) (hg 0) (hg 1) (hg 2) (hg 3) (hg 4)
theorem missing_f (n x : Int) (f : Fin 5 → Int) (hx : 0 ≤ x ∧ x ≤ 10000000) (hf : ∀ i, Pt (f i)) (w : World) : Calls Try.prog 59 #[hv n x (f 0) (f 1) (f 2) (f 3) (f 4)] w fun r w' => r = .returned (.int .i64 (f 0 + f 1 + f 2 + f 3 + f 4 - x)) ∧ RowKit.Below w.heap.size w w' :=
  missing_any _ _ _ _ _ _ _ w hx (hf 0) (hf 1) (hf 2) (hf 3) (hf 4)
def lev (m : Fin 5 → Int) (n : Nat) (p : Int) : Fin 5 → Int := levRun m n 0 (sorted5 m (idx5 n)).toList p (fun _ => 0)
theorem level_f (n : Nat) (h1 : 1 ≤ n) (h5 : n ≤ 5) (x p : Int) (f m : Fin 5 → Int) (w : World) (hp : 0 ≤ p) (hp' : p ≤ 10000000) (hm : ∀ i, Pt (m i)) :
    Calls Try.prog 58 #[hv n x (f 0) (f 1) (f 2) (f 3) (f 4), .int .i64 p, agg5 m] w fun r w' => r = .returned (agg5 (lev m n p)) ∧ RowKit.Below w.heap.size w w' :=
  level_any n h1 h5 x _ _ _ _ _ p m w hp hp' hm
theorem list_f (n : Nat) (h1 : 1 ≤ n) (h5 : n ≤ 5) (x : Int) (f r : Fin 5 → Int) (w : World) :
    Calls Try.prog 57 #[hv n x (f 0) (f 1) (f 2) (f 3) (f 4), agg5 r] w fun t w' => ∃ v, t = .returned v ∧ Owns w' w.heap.size v ((list5 r).take n) ∧ RowKit.Below w.heap.size w w' :=
  list_any n h1 h5 x _ _ _ _ _ r w
/-- what is said of a division, or of an error. -/
abbrev cellsH (w' : World) (b : Nat) (n : Nat) (x : Int) (f : Fin 5 → Int) : Prop :=
  w'.cell? ⟨b, 0, none⟩ = some (.int .i64 n) ∧ w'.cell? ⟨b, 1, none⟩ = some (.int .i64 x) ∧ w'.cell? ⟨b, 2, none⟩ = some (.int .i64 (f 0)) ∧ w'.cell? ⟨b, 3, none⟩ = some (.int .i64 (f 1)) ∧ w'.cell? ⟨b, 4, none⟩ = some (.int .i64 (f 2)) ∧ w'.cell? ⟨b, 5, none⟩ = some (.int .i64 (f 3)) ∧ w'.cell? ⟨b, 6, none⟩ = some (.int .i64 (f 4))
theorem cellsH.below {w w' : World} {b n : Nat} {x : Int} {f : Fin 5 → Int} (hB : RowKit.Below w.heap.size w w') (h : cellsH w b n x f) : cellsH w' b n x f := by
  have hb : b < w.heap.size := World.block_lt_of_cell? w _ h.1
  obtain ⟨hc, _⟩ := bcell hB
  obtain ⟨h0, h1, h2, h3, h4, h5, h6⟩ := h
  refine ⟨?_, ?_, ?_, ?_, ?_, ?_, ?_⟩ <;> rw [hc _ _ hb] <;> assumption
abbrev cellsR (w' : World) (b : Nat) (g : Fin 5 → Int) : Prop :=
  w'.cell? ⟨b, 0, none⟩ = some (.int .i64 (g 0)) ∧ w'.cell? ⟨b, 1, none⟩ = some (.int .i64 (g 1)) ∧ w'.cell? ⟨b, 2, none⟩ = some (.int .i64 (g 2)) ∧ w'.cell? ⟨b, 3, none⟩ = some (.int .i64 (g 3)) ∧ w'.cell? ⟨b, 4, none⟩ = some (.int .i64 (g 4))
theorem cellsR.below {w w' : World} {b : Nat} {g : Fin 5 → Int} (hB : RowKit.Below w.heap.size w w') (h : cellsR w b g) : cellsR w' b g := by
  have hb : b < w.heap.size := World.block_lt_of_cell? w _ h.1
  obtain ⟨hc, _⟩ := bcell hB
  obtain ⟨h0, h1, h2, h3, h4⟩ := h
  refine ⟨?_, ?_, ?_, ?_, ?_⟩ <;> rw [hc _ _ hb] <;> assumption
theorem bcellD {W w1 : World} (hb : RowKit.Below W.drew.heap.size W.drew w1) : (∀ b o, b < W.heap.size → w1.cell? ⟨b, o, none⟩ = W.cell? ⟨b, o, none⟩) ∧ (∀ b o, b < W.heap.size → w1.frozen? ⟨b, o, none⟩ = W.frozen? ⟨b, o, none⟩) := bcell (W := W.drew) hb
theorem gains_err (x : Int) (a : Option Addr) (cap : Nat) (zs : List Int) (w : World) (hl : zs.length ≤ 9223372036854775807) (hA : IntsAt w a zs) (hc : chk x zs ≠ 0) :
    Calls Try.prog 19 #[.int .i64 x, .slice a zs.length cap] w fun e w' => e = .returned (.tuple #[.slice none 0 0, .int .i64 (chk x zs)]) ∧ RowKit.Below w.heap.size w w' := by
  have hk := known_err x a cap zs w hl hA hc
  have hne' : (chk x zs != 0) = true := by simpa using hc
  generalize chk x zs = r at hk hne' ⊢
  clear hA hc
  have HK := Lib.hid hk; clear hk
  go_enter Try.func19, Try.ntmps19
  go_wp2_with (go_at_call 54; refine (HK.out).mono ?_; rintro e w1 ⟨rfl, hB⟩)
  go_ret2
  exact ⟨rfl, hB.alloc hB.size _⟩
set_option maxHeartbeats 1000000 in
theorem gains_ok (x : Int) (a : Option Addr) (cap : Nat) (zs : List Int) (w : World) (hA : IntsAt w a zs) (hc : chk x zs = 0) :
    Calls Try.prog 19 #[.int .i64 x, .slice a zs.length cap] w fun e w' => ∃ v, e = .returned (.tuple #[v, .int .i64 0]) ∧ Owns w' w.heap.size v ((list5 (lev (K zs) zs.length (x * 120))).take zs.length) ∧ RowKit.Below w.heap.size w w' := by
  have hk := known_ok x a cap zs w hA hc
  obtain ⟨h1, h2, h3, _, _⟩ := chk_ok hc
  obtain ⟨hx1, hx2⟩ := chk_bd hc
  have hf := K_pt h3
  have HL := Lib.hid (fun W => level_f zs.length h1 h2 (x * 120) (x * 120) (K zs) (K zs) W (by omega) (by omega) hf)
  have HLi := Lib.hid (fun r W => list_f zs.length h1 h2 (x * 120) (K zs) r W)
  generalize hfe : K zs = f at hk hf HL HLi ⊢
  clear hA hc h3 hfe
  have HK := Lib.hid hk; clear hk
  go_enter Try.func19, Try.ntmps19
  go_wp2_with (go_at_call 54; refine (HK.out).mono ?_; rintro e w1 ⟨rfl, hB⟩)
  have hBs := hB.size
  go_region_held3 (fun w' => w'.cell? ⟨w1.heap.size, 0, none⟩ = some (.int .i64 zs.length) ∧ w'.cell? ⟨w1.heap.size, 1, none⟩ = some (.int .i64 (x * 120)) ∧ w'.cell? ⟨w1.heap.size, 2, none⟩ = some (.int .i64 (f 0)) ∧ w'.cell? ⟨w1.heap.size, 3, none⟩ = some (.int .i64 (f 1)) ∧ w'.cell? ⟨w1.heap.size, 4, none⟩ = some (.int .i64 (f 2)) ∧ w'.cell? ⟨w1.heap.size, 5, none⟩ = some (.int .i64 (f 3)) ∧ w'.cell? ⟨w1.heap.size, 6, none⟩ = some (.int .i64 (f 4))) (simp [go_sem, *]) (first
      | (go_at_call 58; refine (HL.out _).mono ?_; rintro r w2 ⟨rfl, hB2⟩; obtain ⟨hcc, hff⟩ := bcell hB2; have hs2 : w1.heap.size < w2.heap.size := by (have := hB2.size; simp at this; omega))
      | (go_at_call 57; refine (HLi.out _ _).mono ?_; rintro r w3 ⟨v, rfl, hO, hB3⟩; obtain ⟨hcc3, hff3⟩ := bcell hB3))
  all_goals go_wp2
  all_goals go_ret2
  exact ⟨v, rfl, hO.base (by omega), ((hB.alloc hB.size _).drew.trans (hB2.mono (by simp; omega))).trans (hB3.mono (by omega))⟩
theorem lev_pt (m : Fin 5 → Int) (n : Nat) (p : Int) (hn : n ≤ 5) (hp : 0 ≤ p) (hm : ∀ i, Pt (m i)) (i : Fin 5) : Pt (lev m n p i) := by
  refine levRun_pt m n hm _ 0 p _ ?_ hp (fun _ => ⟨by decide, by decide⟩) i
  have := sorted5_size m (idx5 n)
  have h2 : (idx5 n).size = n := by simp [idx5]; omega
  simp only [Array.length_toList]; omega
set_option maxHeartbeats 1000000 in
theorem losses_ok (x : Int) (a : Option Addr) (cap : Nat) (zs : List Int) (w : World) (hA : IntsAt w a zs) (hc : chk x zs = 0) :
    Calls Try.prog 21 #[.int .i64 x, .slice a zs.length cap] w fun e w' => ∃ v, e = .returned (.tuple #[v, .int .i64 0]) ∧ Owns w' w.heap.size v ((list5 (fun i => K zs i - lev (K zs) zs.length (zs.sum * 120 - x * 120) i)).take zs.length) ∧ RowKit.Below w.heap.size w w' := by
  have hk := known_ok x a cap zs w hA hc
  obtain ⟨h1, h2, h3, _, h5⟩ := chk_ok hc
  obtain ⟨hx1, hx2⟩ := chk_bd hc
  have hf := K_pt h3
  have hsb := sum_bd h3
  have hp0 : 0 ≤ zs.sum * 120 - x * 120 := by omega
  have hMi := fun W => missing_f zs.length (x * 120) (K zs) ⟨by omega, by omega⟩ hf W
  have hMi' : ∀ W, Calls Try.prog 59 #[hv zs.length (x * 120) (K zs 0) (K zs 1) (K zs 2) (K zs 3) (K zs 4)] W fun r w' => r = .returned (.int .i64 (zs.sum * 120 - x * 120)) ∧ RowKit.Below W.heap.size W w' := fun W => by
    have := hMi W; rw [K_sum h2] at this; exact this
  have HM := Lib.hid hMi'; clear hMi hMi'
  have HL := Lib.hid (fun W => level_f zs.length h1 h2 (x * 120) (zs.sum * 120 - x * 120) (K zs) (K zs) W hp0 (by omega) hf)
  have hlp := lev_pt (K zs) zs.length (zs.sum * 120 - x * 120) h2 hp0 hf
  have HW := Lib.hid (fun W => without_f (K zs) _ hf hlp W)
  have HLi := Lib.hid (fun r W => list_f zs.length h1 h2 (x * 120) (K zs) r W)
  generalize zs.sum * 120 - x * 120 = p at HL HM HW hp0 hlp ⊢
  generalize hgl : lev (K zs) zs.length p = lo at HL HW hlp ⊢
  generalize hfe : K zs = f at hk hf HL HLi HM HW ⊢
  clear hA hc h3 hfe hgl hlp
  have HK := Lib.hid hk; clear hk
  go_enter Try.func21, Try.ntmps21
  go_wp2_with (go_at_call 54; refine (HK.out).mono ?_; rintro e w1 ⟨rfl, hB⟩)
  have hBs := hB.size
  go_upto_region 4 with fail
  go_cut [8] (fun s8 wx => ∃ g : Nat, s8 = .pointer (some ⟨g, 0, none⟩) ∧ cellsR wx g lo ∧ cellsH wx w1.heap.size zs.length (x * 120) f ∧ RowKit.Below w.heap.size w wx)
  case first =>
    go_region_held3 (fun w' => w'.cell? ⟨w1.heap.size, 0, none⟩ = some (.int .i64 zs.length) ∧ w'.cell? ⟨w1.heap.size, 1, none⟩ = some (.int .i64 (x * 120)) ∧ w'.cell? ⟨w1.heap.size, 2, none⟩ = some (.int .i64 (f 0)) ∧ w'.cell? ⟨w1.heap.size, 3, none⟩ = some (.int .i64 (f 1)) ∧ w'.cell? ⟨w1.heap.size, 4, none⟩ = some (.int .i64 (f 2)) ∧ w'.cell? ⟨w1.heap.size, 5, none⟩ = some (.int .i64 (f 3)) ∧ w'.cell? ⟨w1.heap.size, 6, none⟩ = some (.int .i64 (f 4))) (simp [go_sem, *]) (first
        | (go_at_call 59; refine (HM.out _).mono ?_; rintro r w2 ⟨rfl, hB2⟩; obtain ⟨hcc, hff⟩ := bcell hB2; have hz2 := hB2.size; (try simp at hz2); have hs2 : w1.heap.size < w2.heap.size := (by omega); (try (rcases Nat.lt_or_ge (w1.heap.size + 1) w2.heap.size with hs2' | hs2'; rotate_left; (exfalso; omega))))
        | (go_at_call 58; refine (HL.out _).mono ?_; rintro r w3 ⟨rfl, hB3⟩; obtain ⟨hcc3, hff3⟩ := bcell hB3; have hz3 := hB3.size; (try simp at hz3); have hs3 : w1.heap.size < w3.heap.size := (by omega); (try (rcases Nat.lt_or_ge w2.heap.size w3.heap.size with hs4' | hs4'; rotate_left; (exfalso; omega)))))
    all_goals (go_wp2_with fail; go_meet)
    all_goals
      have b2 : RowKit.Below w.heap.size w w2 := by
        first
        | exact (hB.alloc hB.size _).drew.trans (hB2.mono (by simp; omega))
        | exact ((hB.alloc hB.size _).alloc (by simp; omega) _).drew.trans (hB2.mono (by simp; omega))
      have b3 : RowKit.Below w.heap.size w w3 := by
        first
        | exact b2.trans (hB3.mono (by omega))
        | exact (b2.alloc b2.size _).trans (hB3.mono (by simp; omega))
      have s2 := b2.size
      refine ⟨_, rfl, ?_, by assumption, ?_⟩
      · simp [cellsR, go_sem, *]
      · first
        | exact b3.alloc b3.size _
        | exact ((((b3.setCell (by dsimp only; omega) _).setCell (by dsimp only; omega) _).setCell (by dsimp only; omega) _).setCell (by dsimp only; omega) _).setCell (by dsimp only; omega) _
  case rest =>
    obtain ⟨g, rfl, hr, hh, hBc⟩ := hcut
    obtain ⟨r0, r1, r2, r3, r4⟩ := hr
    obtain ⟨c0, c1, c2, c3, c4, c5, c6⟩ := hh
    have hgb : g < wc.heap.size := World.block_lt_of_cell? wc _ r0
    have hhb : w1.heap.size < wc.heap.size := World.block_lt_of_cell? wc _ c0
    go_wp2_with fail
    go_region_held3 (fun w' => w'.cell? ⟨w1.heap.size, 0, none⟩ = some (.int .i64 zs.length) ∧ w'.cell? ⟨w1.heap.size, 1, none⟩ = some (.int .i64 (x * 120)) ∧ w'.cell? ⟨w1.heap.size, 2, none⟩ = some (.int .i64 (f 0)) ∧ w'.cell? ⟨w1.heap.size, 3, none⟩ = some (.int .i64 (f 1)) ∧ w'.cell? ⟨w1.heap.size, 4, none⟩ = some (.int .i64 (f 2)) ∧ w'.cell? ⟨w1.heap.size, 5, none⟩ = some (.int .i64 (f 3)) ∧ w'.cell? ⟨w1.heap.size, 6, none⟩ = some (.int .i64 (f 4)) ∧ w'.cell? ⟨g, 0, none⟩ = some (.int .i64 (lo 0)) ∧ w'.cell? ⟨g, 1, none⟩ = some (.int .i64 (lo 1)) ∧ w'.cell? ⟨g, 2, none⟩ = some (.int .i64 (lo 2)) ∧ w'.cell? ⟨g, 3, none⟩ = some (.int .i64 (lo 3)) ∧ w'.cell? ⟨g, 4, none⟩ = some (.int .i64 (lo 4))) (simp [go_sem, *]) (first
      | (go_at_call 60; refine (HW.out _).mono ?_; rintro r w2 ⟨rfl, hB2⟩; obtain ⟨hcc, hff⟩ := bcellD hB2; have hz2 := hB2.size; (try simp at hz2); have hs2 : w1.heap.size < w2.heap.size := (by omega); have hs2' : g < w2.heap.size := (by omega))
      | (go_at_call 57; refine (HLi.out _ _).mono ?_; rintro r w3 ⟨v, rfl, hO, hB3⟩; obtain ⟨hcc3, hff3⟩ := bcell hB3))
    all_goals go_wp2
    all_goals go_ret2
    exact ⟨v, rfl, hO.base (by have := hBc.size; omega), (hBc.drew.trans (hB2.mono hBc.size)).trans (hB3.mono (by have := hBc.size; omega))⟩
end Go.Proofs.Ytdnbdaegahcoeaa
