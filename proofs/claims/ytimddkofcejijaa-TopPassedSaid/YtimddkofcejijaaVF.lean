/- Layer 2, of layer 1: the division by the rule. -/
import Derived.Test.YtimddkofcejijaaVE
namespace Go.Proofs.Ytimddkofcejijaa.Cl
open Go.RowKit Go.Sort
set_option maxRecDepth 100000
set_option maxHeartbeats 1000000 in
theorem divide_lo (x : Int) (a : Option Addr) (cap : Nat) (zs : List Int) (q : Fin 5 → Int) (w : World) (hq : q = fun i => K zs i / 2) (hA : IntsAt w a zs) (hc : chk x zs = 0)
    (hle : x * 120 ≤ q 0 + q 1 + q 2 + q 3 + q 4) :
    Calls Try.prog 50 #[.int .i64 x, .slice a zs.length cap] w fun e w' => ∃ v, e = .returned (.tuple #[v, .int .i64 0]) ∧ Owns w' w.heap.size v ((list5 (lev q zs.length (x * 120))).take zs.length) ∧ RowKit.Below w.heap.size w w' := by
  have hk := known_ok x a cap zs w hA hc
  obtain ⟨h1, h2, h3, _, _⟩ := chk_ok hc
  obtain ⟨hx1, hx2⟩ := chk_bd hc
  have hf := K_pt h3
  have hh : ∀ i, Pt (q i) := fun i => by rw [hq]; have := hf i; exact ⟨by dsimp only; omega, by dsimp only; omega⟩
  have HH : Hid (∀ W, Calls Try.prog 88 #[agg5 (K zs)] W fun r w' => r = .returned (agg5 q) ∧ RowKit.Below W.heap.size W w') := fun W => by rw [hq]; exact half_f (K zs) hf W
  have HS := Lib.hid (fun W => sum_f q hh W)
  have HL := Lib.hid (fun W => level_f zs.length h1 h2 (x * 120) (x * 120) (K zs) q W (by omega) (by omega) hh)
  have HLi := Lib.hid (fun r W => list_f zs.length h1 h2 (x * 120) (K zs) r W)
  generalize hlo : lev q zs.length (x * 120) = lo at HL ⊢
  generalize hfe : K zs = f at hk HH HL HLi
  clear hA hc h3 hfe hlo hq hf hh
  have HK := Lib.hid hk; clear hk
  go_enter Try.func50, Try.ntmps50
  go_wp2_with (first | (go_at_call 87; refine (HK.out).mono ?_; rintro e w1 ⟨rfl, hB⟩) | (go_at_call 88; refine (HH.out _).mono ?_; rintro e w2 ⟨rfl, hB2⟩; obtain ⟨hcc, hff⟩ := bcell hB2))
  have hBs := hB.size
  have hz2 := hB2.size
  simp only [World.size_alloc] at hz2
  have hs2 : w1.heap.size < w2.heap.size := by omega
  go_upto_region 5 with fail
  go_cut [26] (fun s26 wx => s26 = .bool true ∧ cellsH wx w1.heap.size zs.length (x * 120) f ∧ cellsR wx w2.heap.size q ∧ RowKit.Below w.heap.size w wx)
  case first =>
    go_region_held3 (fun w' => w'.cell? ⟨w1.heap.size, 0, none⟩ = some (.int .i64 zs.length) ∧ w'.cell? ⟨w1.heap.size, 1, none⟩ = some (.int .i64 (x * 120)) ∧ w'.cell? ⟨w1.heap.size, 2, none⟩ = some (.int .i64 (f 0)) ∧ w'.cell? ⟨w1.heap.size, 3, none⟩ = some (.int .i64 (f 1)) ∧ w'.cell? ⟨w1.heap.size, 4, none⟩ = some (.int .i64 (f 2)) ∧ w'.cell? ⟨w1.heap.size, 5, none⟩ = some (.int .i64 (f 3)) ∧ w'.cell? ⟨w1.heap.size, 6, none⟩ = some (.int .i64 (f 4)) ∧ w'.cell? ⟨w2.heap.size, 0, none⟩ = some (.int .i64 (q 0)) ∧ w'.cell? ⟨w2.heap.size, 1, none⟩ = some (.int .i64 (q 1)) ∧ w'.cell? ⟨w2.heap.size, 2, none⟩ = some (.int .i64 (q 2)) ∧ w'.cell? ⟨w2.heap.size, 3, none⟩ = some (.int .i64 (q 3)) ∧ w'.cell? ⟨w2.heap.size, 4, none⟩ = some (.int .i64 (q 4))) (simp [go_sem, *]) (first
      | (go_at_call 89; refine (HS.out _).mono ?_; rintro r w3 ⟨rfl, hB3⟩; obtain ⟨hcc3, hff3⟩ := bcell hB3; have hz3 := hB3.size; (try simp at hz3); have hs3 : w1.heap.size < w3.heap.size := (by omega); have hs3' : w2.heap.size < w3.heap.size := (by omega)))
    all_goals (go_wp2_with fail; go_meet)
    all_goals
      have b2 : RowKit.Below w.heap.size w w2 := (hB.alloc hB.size _).trans (hB2.mono (by simp; omega))
      have b3 : RowKit.Below w.heap.size w w3 := (b2.alloc b2.size _).drew.trans (hB3.mono (by simp; omega))
      refine ⟨by simp, ?_, ?_, b3⟩
      · simp [cellsH, go_sem, *]
      · simp [cellsR, go_sem, *]
  case rest =>
    obtain ⟨rfl, hh, hr, hBc⟩ := hcut
    obtain ⟨r0, r1, r2, r3, r4⟩ := hr
    obtain ⟨c0, c1, c2, c3, c4, c5, c6⟩ := hh
    have hgb : w2.heap.size < wc.heap.size := World.block_lt_of_cell? wc _ r0
    have hhb : w1.heap.size < wc.heap.size := World.block_lt_of_cell? wc _ c0
    clear hcc hff
    go_wp2_with fail
    go_region_held3 (fun w' => w'.cell? ⟨w1.heap.size, 0, none⟩ = some (.int .i64 zs.length) ∧ w'.cell? ⟨w1.heap.size, 1, none⟩ = some (.int .i64 (x * 120)) ∧ w'.cell? ⟨w1.heap.size, 2, none⟩ = some (.int .i64 (f 0)) ∧ w'.cell? ⟨w1.heap.size, 3, none⟩ = some (.int .i64 (f 1)) ∧ w'.cell? ⟨w1.heap.size, 4, none⟩ = some (.int .i64 (f 2)) ∧ w'.cell? ⟨w1.heap.size, 5, none⟩ = some (.int .i64 (f 3)) ∧ w'.cell? ⟨w1.heap.size, 6, none⟩ = some (.int .i64 (f 4)) ∧ w'.cell? ⟨w2.heap.size, 0, none⟩ = some (.int .i64 (q 0)) ∧ w'.cell? ⟨w2.heap.size, 1, none⟩ = some (.int .i64 (q 1)) ∧ w'.cell? ⟨w2.heap.size, 2, none⟩ = some (.int .i64 (q 2)) ∧ w'.cell? ⟨w2.heap.size, 3, none⟩ = some (.int .i64 (q 3)) ∧ w'.cell? ⟨w2.heap.size, 4, none⟩ = some (.int .i64 (q 4))) (simp [go_sem, *]) (first
      | (go_at_call 91; refine (HL.out _).mono ?_; rintro r w3 ⟨rfl, hB3⟩; obtain ⟨hcc, hff⟩ := bcellD hB3; have hz3 := hB3.size; (try simp at hz3); have hs3 : w1.heap.size < w3.heap.size := (by omega); have hs3' : w2.heap.size < w3.heap.size := (by omega))
      | (go_at_call 90; refine (HLi.out _ _).mono ?_; rintro r w4 ⟨v, rfl, hO, hB4⟩; obtain ⟨hcc3, hff3⟩ := bcell hB4))
    all_goals go_wp2
    all_goals go_ret2
    exact ⟨v, rfl, hO.base (by have := hBc.size; omega), (hBc.drew.trans (hB3.mono hBc.size)).trans (hB4.mono (by have := hBc.size; omega))⟩
set_option maxHeartbeats 1000000 in
theorem divide_hi (x : Int) (a : Option Addr) (cap : Nat) (zs : List Int) (q : Fin 5 → Int) (w : World) (hq : q = fun i => K zs i / 2) (hA : IntsAt w a zs) (hc : chk x zs = 0)
    (hle : q 0 + q 1 + q 2 + q 3 + q 4 < x * 120) :
    Calls Try.prog 50 #[.int .i64 x, .slice a zs.length cap] w fun e w' => ∃ v, e = .returned (.tuple #[v, .int .i64 0]) ∧ Owns w' w.heap.size v ((list5 (fun i => K zs i - lev q zs.length (zs.sum * 120 - x * 120) i)).take zs.length) ∧ RowKit.Below w.heap.size w w' := by
  have hk := known_ok x a cap zs w hA hc
  obtain ⟨h1, h2, h3, _, h5⟩ := chk_ok hc
  obtain ⟨hx1, hx2⟩ := chk_bd hc
  have hf := K_pt h3
  have hsb := sum_bd h3
  have hp0 : 0 ≤ zs.sum * 120 - x * 120 := by omega
  have hh : ∀ i, Pt (q i) := fun i => by rw [hq]; have := hf i; exact ⟨by dsimp only; omega, by dsimp only; omega⟩
  have HH : Hid (∀ W, Calls Try.prog 88 #[agg5 (K zs)] W fun r w' => r = .returned (agg5 q) ∧ RowKit.Below W.heap.size W w') := fun W => by rw [hq]; exact half_f (K zs) hf W
  have HS := Lib.hid (fun W => sum_f q hh W)
  have HM : Hid (∀ W, Calls Try.prog 92 #[hv zs.length (x * 120) (K zs 0) (K zs 1) (K zs 2) (K zs 3) (K zs 4)] W fun r w' => r = .returned (.int .i64 (zs.sum * 120 - x * 120)) ∧ RowKit.Below W.heap.size W w') := fun W => by
    have := missing_f zs.length (x * 120) (K zs) ⟨by omega, by omega⟩ hf W; rw [K_sum h2] at this; exact this
  have HL := Lib.hid (fun W => level_f zs.length h1 h2 (x * 120) (zs.sum * 120 - x * 120) (K zs) q W hp0 (by omega) hh)
  have hlp := lev_pt q zs.length (zs.sum * 120 - x * 120) h2 hp0 hh
  have HW := Lib.hid (fun W => without_f (K zs) _ hf hlp W)
  have HLi := Lib.hid (fun r W => list_f zs.length h1 h2 (x * 120) (K zs) r W)
  generalize zs.sum * 120 - x * 120 = p at HL HM HW hp0 hlp ⊢
  generalize hlo : lev q zs.length p = lo at HL HW hlp ⊢
  generalize hfe : K zs = f at hk HH HL HLi HM HW ⊢
  clear hA hc h3 hfe hlo hq hf hh hlp
  have HK := Lib.hid hk; clear hk
  go_enter Try.func50, Try.ntmps50
  go_wp2_with (first | (go_at_call 87; refine (HK.out).mono ?_; rintro e w1 ⟨rfl, hB⟩) | (go_at_call 88; refine (HH.out _).mono ?_; rintro e w2 ⟨rfl, hB2⟩; obtain ⟨hcc, hff⟩ := bcell hB2))
  have hBs := hB.size
  have hz2 := hB2.size
  simp only [World.size_alloc] at hz2
  have hs2 : w1.heap.size < w2.heap.size := by omega
  go_upto_region 5 with fail
  go_cut [26] (fun s26 wx => s26 = .bool false ∧ cellsH wx w1.heap.size zs.length (x * 120) f ∧ cellsR wx w2.heap.size q ∧ RowKit.Below w.heap.size w wx)
  case first =>
    go_region_held3 (fun w' => w'.cell? ⟨w1.heap.size, 0, none⟩ = some (.int .i64 zs.length) ∧ w'.cell? ⟨w1.heap.size, 1, none⟩ = some (.int .i64 (x * 120)) ∧ w'.cell? ⟨w1.heap.size, 2, none⟩ = some (.int .i64 (f 0)) ∧ w'.cell? ⟨w1.heap.size, 3, none⟩ = some (.int .i64 (f 1)) ∧ w'.cell? ⟨w1.heap.size, 4, none⟩ = some (.int .i64 (f 2)) ∧ w'.cell? ⟨w1.heap.size, 5, none⟩ = some (.int .i64 (f 3)) ∧ w'.cell? ⟨w1.heap.size, 6, none⟩ = some (.int .i64 (f 4)) ∧ w'.cell? ⟨w2.heap.size, 0, none⟩ = some (.int .i64 (q 0)) ∧ w'.cell? ⟨w2.heap.size, 1, none⟩ = some (.int .i64 (q 1)) ∧ w'.cell? ⟨w2.heap.size, 2, none⟩ = some (.int .i64 (q 2)) ∧ w'.cell? ⟨w2.heap.size, 3, none⟩ = some (.int .i64 (q 3)) ∧ w'.cell? ⟨w2.heap.size, 4, none⟩ = some (.int .i64 (q 4))) (simp [go_sem, *]) (first
      | (go_at_call 89; refine (HS.out _).mono ?_; rintro r w3 ⟨rfl, hB3⟩; obtain ⟨hcc3, hff3⟩ := bcell hB3; have hz3 := hB3.size; (try simp at hz3); have hs3 : w1.heap.size < w3.heap.size := (by omega); have hs3' : w2.heap.size < w3.heap.size := (by omega)))
    all_goals (go_wp2_with fail; go_meet)
    all_goals
      have b2 : RowKit.Below w.heap.size w w2 := (hB.alloc hB.size _).trans (hB2.mono (by simp; omega))
      have b3 : RowKit.Below w.heap.size w w3 := (b2.alloc b2.size _).drew.trans (hB3.mono (by simp; omega))
      refine ⟨by simp; omega, ?_, ?_, b3⟩
      · simp [cellsH, go_sem, *]
      · simp [cellsR, go_sem, *]
  case rest =>
    obtain ⟨rfl, hh, hr, hBc⟩ := hcut
    obtain ⟨r0, r1, r2, r3, r4⟩ := hr
    obtain ⟨c0, c1, c2, c3, c4, c5, c6⟩ := hh
    have hgb : w2.heap.size < wc.heap.size := World.block_lt_of_cell? wc _ r0
    have hhb : w1.heap.size < wc.heap.size := World.block_lt_of_cell? wc _ c0
    have hgb' : w2.heap.size < wc.heap.size + 1 := by omega
    have hhb' : w1.heap.size < wc.heap.size + 1 := by omega
    clear hcc hff hB2
    go_upto_region 7 with fail
    go_cut [9] (fun s9 wx => ∃ g : Nat, s9 = .pointer (some ⟨g, 0, none⟩) ∧ cellsR wx g lo ∧ (cellsH wx w1.heap.size zs.length (x * 120) f) ∧ RowKit.Below w.heap.size w wx)
    case first =>
      go_region_held3 (fun w' => w'.cell? ⟨w1.heap.size, 0, none⟩ = some (.int .i64 zs.length) ∧ w'.cell? ⟨w1.heap.size, 1, none⟩ = some (.int .i64 (x * 120)) ∧ w'.cell? ⟨w1.heap.size, 2, none⟩ = some (.int .i64 (f 0)) ∧ w'.cell? ⟨w1.heap.size, 3, none⟩ = some (.int .i64 (f 1)) ∧ w'.cell? ⟨w1.heap.size, 4, none⟩ = some (.int .i64 (f 2)) ∧ w'.cell? ⟨w1.heap.size, 5, none⟩ = some (.int .i64 (f 3)) ∧ w'.cell? ⟨w1.heap.size, 6, none⟩ = some (.int .i64 (f 4)) ∧ w'.cell? ⟨w2.heap.size, 0, none⟩ = some (.int .i64 (q 0)) ∧ w'.cell? ⟨w2.heap.size, 1, none⟩ = some (.int .i64 (q 1)) ∧ w'.cell? ⟨w2.heap.size, 2, none⟩ = some (.int .i64 (q 2)) ∧ w'.cell? ⟨w2.heap.size, 3, none⟩ = some (.int .i64 (q 3)) ∧ w'.cell? ⟨w2.heap.size, 4, none⟩ = some (.int .i64 (q 4))) (simp [go_sem, *]) (first
        | (go_at_call 92; refine (HM.out _).mono ?_; rintro r w3 ⟨rfl, hB3⟩; obtain ⟨hcc, hff⟩ := bcellD hB3; have hz3 := hB3.size; (try simp at hz3); have hs3 : w1.heap.size < w3.heap.size := (by omega); have hs3' : w2.heap.size < w3.heap.size := (by omega); have hs4 : w1.heap.size < w3.heap.size + 1 := (by omega); have hs4' : w2.heap.size < w3.heap.size + 1 := (by omega); (try (rcases Nat.lt_or_ge wc.heap.size w3.heap.size with hs5 | hs5; rotate_left; (exfalso; omega))))
        | (go_at_call 91; refine (HL.out _).mono ?_; rintro r w4 ⟨rfl, hB4⟩; obtain ⟨hcc3, hff3⟩ := bcell hB4; have hz4 := hB4.size; (try simp at hz4); have ht3 : w1.heap.size < w4.heap.size := (by omega); have ht3' : w2.heap.size < w4.heap.size := (by omega); (try (rcases Nat.lt_or_ge wc.heap.size w4.heap.size with ht5 | ht5; rotate_left; (exfalso; omega))); (try (rcases Nat.lt_or_ge w3.heap.size w4.heap.size with ht6 | ht6; rotate_left; (exfalso; omega)))))
      all_goals (go_wp2_with fail; go_meet)
      all_goals
        have b3 : RowKit.Below w.heap.size w w3 := by
          first
          | exact hBc.drew.trans (hB3.mono hBc.size)
          | exact (hBc.alloc hBc.size _).drew.trans (hB3.mono (by have := hBc.size; simp; omega))
        have b4 : RowKit.Below w.heap.size w w4 := by
          first
          | exact b3.trans (hB4.mono b3.size)
          | exact (b3.alloc b3.size _).trans (hB4.mono (by have := b3.size; simp; omega))
        have s1 := hBc.size
        refine ⟨_, rfl, ?_, ?_, ?_⟩
        · simp [cellsR, go_sem, *]
        · simp [cellsH, go_sem, *]
        · first
          | exact b4.alloc b4.size _
          | exact ((((b4.setCell (by dsimp only; omega) _).setCell (by dsimp only; omega) _).setCell (by dsimp only; omega) _).setCell (by dsimp only; omega) _).setCell (by dsimp only; omega) _
    case rest =>
      obtain ⟨g, rfl, hr, hh, hBd⟩ := hcut
      obtain ⟨r0, r1, r2, r3, r4⟩ := hr
      obtain ⟨c0, c1, c2, c3, c4, c5, c6⟩ := hh
      have hgb : g < wc.heap.size := World.block_lt_of_cell? wc _ r0
      have hhb : w1.heap.size < wc.heap.size := World.block_lt_of_cell? wc _ c0
      go_wp2_with fail
      go_region_held3 (fun w' => w'.cell? ⟨w1.heap.size, 0, none⟩ = some (.int .i64 zs.length) ∧ w'.cell? ⟨w1.heap.size, 1, none⟩ = some (.int .i64 (x * 120)) ∧ w'.cell? ⟨w1.heap.size, 2, none⟩ = some (.int .i64 (f 0)) ∧ w'.cell? ⟨w1.heap.size, 3, none⟩ = some (.int .i64 (f 1)) ∧ w'.cell? ⟨w1.heap.size, 4, none⟩ = some (.int .i64 (f 2)) ∧ w'.cell? ⟨w1.heap.size, 5, none⟩ = some (.int .i64 (f 3)) ∧ w'.cell? ⟨w1.heap.size, 6, none⟩ = some (.int .i64 (f 4)) ∧ w'.cell? ⟨g, 0, none⟩ = some (.int .i64 (lo 0)) ∧ w'.cell? ⟨g, 1, none⟩ = some (.int .i64 (lo 1)) ∧ w'.cell? ⟨g, 2, none⟩ = some (.int .i64 (lo 2)) ∧ w'.cell? ⟨g, 3, none⟩ = some (.int .i64 (lo 3)) ∧ w'.cell? ⟨g, 4, none⟩ = some (.int .i64 (lo 4))) (simp [go_sem, *]) (first
        | (go_at_call 93; refine (HW.out _).mono ?_; rintro r w3 ⟨rfl, hB3⟩; obtain ⟨hcc, hff⟩ := bcellD hB3; have hz3 := hB3.size; (try simp at hz3); have hs3 : w1.heap.size < w3.heap.size := (by omega); have hs3' : g < w3.heap.size := (by omega))
        | (go_at_call 90; refine (HLi.out _ _).mono ?_; rintro r w4 ⟨v, rfl, hO, hB4⟩; obtain ⟨hcc3, hff3⟩ := bcell hB4))
      all_goals go_wp2
      all_goals go_ret2
      exact ⟨v, rfl, hO.base (by have := hBd.size; omega), (hBd.drew.trans (hB3.mono hBd.size)).trans (hB4.mono (by have := hBd.size; omega))⟩
theorem divide_err (x : Int) (a : Option Addr) (cap : Nat) (zs : List Int) (w : World) (hl : zs.length ≤ 9223372036854775807) (hA : IntsAt w a zs) (hc : chk x zs ≠ 0) :
    Calls Try.prog 50 #[.int .i64 x, .slice a zs.length cap] w fun e w' => e = .returned (.tuple #[.slice none 0 0, .int .i64 (chk x zs)]) ∧ RowKit.Below w.heap.size w w' := by
  have hk := known_err x a cap zs w hl hA hc
  have hne' : (chk x zs != 0) = true := by simpa using hc
  generalize chk x zs = r at hk hne' ⊢
  clear hA hc
  have HK := Lib.hid hk; clear hk
  go_enter Try.func50, Try.ntmps50
  go_wp2_with (go_at_call 87; refine (HK.out).mono ?_; rintro e w1 ⟨rfl, hB⟩)
  go_ret2
  exact ⟨rfl, hB.alloc hB.size _⟩
end Go.Proofs.Ytimddkofcejijaa.Cl
