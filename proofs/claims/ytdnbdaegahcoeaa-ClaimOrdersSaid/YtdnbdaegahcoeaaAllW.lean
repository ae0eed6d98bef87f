/- Layer 1: what all hands back. -/
import Derived.Test.YtdnbdaegahcoeaaGarmB
namespace Go.Proofs.Ytdnbdaegahcoeaa
open Go.RowKit Go.Sort
/-- the four divisions, in the order in which all hands them back. -/
def DkL (x : Int) (zs : List Int) : Nat → List Int
  | 0 => gD x zs
  | 1 => spG x zs
  | 2 => spL x zs
  | _ => gA x zs
theorem dk_isDiv {x : Int} {zs : List Int} (h : Full5 x zs) (k : Nat) : IsDiv zs x (DkL x zs k) := by
  obtain ⟨h0, h1, h2, h3⟩ := fd_isDiv h
  match k with
  | 0 => exact h0
  | 1 => exact h1
  | 2 => exact h2
  | k + 3 => exact h3
abbrev sl4 (ad : Nat → Option Addr) (cp : Nat → Nat) (n : Nat) : Value := .agg #[.slice (ad 0) n (cp 0), .slice (ad 1) n (cp 1), .slice (ad 2) n (cp 2), .slice (ad 3) n (cp 3)]
def AllPost (x : Int) (zs : List Int) (w : World) (e : Ending) (w' : World) : Prop :=
  ∃ (ad : Nat → Option Addr) (cp : Nat → Nat), e = .returned (.tuple #[sl4 ad cp zs.length, .bool true]) ∧ (∀ k, IntsAt w' (ad k) (DkL x zs k)) ∧ Fut w w'
theorem all_post (x : Int) (zs : List Int) (w w' : World) (a b c d : Option Addr) (ca cb cc cd : Nat) (ha : IntsAt w' a (gD x zs)) (hb : IntsAt w' b (spG x zs)) (hc : IntsAt w' c (spL x zs)) (hd : IntsAt w' d (gA x zs)) (hF : Fut w w') :
    AllPost x zs w (.returned (.tuple #[.agg #[.slice a zs.length ca, .slice b zs.length cb, .slice c zs.length cc, .slice d zs.length cd], .bool true])) w' :=
  ⟨fun | 0 => a | 1 => b | 2 => c | _ => d, fun | 0 => ca | 1 => cb | 2 => cc | _ => cd, rfl, fun k => by
    match k with
    | 0 => exact ha
    | 1 => exact hb
    | 2 => exact hc
    | k + 3 => exact hd, hF⟩
theorem ints_setV {w : World} {a : Option Addr} {zs : List Int} {g k : Nat} {v u : Value} (h : IntsAt w a zs) (hc : w.cell? ⟨g, k, none⟩ = some u) (hu : ∀ z, u ≠ .int .i64 z) : IntsAt (w.setCell ⟨g, k, none⟩ v) a zs := fun j hj => by
  obtain ⟨b, off, rfl, h1, h2⟩ := h j hj
  refine ⟨b, off, rfl, by simpa [World.setCell] using h1, ?_⟩
  rw [World.cell?_setCell_other]
  · exact h2
  · intro e
    rw [← e, hc] at h2
    injection h2 with h2
    exact hu _ h2
theorem row4_new (w w1 : World) (F : Fut (w.alloc (.cells #[.slice none 0 0, .slice none 0 0, .slice none 0 0, .slice none 0 0] 55)) w1) :
    w1.cell? ⟨w.heap.size, 0, none⟩ = some (.slice none 0 0) ∧ w1.cell? ⟨w.heap.size, 1, none⟩ = some (.slice none 0 0) ∧ w1.cell? ⟨w.heap.size, 2, none⟩ = some (.slice none 0 0) ∧ w1.cell? ⟨w.heap.size, 3, none⟩ = some (.slice none 0 0) ∧
    w1.frozen? ⟨w.heap.size, 0, none⟩ = false ∧ w1.frozen? ⟨w.heap.size, 1, none⟩ = false ∧ w1.frozen? ⟨w.heap.size, 2, none⟩ = false ∧ w1.frozen? ⟨w.heap.size, 3, none⟩ = false := by
  have hh : w1.heap[w.heap.size]? = some (.cells #[.slice none 0 0, .slice none 0 0, .slice none 0 0, .slice none 0 0] 55 (0, 0)) := by
    rw [RowKit.Below.block F w.heap.size (by simp)]; exact heap_alloc_new w _
  have hc : ∀ j, w1.cell? ⟨w.heap.size, j, none⟩ = #[Value.slice none 0 0, .slice none 0 0, .slice none 0 0, .slice none 0 0][j]? := fun j => cell_of_row w1 _ j _ _ _ hh
  have hf : ∀ j, w1.frozen? ⟨w.heap.size, j, none⟩ = false := fun j => frozen_of_row w1 _ j _ _ hh
  exact ⟨hc 0, hc 1, hc 2, hc 3, hf 0, hf 1, hf 2, hf 3⟩
set_option maxRecDepth 100000 in
set_option maxHeartbeats 1000000 in
theorem all_any (x : Int) (zs : List Int) (l : Option Addr) (cap : Nat) (w : World) (h : Full5 x zs) (hA : IntsAt w l zs) : Calls Try.prog 45 #[.int .i64 x, .slice l zs.length cap] w (AllPost x zs w) := by
  have HK := Lib.hid h
  have hA := hA.fut (Fut.alloc w (.cells #[.slice none 0 0, .slice none 0 0, .slice none 0 0, .slice none 0 0] 55))
  have F1 : Fut (w.alloc (.cells #[.slice none 0 0, .slice none 0 0, .slice none 0 0, .slice none 0 0] 55)) (w.alloc (.cells #[.slice none 0 0, .slice none 0 0, .slice none 0 0, .slice none 0 0] 55)) := Fut.rfl
  clear h
  go_enter Try.func45, Try.ntmps45
  go_wp2_with fail
  refine (du_div x zs l cap _ HK.out hA).mono ?_
  rintro _ v1 ⟨a1, ca1, rfl, ha1, F⟩
  replace hA := hA.fut F
  replace F1 := F1.trans F
  clear F
  go_wp2_with fail
  refine (du_gain x zs l cap _ HK.out hA).mono ?_
  rintro _ v2 ⟨b1, cb1, rfl, hb1, F⟩
  replace hA := hA.fut F
  replace ha1 := ha1.fut F
  replace F1 := F1.trans F
  clear F
  go_wp2_with fail
  refine (du_loss x zs l cap _ HK.out hA).mono ?_
  rintro _ v3 ⟨c1, cc1, rfl, hc1, F⟩
  replace hA := hA.fut F
  replace ha1 := ha1.fut F
  replace hb1 := hb1.fut F
  replace F1 := F1.trans F
  clear F
  go_wp2_with fail
  refine (du_avg x zs l cap _ HK.out hA).mono ?_
  rintro _ v4 ⟨d1, cd1, rfl, hd1, F⟩
  replace hA := hA.fut F
  replace ha1 := ha1.fut F
  replace hb1 := hb1.fut F
  replace hc1 := hc1.fut F
  replace F1 := F1.trans F
  clear F
  go_wp2_with fail
  refine (st_dvn x zs _ l a1 cap ca1 _ HK.out (fd_isDiv HK.out).1 hA ha1).mono ?_
  rintro _ _ ⟨rfl, rfl⟩
  go_wp2_with fail
  refine (st_dvn x zs _ l b1 cap cb1 _ HK.out (fd_isDiv HK.out).2.1 hA hb1).mono ?_
  rintro _ _ ⟨rfl, rfl⟩
  go_wp2_with fail
  refine (st_dvn x zs _ l c1 cap cc1 _ HK.out (fd_isDiv HK.out).2.2.1 hA hc1).mono ?_
  rintro _ _ ⟨rfl, rfl⟩
  go_wp2_with fail
  refine (st_dvn x zs _ l d1 cap cd1 _ HK.out (fd_isDiv HK.out).2.2.2 hA hd1).mono ?_
  rintro _ _ ⟨rfl, rfl⟩
  obtain ⟨c0, c1', c2, c3, f0, f1, f2, f3⟩ := row4_new w _ F1
  have hsz : w.heap.size < v4.heap.size := World.block_lt_of_cell? _ _ c0
  have HF1 := Lib.hid F1
  clear F1
  go_wp2_with fail
  have hq := HF1.out
  have hF := (Fut.alloc w (.cells #[.slice none 0 0, .slice none 0 0, .slice none 0 0, .slice none 0 0] 55)).trans hq
  refine bodyPost_ret (v := .tuple #[.agg #[.slice a1 zs.length ca1, .slice b1 zs.length cb1, .slice c1 zs.length cc1, .slice d1 zs.length cd1], .bool true]) (by simp [results, Try.results45, go_sem, c0, c1', c2, c3]) rfl ?_
  have k1 : ∀ v, (v4.setCell ⟨w.heap.size, 0, none⟩ v).cell? ⟨w.heap.size, 1, none⟩ = some (.slice none 0 0) := fun v => (World.cell?_setCell_other _ _ _ _ (by simp)).trans c1'
  have k2 : ∀ v u, ((v4.setCell ⟨w.heap.size, 0, none⟩ v).setCell ⟨w.heap.size, 1, none⟩ u).cell? ⟨w.heap.size, 2, none⟩ = some (.slice none 0 0) := fun v u => (World.cell?_setCell_other _ _ _ _ (by simp)).trans ((World.cell?_setCell_other _ _ _ _ (by simp)).trans c2)
  have k3 : ∀ v u t, (((v4.setCell ⟨w.heap.size, 0, none⟩ v).setCell ⟨w.heap.size, 1, none⟩ u).setCell ⟨w.heap.size, 2, none⟩ t).cell? ⟨w.heap.size, 3, none⟩ = some (.slice none 0 0) := fun v u t => (World.cell?_setCell_other _ _ _ _ (by simp)).trans ((World.cell?_setCell_other _ _ _ _ (by simp)).trans ((World.cell?_setCell_other _ _ _ _ (by simp)).trans c3))
  have hs : ∀ {zs : List Int} {a : Option Addr}, IntsAt v4 a zs → ∀ p q r s, IntsAt ((((v4.setCell ⟨w.heap.size, 0, none⟩ p).setCell ⟨w.heap.size, 1, none⟩ q).setCell ⟨w.heap.size, 2, none⟩ r).setCell ⟨w.heap.size, 3, none⟩ s) a zs := fun h p q r s =>
    ints_setV (ints_setV (ints_setV (ints_setV h c0 (by simp)) (k1 _) (by simp)) (k2 _ _) (by simp)) (k3 _ _ _) (by simp)
  exact all_post x zs w _ a1 b1 c1 d1 ca1 cb1 cc1 cd1 (hs ha1 _ _ _ _) (hs hb1 _ _ _ _) (hs hc1 _ _ _ _) (hs hd1 _ _ _ _) ((((hF.setCell (p := ⟨w.heap.size, 0, none⟩) (Nat.le_refl _) _).setCell (p := ⟨w.heap.size, 1, none⟩) (Nat.le_refl _) _).setCell (p := ⟨w.heap.size, 2, none⟩) (Nat.le_refl _) _).setCell (p := ⟨w.heap.size, 3, none⟩) (Nat.le_refl _) _)
end Go.Proofs.Ytdnbdaegahcoeaa
