/- Layer 2, of layer 1: what is known of houses, and rows of parts. -/
import Derived.Test.YtimddkofcejijaaVC
import Derived.Shelf.Slices.Clone
namespace Go.Proofs.Ytimddkofcejijaa.Cl
open Go.RowKit Go.Sort
set_option maxRecDepth 100000
def cRen : Go.Shelf.Ren := ⟨fun | 15 => 108 | n => n, fun | 22 => 25 | n => n, fun n => n⟩
theorem cLay : Lays2.n15 Try.prog cRen :=
  { mixed := (by kernel_rfl)
    f15 := Try.func108.trans (congrArg some (by kernel_rfl))
    t3 := Try.underlying3
    a3 := Try.isAgg3
    z3 := Try.sizeOf3
    v3 := Try.zeroValue3
    t4 := Try.underlying4
    a4 := Try.isAgg4
    z4 := Try.sizeOf4
    v4 := Try.zeroValue4
    t22 := Try.underlying25
    a22 := Try.isAgg25
    z22 := Try.sizeOf25
    v22 := Try.zeroValue25
    i3 := by kernel_rfl }
/-- a slice in memory of the call's own that holds these numbers. -/
def Owns (w : World) (B : Nat) (v : Value) (zs : List Int) : Prop := w.ownsRow B 3 1 v zs.length (zs.map (Value.int .i64))
theorem Owns.base {w : World} {B B' : Nat} {v : Value} {zs : List Int} (h : Owns w B v zs) (hB : B' ≤ B) : Owns w B' v zs := by
  obtain ⟨h1, h2⟩ := h
  refine ⟨h1, ?_⟩
  rcases h2 with h2 | ⟨g, cap, cur, h3, h4, h5⟩
  · exact .inl h2
  · exact .inr ⟨g, cap, cur, h3, by omega, h5⟩
def list5 (r : Fin 5 → Int) : List Int := [r 0, r 1, r 2, r 3, r 4]
theorem clone_any (b off n c : Nat) (zs : List Int) (w : World) (hz : n ≤ zs.length) (hbig : n * 8 ≤ 140737488355328) (hc : ∀ j, j < zs.length → w.cell? ⟨b, off + j, none⟩ = some (.int .i64 (nth zs j))) :
    Calls Try.prog 108 #[.slice (some ⟨b, off, none⟩) n c] w fun e w' => ∃ v', e = .returned v' ∧ Owns w' w.heap.size v' (zs.take n) ∧ RowKit.Below w.heap.size w w' := by
  refine (Any.slices_Clone_int cLay b off n c zs w hz hbig hc).mono ?_
  rintro e w' ⟨v', h1, h2, _, h4⟩
  refine ⟨v', h1, ?_, h4⟩
  have e1 : (zs.take n).length = n := by simp; omega
  unfold Owns
  rw [e1]; exact h2
theorem list_any (n : Nat) (h1 : 1 ≤ n) (h5 : n ≤ 5) (x a b c d e : Int) (r : Fin 5 → Int) (w : World) :
    Calls Try.prog 90 #[hv n x a b c d e, .agg (cells5 r)] w fun t w' => ∃ v, t = .returned v ∧ Owns w' w.heap.size v ((list5 r).take n) ∧ RowKit.Below w.heap.size w w' := by
  have hn5 : (n : Int) ≤ 5 := by omega
  go_enter Try.func90, Try.ntmps90
  go_wp2_with fail
  refine (clone_any (w.heap.size + 1) 0 n 5 (list5 r) _ (by simp [list5]; omega) (by omega) ?_).mono ?_
  · intro j hj
    have hj' : j < 5 := hj
    rw [World.cell?_alloc_at _ _ _ _ (by simp)]
    have := cells5_get r ⟨j, hj'⟩
    simp only [Nat.zero_add]
    refine this.trans ?_
    congr 2
    (obtain rfl | rfl | rfl | rfl | rfl : j = 0 ∨ j = 1 ∨ j = 2 ∨ j = 3 ∨ j = 4 := by omega) <;> rfl
  rintro t w1 ⟨v, rfl, hO, hB⟩
  go_wp2
  go_ret
  refine ⟨v, rfl, hO.base (by simp; omega), ?_⟩
  exact ((((RowKit.Below.refl _ _).alloc (Nat.le_refl _) _).alloc (by simp) _)).trans (hB.mono (by simp; omega))
theorem sum_any (a b c d e : Int) (w : World) (ha : Pt a) (hb : Pt b) (hc : Pt c) (hd : Pt d) (he : Pt e) : Calls Try.prog 89 #[row5 a b c d e] w fun r w' => r = .returned (.int .i64 (a + b + c + d + e)) ∧ RowKit.Below w.heap.size w w' := by
  obtain ⟨ha, ha'⟩ := ha; obtain ⟨hb, hb'⟩ := hb; obtain ⟨hc, hc'⟩ := hc; obtain ⟨hd, hd'⟩ := hd; obtain ⟨he, he'⟩ := he
  have i0 : ∀ w, (Instr.index 109 (.agg #[.int .i64 a, .int .i64 b, .int .i64 c, .int .i64 d, .int .i64 e]) (.int .i64 0)).run Try.prog w = .ok (.int .i64 a) w := fun _ => by kernel_rfl
  have i1 : ∀ w, (Instr.index 109 (.agg #[.int .i64 a, .int .i64 b, .int .i64 c, .int .i64 d, .int .i64 e]) (.int .i64 1)).run Try.prog w = .ok (.int .i64 b) w := fun _ => by kernel_rfl
  have i2 : ∀ w, (Instr.index 109 (.agg #[.int .i64 a, .int .i64 b, .int .i64 c, .int .i64 d, .int .i64 e]) (.int .i64 2)).run Try.prog w = .ok (.int .i64 c) w := fun _ => by kernel_rfl
  have i3 : ∀ w, (Instr.index 109 (.agg #[.int .i64 a, .int .i64 b, .int .i64 c, .int .i64 d, .int .i64 e]) (.int .i64 3)).run Try.prog w = .ok (.int .i64 d) w := fun _ => by kernel_rfl
  have i4 : ∀ w, (Instr.index 109 (.agg #[.int .i64 a, .int .i64 b, .int .i64 c, .int .i64 d, .int .i64 e]) (.int .i64 4)).run Try.prog w = .ok (.int .i64 e) w := fun _ => by kernel_rfl
  go_enter Try.func89, Try.ntmps89
  go_wp2
  refine wp_loop_rounds 6 ?_
  iterate 6 (rw [rounds_succ]; go_wp2)
  go_ret
  exact ⟨rfl, (RowKit.Below.refl _ _).alloc (Nat.le_refl _) _⟩
theorem half_any (a b c d e : Int) (w : World) (ha : Pt a) (hb : Pt b) (hc : Pt c) (hd : Pt d) (he : Pt e) : Calls Try.prog 88 #[row5 a b c d e] w fun r w' => r = .returned (row5 (a/2) (b/2) (c/2) (d/2) (e/2)) ∧ RowKit.Below w.heap.size w w' := by
  obtain ⟨ha, ha'⟩ := ha; obtain ⟨hb, hb'⟩ := hb; obtain ⟨hc, hc'⟩ := hc; obtain ⟨hd, hd'⟩ := hd; obtain ⟨he, he'⟩ := he
  go_enter Try.func88, Try.ntmps88
  go_wp2
  refine wp_loop_rounds 6 ?_
  iterate 6 (rw [rounds_succ]; go_wp2)
  refine bodyPost_ret (v := row5 (a/2) (b/2) (c/2) (d/2) (e/2)) (by simp [results, Try.results88, go_sem]) rfl ⟨rfl, ?_⟩
  exact ((RowKit.Below.refl _ _).alloc (Nat.le_refl _) _).alloc (by simp) _
theorem without_any (a b c d e p q r s t : Int) (w : World) (ha : Pt a) (hb : Pt b) (hc : Pt c) (hd : Pt d) (he : Pt e) (hp : Pt p) (hq : Pt q) (hr : Pt r) (hs : Pt s) (ht : Pt t) : Calls Try.prog 93 #[row5 a b c d e, row5 p q r s t] w fun x w' => x = .returned (row5 (a-p) (b-q) (c-r) (d-s) (e-t)) ∧ RowKit.Below w.heap.size w w' := by
  obtain ⟨ha, ha'⟩ := ha; obtain ⟨hb, hb'⟩ := hb; obtain ⟨hc, hc'⟩ := hc; obtain ⟨hd, hd'⟩ := hd; obtain ⟨he, he'⟩ := he
  obtain ⟨hp, hp'⟩ := hp; obtain ⟨hq, hq'⟩ := hq; obtain ⟨hr, hr'⟩ := hr; obtain ⟨hs, hs'⟩ := hs; obtain ⟨ht, ht'⟩ := ht
  go_enter Try.func93, Try.ntmps93
  go_wp2
  refine wp_loop_rounds 6 ?_
  iterate 5 (rw [rounds_succ]; go_wp2; go_region; go_wp2)
  rw [rounds_succ]; go_wp2
  refine bodyPost_ret (v := row5 (a-p) (b-q) (c-r) (d-s) (e-t)) (by simp [results, Try.results93, go_sem]) rfl ⟨rfl, ?_⟩
  exact ((((((((RowKit.Below.refl _ _).alloc (Nat.le_refl _) _).alloc (by simp) _).alloc (by simp; omega) _).drew).drew).drew).drew).drew
theorem missing_any (n x a b c d e : Int) (w : World) (hx : 0 ≤ x ∧ x ≤ 10000000) (ha : Pt a) (hb : Pt b) (hc : Pt c) (hd : Pt d) (he : Pt e) : Calls Try.prog 92 #[hv n x a b c d e] w fun r w' => r = .returned (.int .i64 (a + b + c + d + e - x)) ∧ RowKit.Below w.heap.size w w' := by
  obtain ⟨hx, hx'⟩ := hx
  have k1 := ha.1; have k2 := hb.1; have k3 := hc.1; have k4 := hd.1; have k5 := he.1
  have k1' := ha.2; have k2' := hb.2; have k3' := hc.2; have k4' := hd.2; have k5' := he.2
  have hwr : IntKind.i64.wrap (a + b + c + d + e - x) = a + b + c + d + e - x := IntWalk.i64_in _ ⟨by omega, by omega⟩
  go_enter Try.func92, Try.ntmps92
  go_wp2
  go_region_held3 (fun w' => w'.cell? ⟨w.heap.size, 1, none⟩ = some (.int .i64 x) ∧ w'.cell? ⟨w.heap.size, 2, none⟩ = some (.int .i64 a) ∧ w'.cell? ⟨w.heap.size, 3, none⟩ = some (.int .i64 b) ∧ w'.cell? ⟨w.heap.size, 4, none⟩ = some (.int .i64 c) ∧ w'.cell? ⟨w.heap.size, 5, none⟩ = some (.int .i64 d) ∧ w'.cell? ⟨w.heap.size, 6, none⟩ = some (.int .i64 e)) (simp [go_sem, *]) (first
      | (go_at_call 89; refine (sum_any _ _ _ _ _ _ ha hb hc hd he).mono ?_; rintro r w1 ⟨rfl, hB⟩; obtain ⟨hcc, hff⟩ := bcell hB))
  all_goals go_wp2
  all_goals go_ret
  exact ⟨rfl, ((RowKit.Below.refl _ _).alloc (Nat.le_refl _) _).drew.trans (hB.mono (by simp))⟩

theorem nth_bd {zs : List Int} (h : zs.all isClaimB = true) (i : Nat) : 0 ≤ nth zs i ∧ nth zs i ≤ 1000 := by
  unfold nth
  by_cases hi : i < zs.length
  · rw [List.getElem?_eq_getElem hi]
    have := List.all_eq_true.1 h zs[i] (List.getElem_mem hi)
    simp only [isClaimB, decide_eq_true_eq] at this
    simp only [Option.getD_some]; omega
  · rw [List.getElem?_eq_none (by omega)]; simp
theorem chk_ok {x : Int} {zs : List Int} (h : chk x zs = 0) : 1 ≤ zs.length ∧ zs.length ≤ 5 ∧ zs.all isClaimB = true ∧ 0 ≤ x ∧ x ≤ zs.sum := by
  unfold chk at h
  split at h
  · omega
  split at h
  · omega
  split at h
  · rename_i h1 h2 h3
    simp only [Bool.and_eq_true, decide_eq_true_eq] at h3
    exact ⟨by omega, by omega, h3.1.1, h3.1.2, h3.2⟩
  · omega
theorem sum_bd : ∀ {zs : List Int}, zs.all isClaimB = true → 0 ≤ zs.sum ∧ zs.sum ≤ 1000 * zs.length
  | [], _ => by simp
  | c :: zs, h => by
    simp only [List.all_cons, Bool.and_eq_true] at h
    have h1 := sum_bd h.2
    have h2 : 1 ≤ c ∧ c ≤ 1000 := by simpa [isClaimB] using h.1
    simp only [List.sum_cons, List.length_cons]; omega
theorem chk_bd {x : Int} {zs : List Int} (h : chk x zs = 0) : 0 ≤ x ∧ x ≤ 5000 := by
  obtain ⟨_, h2, h3, h4, h5⟩ := chk_ok h
  have := sum_bd h3; omega
/-- claims in parts. -/
def K (zs : List Int) : Fin 5 → Int := fun i => nth zs i.val * 120
theorem K_pt {zs : List Int} (h : zs.all isClaimB = true) (i : Fin 5) : Pt (K zs i) := by
  have := nth_bd h i.val; unfold K; constructor <;> omega
theorem IntsAt.addr {w : World} {a : Option Addr} {zs : List Int} (h : IntsAt w a zs) (h0 : 0 < zs.length) :
    ∃ b off, a = some ⟨b, off, none⟩ ∧ b < w.heap.size ∧ ∀ j, j < zs.length → w.cell? ⟨b, off + j, none⟩ = some (.int .i64 (nth zs j)) := by
  obtain ⟨b, off, rfl, h1, _⟩ := h 0 h0
  refine ⟨b, off, rfl, h1, fun j hj => ?_⟩
  obtain ⟨b', off', e, _, h2⟩ := h j hj
  cases e; exact h2
theorem known_ok (x : Int) (a : Option Addr) (cap : Nat) (zs : List Int) (w : World) (hA : IntsAt w a zs) (hc : chk x zs = 0) :
    Calls Try.prog 87 #[.int .i64 x, .slice a zs.length cap] w fun e w' => e = .returned (.tuple #[hv zs.length (x * 120) (K zs 0) (K zs 1) (K zs 2) (K zs 3) (K zs 4), .int .i64 0]) ∧ RowKit.Below w.heap.size w w' := by
  obtain ⟨h1, h2, h3, _, _⟩ := chk_ok hc
  obtain ⟨hx1, hx2⟩ := chk_bd hc
  have hk : ∀ o, Calls Try.prog 107 #[.int .i64 x, .slice a zs.length cap] (w.alloc o) fun e w'' => e = .returned (.int .i64 0) ∧ w.alloc o = w'' := fun o => by
    have := check_any x a cap zs (w.alloc o) (by omega) (hA.below ((RowKit.Below.refl _ _).alloc (Nat.le_refl _) o))
    rw [hc] at this; exact this
  obtain ⟨b, off, rfl, hb, hcell⟩ := hA.addr h1
  have hbd : ∀ j, j < zs.length → 1 ≤ nth zs j ∧ nth zs j ≤ 1000 := fun j hj => by
    have := List.all_eq_true.1 h3 zs[j] (List.getElem_mem hj)
    simp only [isClaimB, decide_eq_true_eq] at this
    unfold nth; rw [List.getElem?_eq_getElem hj]; simpa using this
  have e0 : ∀ j, zs.length ≤ j → nth zs j * 120 = 0 := fun j hj => by unfold nth; rw [List.getElem?_eq_none hj]; rfl
  clear hA h3 hc
  unfold K
  show Calls _ _ _ _ fun e w' => e = .returned (.tuple #[hv zs.length (x * 120) (nth zs 0 * 120) (nth zs 1 * 120) (nth zs 2 * 120) (nth zs 3 * 120) (nth zs 4 * 120), .int .i64 0]) ∧ _
  (obtain hn | hn | hn | hn | hn : zs.length = 1 ∨ zs.length = 2 ∨ zs.length = 3 ∨ zs.length = 4 ∨ zs.length = 5 := by omega)
  · rw [hn] at hk ⊢
    rw [e0 1 (by omega), e0 2 (by omega), e0 3 (by omega), e0 4 (by omega)]
    exact known1 x b off cap (nth zs 0) w hx1 hx2 (hbd 0 (by omega)).1 (hbd 0 (by omega)).2 hb (hcell 0 (by omega)) hk
  · rw [hn] at hk ⊢
    rw [e0 2 (by omega), e0 3 (by omega), e0 4 (by omega)]
    exact known2 x b off cap (nth zs 0) (nth zs 1) w hx1 hx2 (hbd 0 (by omega)).1 (hbd 0 (by omega)).2 (hbd 1 (by omega)).1 (hbd 1 (by omega)).2 hb (hcell 0 (by omega)) (hcell 1 (by omega)) hk
  · rw [hn] at hk ⊢
    rw [e0 3 (by omega), e0 4 (by omega)]
    exact known3 x b off cap (nth zs 0) (nth zs 1) (nth zs 2) w hx1 hx2 (hbd 0 (by omega)).1 (hbd 0 (by omega)).2 (hbd 1 (by omega)).1 (hbd 1 (by omega)).2 (hbd 2 (by omega)).1 (hbd 2 (by omega)).2 hb (hcell 0 (by omega)) (hcell 1 (by omega)) (hcell 2 (by omega)) hk
  · rw [hn] at hk ⊢
    rw [e0 4 (by omega)]
    exact known4 x b off cap (nth zs 0) (nth zs 1) (nth zs 2) (nth zs 3) w hx1 hx2 (hbd 0 (by omega)).1 (hbd 0 (by omega)).2 (hbd 1 (by omega)).1 (hbd 1 (by omega)).2 (hbd 2 (by omega)).1 (hbd 2 (by omega)).2 (hbd 3 (by omega)).1 (hbd 3 (by omega)).2 hb (hcell 0 (by omega)) (hcell 1 (by omega)) (hcell 2 (by omega)) (hcell 3 (by omega)) hk
  · rw [hn] at hk ⊢
    exact known5 x b off cap (nth zs 0) (nth zs 1) (nth zs 2) (nth zs 3) (nth zs 4) w hx1 hx2 (hbd 0 (by omega)).1 (hbd 0 (by omega)).2 (hbd 1 (by omega)).1 (hbd 1 (by omega)).2 (hbd 2 (by omega)).1 (hbd 2 (by omega)).2 (hbd 3 (by omega)).1 (hbd 3 (by omega)).2 (hbd 4 (by omega)).1 (hbd 4 (by omega)).2 hb (hcell 0 (by omega)) (hcell 1 (by omega)) (hcell 2 (by omega)) (hcell 3 (by omega)) (hcell 4 (by omega)) hk
theorem known_err (x : Int) (a : Option Addr) (cap : Nat) (zs : List Int) (w : World) (hl : zs.length ≤ 9223372036854775807) (hA : IntsAt w a zs) (hc : chk x zs ≠ 0) :
    Calls Try.prog 87 #[.int .i64 x, .slice a zs.length cap] w fun e w' => e = .returned (.tuple #[hv 0 0 0 0 0 0 0, .int .i64 (chk x zs)]) ∧ RowKit.Below w.heap.size w w' := by
  have hk : ∀ o, Calls Try.prog 107 #[.int .i64 x, .slice a zs.length cap] (w.alloc o) fun e w'' => e = .returned (.int .i64 (chk x zs)) ∧ w.alloc o = w'' := fun o =>
    check_any x a cap zs (w.alloc o) hl (hA.below ((RowKit.Below.refl _ _).alloc (Nat.le_refl _) o))
  have hne : (chk x zs == 0) = false := by simpa using hc
  have hne' : (chk x zs != 0) = true := by simpa using hc
  generalize chk x zs = r at hk hne hne' ⊢
  clear hA hc
  have HK := Lib.hid hk; clear hk
  go_enter Try.func87, Try.ntmps87
  go_wp2_with (go_at_call 107; refine (HK.out _).mono ?_; rintro e w' ⟨rfl, rfl⟩)
  refine bodyPost_ret (v := .tuple #[hv 0 0 0 0 0 0 0, .int .i64 r]) (by simp [results, Try.results87, go_sem]) rfl ⟨rfl, ?_⟩
  exact (RowKit.Below.refl _ _).alloc (Nat.le_refl _) _
end Go.Proofs.Ytimddkofcejijaa.Cl
