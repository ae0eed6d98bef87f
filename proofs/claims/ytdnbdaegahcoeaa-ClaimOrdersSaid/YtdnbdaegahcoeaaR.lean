/- Layer 1: the division on the average. -/
import Derived.Test.YtdnbdaegahcoeaaQ
import Derived.Deep.DeepCutAuto
namespace Go.Proofs.Ytdnbdaegahcoeaa
open Go.RowKit Go.Sort
theorem But.below {s B : Nat} {a b : World} (h : But s a b) (hs : B ≤ s) (hB : B ≤ a.heap.size) : RowKit.Below B a b :=
  ⟨h.os, h.tape, h.output, h.size, fun k hk => h.block k (by omega) (by omega)⟩
theorem cellsH.drew {w : World} {b n : Nat} {x : Int} {f : Fin 5 → Int} (h : cellsH w b n x f) : cellsH w.drew b n x f := h
def idxL (n : Nat) : List (Fin 5) := [0, 1, 2, 3, 4].take n
theorem idxL_length (n : Nat) (h : n ≤ 5) : (idxL n).length = n := by simp [idxL]; omega
theorem numbers_ord (n : Nat) (h1 : 1 ≤ n) (h5 : n ≤ 5) (x a b c d e : Int) (w : World) : Calls Try.prog 74 #[hv n x a b c d e] w fun r w' =>
    r = .returned (.slice (some ⟨w.heap.size + 1, 0, none⟩) n n) ∧ OrdAt w' (w.heap.size + 1) (idxL n) ∧ RowKit.Below w.heap.size w w' ∧ w'.heap.size = w.heap.size + 2 := by
  have hB : ∀ o o', RowKit.Below w.heap.size w ((w.alloc o).alloc o') := fun o o' => ((RowKit.Below.refl _ _).alloc (Nat.le_refl _) o).alloc (by simp) o'
  have hH : ∀ (o : Obj) (os : List (Fin 5)), OrdAt ((w.alloc o).alloc (.cells (os.map enc5).toArray 3)) (w.heap.size + 1) os := fun o os => by
    have := heap_alloc_new (w.alloc o) (.cells (os.map enc5).toArray 3)
    rw [World.size_alloc] at this; exact this
  match n, h1, h5 with
  | 1, _, _ => exact (numbers1 x a b c d e w).mono fun r w' ⟨h, h'⟩ => by subst h'; exact ⟨h, hH _ (idxL 1), hB _ _, by simp⟩
  | 2, _, _ => exact (numbers2 x a b c d e w).mono fun r w' ⟨h, h'⟩ => by subst h'; exact ⟨h, hH _ (idxL 2), hB _ _, by simp⟩
  | 3, _, _ => exact (numbers3 x a b c d e w).mono fun r w' ⟨h, h'⟩ => by subst h'; exact ⟨h, hH _ (idxL 3), hB _ _, by simp⟩
  | 4, _, _ => exact (numbers4 x a b c d e w).mono fun r w' ⟨h, h'⟩ => by subst h'; exact ⟨h, hH _ (idxL 4), hB _ _, by simp⟩
  | 5, _, _ => exact (numbers5 x a b c d e w).mono fun r w' ⟨h, h'⟩ => by subst h'; exact ⟨h, hH _ (idxL 5), hB _ _, by simp⟩
set_option maxRecDepth 100000 in
set_option maxHeartbeats 2000000 in
theorem average_ok (x : Int) (a : Option Addr) (cap : Nat) (zs : List Int) (w : World) (hA : IntsAt w a zs) (hc : chk x zs = 0) :
    Calls Try.prog 30 #[.int .i64 x, .slice a zs.length cap] w fun e w' => ∃ v, e = .returned (.tuple #[v, .int .i64 0]) ∧ Owns w' w.heap.size v ((list5 (fun i => addAll (K zs) (x * 120) (vis zs.length (idxL zs.length) 0) (fun _ => 0) i / (fct zs.length : Int))).take zs.length) ∧ RowKit.Below w.heap.size w w' := by
  have hk := known_ok x a cap zs w hA hc
  obtain ⟨h1, h2, h3, _, _⟩ := chk_ok hc
  obtain ⟨hx1, hx2⟩ := chk_bd hc
  have hf := K_pt h3
  have hfn : fct zs.length ≤ 120 := fct_le h2
  have hf0 : 1 ≤ fct zs.length := by
    (obtain hn | hn | hn | hn | hn : zs.length = 1 ∨ zs.length = 2 ∨ zs.length = 3 ∨ zs.length = 4 ∨ zs.length = 5 := by omega) <;> rw [hn] <;> decide
  have HN := Lib.hid (fun W => numbers_ord zs.length h1 h2 (x * 120) (K zs 0) (K zs 1) (K zs 2) (K zs 3) (K zs 4) W)
  have HAd : Hid (∀ (ob sb : Nat) W, ob ≠ sb → OrdAt W ob (idxL zs.length) → RowAt W sb (fun _ => 0) → Calls Try.prog 73 #[hv zs.length (x * 120) (K zs 0) (K zs 1) (K zs 2) (K zs 3) (K zs 4), .slice (some ⟨ob, 0, none⟩) zs.length zs.length, .int .i64 0, .pointer (some ⟨sb, 0, none⟩)] W fun e w' =>
      e = .returned (.int .i64 (fct zs.length : Int)) ∧ RowAt w' sb (addAll (K zs) (x * 120) (vis zs.length (idxL zs.length) 0) (fun _ => 0)) ∧ But sb W w') := fun ob sb W hne hO hS => by
    have := add_all zs.length (x * 120) (K zs) ob sb zs.length hne ⟨by omega, by omega⟩ hf zs.length 0 (idxL zs.length) (fun _ => 0) W (by rw [idxL_length _ h2]; omega) (by rw [idxL_length _ h2]; exact h2) (fun _ => ⟨by omega, by omega⟩) hO hS
    rw [idxL_length _ h2] at this
    exact this
  have hbd := addAll_bd (K zs) hf (x * 120) (by omega) (vis zs.length (idxL zs.length) 0) (fun _ => 0) 0 (fun _ => ⟨by decide, by decide⟩)
  rw [vis_length] at hbd
  have HLi := Lib.hid (fun r W => list_f zs.length h1 h2 (x * 120) (K zs) r W)
  generalize addAll (K zs) (x * 120) (vis zs.length (idxL zs.length) 0) (fun _ => 0) = su at HAd hbd ⊢
  generalize fct zs.length = fn at HAd hbd hfn hf0 ⊢
  generalize hfe : K zs = f at hk HN HAd HLi
  clear hA hc h3 hfe hf
  have hbd' : ∀ i, 0 ≤ su i ∧ su i ≤ 1000000000 := fun i => by have := hbd i; omega
  have HSU := Lib.hid hbd'
  have HK := Lib.hid hk; clear hk hbd hbd'
  go_enter Try.func30, Try.ntmps30
  go_wp2_with (go_at_call 54; refine (HK.out).mono ?_; rintro e w1 ⟨rfl, hB⟩)
  have hBs := hB.size
  have b2 := (RowKit.Below.refl _ (w1.alloc (.cells #[.int .i64 zs.length, .int .i64 (x * 120), .int .i64 (f 0), .int .i64 (f 1), .int .i64 (f 2), .int .i64 (f 3), .int .i64 (f 4)] 68))).alloc (Nat.le_refl _) (.cells #[.int .i64 0, .int .i64 0, .int .i64 0, .int .i64 0, .int .i64 0] 66)
  have hH := (cellsH_new w1 zs.length (x * 120) f).below b2
  have hZ : RowAt ((w1.alloc (.cells #[.int .i64 zs.length, .int .i64 (x * 120), .int .i64 (f 0), .int .i64 (f 1), .int .i64 (f 2), .int .i64 (f 3), .int .i64 (f 4)] 68)).alloc (.cells #[.int .i64 0, .int .i64 0, .int .i64 0, .int .i64 0, .int .i64 0] 66)) (w1.heap.size + 1) (fun _ => 0) := by
    have := heap_alloc_new (w1.alloc (.cells #[.int .i64 zs.length, .int .i64 (x * 120), .int .i64 (f 0), .int .i64 (f 1), .int .i64 (f 2), .int .i64 (f 3), .int .i64 (f 4)] 68)) (.cells #[.int .i64 0, .int .i64 0, .int .i64 0, .int .i64 0, .int .i64 0] 66)
    rw [World.size_alloc] at this; exact this
  have hBW : RowKit.Below w.heap.size w ((w1.alloc (.cells #[.int .i64 zs.length, .int .i64 (x * 120), .int .i64 (f 0), .int .i64 (f 1), .int .i64 (f 2), .int .i64 (f 3), .int .i64 (f 4)] 68)).alloc (.cells #[.int .i64 0, .int .i64 0, .int .i64 0, .int .i64 0, .int .i64 0] 66)) := (hB.alloc hB.size _).alloc (by simp; omega) _
  have hsz : ((w1.alloc (.cells #[.int .i64 zs.length, .int .i64 (x * 120), .int .i64 (f 0), .int .i64 (f 1), .int .i64 (f 2), .int .i64 (f 3), .int .i64 (f 4)] 68)).alloc (.cells #[.int .i64 0, .int .i64 0, .int .i64 0, .int .i64 0, .int .i64 0] 66)).heap.size = w1.heap.size + 2 := by simp
  generalize ((w1.alloc (.cells #[.int .i64 zs.length, .int .i64 (x * 120), .int .i64 (f 0), .int .i64 (f 1), .int .i64 (f 2), .int .i64 (f 3), .int .i64 (f 4)] 68)).alloc (.cells #[.int .i64 0, .int .i64 0, .int .i64 0, .int .i64 0, .int .i64 0] 66)) = W at hH hZ hBW hsz ⊢
  clear b2
  have HSZ := Lib.hid hsz; clear hsz
  have HH := Lib.hid hH
  obtain ⟨m0, m1, m2, m3, m4, m5, m6⟩ := hH
  go_upto_region 5 with fail
  go_cut [9] (fun s9 wx => s9 = .int .i64 (fn : Int) ∧ RowAt wx (w1.heap.size + 1) su ∧ cellsH wx w1.heap.size zs.length (x * 120) f ∧ RowKit.Below w.heap.size w wx)
  case first =>
    go_region_held3 (fun w' => w'.cell? ⟨w1.heap.size, 0, none⟩ = some (.int .i64 zs.length) ∧ w'.cell? ⟨w1.heap.size, 1, none⟩ = some (.int .i64 (x * 120)) ∧ w'.cell? ⟨w1.heap.size, 2, none⟩ = some (.int .i64 (f 0)) ∧ w'.cell? ⟨w1.heap.size, 3, none⟩ = some (.int .i64 (f 1)) ∧ w'.cell? ⟨w1.heap.size, 4, none⟩ = some (.int .i64 (f 2)) ∧ w'.cell? ⟨w1.heap.size, 5, none⟩ = some (.int .i64 (f 3)) ∧ w'.cell? ⟨w1.heap.size, 6, none⟩ = some (.int .i64 (f 4))) (first | exact hS3 | exact hS2 | (simp [go_sem, *]; done)) (first
      | (go_at_call 74; refine (HN.out _).mono ?_; rintro r w2 ⟨rfl, hO2, hB2, hz2⟩; have hS2 := cellsH.below (b := w1.heap.size) (n := zs.length) (x := x * 120) (f := f) hB2 (cellsH.drew HH.out); have hZ2 := RowAt.other (RowAt.drew hZ) hB2 (by show _ < W.heap.size; have := HSZ.out; omega); have hO3 : OrdAt w2 (W.heap.size + 1) (idxL zs.length) := hO2; have HAq := Lib.hid (HAd.out (W.heap.size + 1) (w1.heap.size + 1) w2 (by have := HSZ.out; omega) hO3 hZ2); clear hz2)
      | (go_at_call 73; refine (HAq.out).mono ?_; rintro r w3 ⟨rfl, hR3, hB3⟩; have hS3 := But.cellsH hB3 hS2 (by omega)))
    all_goals (go_wp2_with fail; go_meet)
    have s1 := hBW.size
    have s2 := hB2.size
    have s3 : W.heap.size ≤ w2.heap.size := s2
    exact ⟨rfl, hR3, hS3, (hBW.drew.trans (hB2.mono hBW.size)).trans (hB3.below (by omega) (by omega))⟩
  case rest =>
    obtain ⟨rfl, hR, hHc, hBc⟩ := hcut
    have s0 : wc.cell? ⟨w1.heap.size + 1, 0, none⟩ = some (.int .i64 (su 0)) := hR.cell 0
    have s1 : wc.cell? ⟨w1.heap.size + 1, 1, none⟩ = some (.int .i64 (su 1)) := hR.cell 1
    have s2 : wc.cell? ⟨w1.heap.size + 1, 2, none⟩ = some (.int .i64 (su 2)) := hR.cell 2
    have s3 : wc.cell? ⟨w1.heap.size + 1, 3, none⟩ = some (.int .i64 (su 3)) := hR.cell 3
    have s4 : wc.cell? ⟨w1.heap.size + 1, 4, none⟩ = some (.int .i64 (su 4)) := hR.cell 4
    have f0 : wc.frozen? ⟨w1.heap.size + 1, 0, none⟩ = false := hR.free 0
    have f1 : wc.frozen? ⟨w1.heap.size + 1, 1, none⟩ = false := hR.free 1
    have f2 : wc.frozen? ⟨w1.heap.size + 1, 2, none⟩ = false := hR.free 2
    have f3 : wc.frozen? ⟨w1.heap.size + 1, 3, none⟩ = false := hR.free 3
    have f4 : wc.frozen? ⟨w1.heap.size + 1, 4, none⟩ = false := hR.free 4
    obtain ⟨p0, q0⟩ := HSU.out 0; obtain ⟨p1, q1⟩ := HSU.out 1; obtain ⟨p2, q2⟩ := HSU.out 2; obtain ⟨p3, q3⟩ := HSU.out 3; obtain ⟨p4, q4⟩ := HSU.out 4
    obtain ⟨n0, n1, n2, n3, n4, n5, n6⟩ := hHc
    clear hR hZ m0 m1 m2 m3 m4 m5 m6
    have hfz : (0 : Int) < fn := by omega
    go_wp2_with fail
    refine wp_loop_rounds 6 ?_
    iterate 5 (rw [rounds_succ]; go_wp2)
    rw [rounds_succ]
    go_wp2_with (go_at_call 57; refine (HLi.out (fun i => su i / (fn : Int)) _).mono ?_; rintro r w4 ⟨v, rfl, hO, hB4⟩)
    go_ret2
    have hst := ((((hBc.setCell (p := ⟨w1.heap.size + 1, 0, none⟩) (by dsimp only; omega) (.int .i64 (su 0 / (fn : Int)))).setCell (p := ⟨w1.heap.size + 1, 1, none⟩) (by dsimp only; omega) (.int .i64 (su 1 / (fn : Int)))).setCell (p := ⟨w1.heap.size + 1, 2, none⟩) (by dsimp only; omega) (.int .i64 (su 2 / (fn : Int)))).setCell (p := ⟨w1.heap.size + 1, 3, none⟩) (by dsimp only; omega) (.int .i64 (su 3 / (fn : Int)))).setCell (p := ⟨w1.heap.size + 1, 4, none⟩) (by dsimp only; omega) (.int .i64 (su 4 / (fn : Int)))
    exact ⟨v, rfl, hO.base hst.size, hst.trans (hB4.mono hst.size)⟩
end Go.Proofs.Ytdnbdaegahcoeaa
