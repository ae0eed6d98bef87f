/- Layer 1: why a division is not by the rule. -/
import Derived.Test.YtdnbdaegahcoeaaJ
import Derived.RangeFuncNested
import Derived.RangeFuncBound
import Derived.RangeFuncCalls
import Derived.RangeFuncLeaves
import Derived.Shelf.Abstract
import Derived.Shelf.RegionOpen
import Derived.OwnWalkIn
import Derived.TacticsInMore
import Derived.LoopNIn
import Derived.LoopIn
namespace Go.Proofs.Ytdnbdaegahcoeaa
open Go.RowKit Go.Sort
open Go.Shelf
attribute [local go_sem] Oper.semAt_some
/-- what Why says. -/
def whyV : Option (Nat × Nat) → Value
  | some p => .tuple #[.int .i64 (p.1 : Int), .int .i64 (p.2 : Int), .int .i64 0]
  | none => .tuple #[.int .i64 0, .int .i64 0, .int .i64 13]
set_option maxRecDepth 100000 in
set_option maxHeartbeats 2000000 in
theorem why_ok (x : Int) (a c : Option Addr) (cap dap : Nat) (zs gs : List Int) (w : World) (hl : zs.length ≤ 9223372036854775807) (hlg : gs.length ≤ 9223372036854775807) (hA : IntsAt w a zs) (hG : IntsAt w c gs) (hv : vld x zs gs = 0) :
    Calls Try.prog 32 #[.int .i64 x, .slice a zs.length cap, .slice c gs.length dap] w fun e w' => e = .returned (whyV (whyL zs gs)) ∧ RowKit.Below w.heap.size w w' := by
  obtain ⟨hck, hlen, hpart, _⟩ := vld_ok hv
  obtain ⟨h1, h2, h3, _, _⟩ := chk_ok hck
  have hz := fun k => nth_bd h3 k
  have HV : Hid (∀ W, RowKit.Below w.heap.size w W → Calls Try.prog 34 #[.int .i64 x, .slice a zs.length cap, .slice c gs.length dap] W fun e w' => e = .returned (.int .i64 0) ∧ RowKit.Below W.heap.size W w') := fun W hW => by
    have := valid_any x a c cap dap zs gs W hl hlg (hA.below hW) (hG.below hW)
    rw [hv] at this; exact this
  have HAt : Hid (∀ (i j : Nat) W, RowKit.Below w.heap.size w W → i < zs.length → j < zs.length → Calls Try.prog 77 #[.slice a zs.length cap, .slice c gs.length dap, .int .i64 i, .int .i64 j] W fun e w' => e = .returned (.bool (atB zs gs i j)) ∧ ∃ q, w' = W.drewN q) := fun i j W hW hi hj =>
    atOne_any a c cap dap zs gs i j W (hA.below hW) (hG.below hW) hi hj hlen hz (fun k hk => part_gt hz (hpart k hk))
  have HW : Hid (whyL zs gs = (rowsF zs.length zs.length).find? fun p => !atB zs gs p.1 p.2) := rfl
  generalize whyL zs gs = wl at HW ⊢
  generalize gs.length = gl at *
  clear hA hG hv hck hpart h3 hz hlen
  have hB5 : ∀ o1 o2 o3 o4 o5, RowKit.Below w.heap.size w (((((w.alloc o1).alloc o2).alloc o3).alloc o4).alloc o5) := fun o1 o2 o3 o4 o5 =>
    (((((RowKit.Below.refl _ _).alloc (Nat.le_refl _) o1).alloc (by simp) o2).alloc (by simp; omega) o3).alloc (by simp; omega) o4).alloc (by simp; omega) o5
  refine (callsIn_wide (n := 5)).1 ?_
  refine callsIn_of_wp_marks Try.func32 rfl trivial ?_ rfl
  simp only [Try.ntmps32, List.size_toArray, List.length_cons, List.length_nil, Nat.reduceAdd, Nat.reduceSub, Array.replicate_succ, Array.replicate_zero, List.push_toArray, List.append_toArray, List.nil_append, List.cons_append]
  have hF5 := Five.new w (.slice a zs.length cap) (.slice c gl dap)
  have HF5 := Lib.hid hF5; clear hF5
  gi_wp2_with fail
  refine ⟨trivial, ?_⟩
  refine (callsIn_wide.2 (HV.out _ (hB5 _ _ _ _ _))).mono ?_
  rintro e w1 ⟨rfl, hB⟩
  have hF := HF5.out.below hB (by simp)
  have hBw := (hB5 _ _ _ _ _).trans (hB.mono (by simp; omega))
  have hsz := hB.size
  simp at hsz
  have HF := Lib.hid hF
  obtain ⟨ha, hc, hp, hq, hr⟩ := hF
  have a1 := cell_of_one ha
  have c1 := cell_of_one hc
  clear hB ha hc hp hq hr hB5 HF5
  obtain ⟨L, hL⟩ := lift_pairs zs.length (rowsF zs.length zs.length) fun p hp => rowsF_mem (Nat.le_refl _) hp
  have HLL := Lib.hid hL
  clear hL
  gi_wp2_with (refine ⟨trivial, ?_⟩; gi_at_call 76; refine (callsIn_wide.2 (pairs_any _ _)).mono ?_; rintro e w2 ⟨rfl, rfl⟩)
  have hB6 := (RowKit.Below.refl w1.heap.size w1).alloc (Nat.le_refl _) (.cells #[.int .i64 zs.length] 3)
  have hbx : (w1.alloc (.cells #[.int .i64 zs.length] 3)).cell? ⟨w1.heap.size, 0, none⟩ = some (.int .i64 zs.length) := by rw [World.cell?_alloc_at _ _ _ _ rfl]; rfl
  have hsz6 : (w1.alloc (.cells #[.int .i64 zs.length] 3)).heap.size = w1.heap.size + 1 := by simp
  have HF6 := Lib.hid (HF.out.below hB6 (by omega))
  have hBw6 := hBw.trans (hB6.mono (by omega))
  clear hB6
  generalize w1.alloc (.cells #[.int .i64 zs.length] 3) = W6 at hbx hsz6 HF6 hBw6 ⊢
  refine wpIn_rangeFunc_ownG (α := Fin zs.length × Fin zs.length) rfl (by omega) (gf := 85) (lb := #[.pointer (some ⟨w1.heap.size, 0, none⟩)]) rfl trivial (enters_of Try.func85 (by kernel_rfl) rfl)
    (pairs_stops Fence.wide (5 - 1) trivial rfl (by omega) w1.heap.size (w1.heap.size + 1) zs.length (by omega) W6 (by omega) (by omega) (fun x : Fin zs.length × Fin zs.length => (x.1.val, x.2.val)) L HLL.out hbx) belowK_t (belowK_b (by omega)) (RowKit.Below.refl _ _) (fun _ => rfl)
    (fun pre W => (∀ p ∈ pre, atB zs gs p.1.val p.2.val = true) ∧ RowKit.Below (w1.heap.size + 1) W6 W)
    (fun ct pre W => (ct = .ret ∧ ∃ ini last, pre = ini ++ [last] ∧ (∀ p ∈ ini, atB zs gs p.1.val p.2.val = true) ∧ atB zs gs last.1.val last.2.val = false ∧ Five W w.heap.size (.slice a zs.length cap) (.slice c gl dap) (last.1.val : Int) (last.2.val : Int) 0) ∧ RowKit.Below w.heap.size w W)
    (OwnFrom.and (ownFrom_pure _ _) (ownFrom_below (by omega) (by omega)))
    (fun ct => OwnFrom.and (fun s A B row hs hg hr => by obtain ⟨e0, ini, last, e1, e2, e3, e4⟩ := hs; exact ⟨e0, ini, last, e1, e2, e3, e4.grown hg (fun k hk => by have := (hr k hk).1; omega)⟩) (ownFrom_below (Nat.le_refl _) (by have := hBw6.size; omega)))
    ⟨by simp, RowKit.Below.refl _ _⟩
    (fun y => { tmps := #[.int .i64 x, .slice a zs.length cap, .slice c gl dap, undef, .pointer (some ⟨w.heap.size, 0, none⟩), .pointer (some ⟨w.heap.size + 1, 0, none⟩), .pointer (some ⟨w.heap.size + 1 + 1, 0, none⟩), .pointer (some ⟨w.heap.size + 1 + 1 + 1, 0, none⟩), .pointer (some ⟨w.heap.size + 1 + 1 + 1 + 1, 0, none⟩), .int .i64 0, .int .i64 (y.1.val : Int), .int .i64 (y.2.val : Int), .int .i64 x, .slice a zs.length cap, .slice c gl dap, .int .i64 0, .int .i64 0, .bool false, undef, .slice a zs.length cap, .int .i64 zs.length, .func (.func 85) #[] #[.pointer (some ⟨w1.heap.size, 0, none⟩)], .int .i64 (y.1.val : Int), .int .i64 (y.2.val : Int), undef, undef, undef, undef, undef, undef, undef, undef], defers := [] }) ?assign ?body ?done ?stop
  case assign =>
    intro l x W K hK
    gi_wp2
    exact hK
  case body =>
    rintro l pre y W ⟨hall, hB⟩ _
    have hF := HF6.out.below hB (by omega)
    have hBW := hBw6.trans (hB.mono (by omega))
    have a2 := cell_of_one hF.a
    have c2 := cell_of_one hF.c
    have HATy := Lib.hid (HAt.out y.1.val y.2.val W hBW y.1.isLt y.2.isLt)
    have HALL := Lib.hid hall
    clear hall
    by_cases hat : atB zs gs y.1.val y.2.val = true
    · have HI := Lib.hid (by intro p hp; rcases List.mem_append.1 hp with h | h; exact HALL.out p h; simp at h; subst h; exact hat : ∀ p ∈ pre ++ [y], atB zs gs p.1.val p.2.val = true)
      rw [hat] at HATy
      clear hat hF
      gi_wp2_with (refine ⟨trivial, ?_⟩; gi_at_call 77; refine (CallsIn.inRound l (callsIn_wide.2 (HATy.out))).mono ?_; rintro e w' ⟨rfl, q, rfl⟩)
      exact ⟨⟨Nat.le_refl _, fun k o _ h _ => h⟩, below_drewN (RowKit.Below.refl _ _) q, HI.out, below_drewN hB q⟩
    · have hat' : atB zs gs y.1.val y.2.val = false := by simpa using hat
      have HAF := Lib.hid hat'
      rw [hat'] at HATy
      have HFF := Lib.hid hF
      have p1 := cell_of_one hF.p; have p2 := free_of_one hF.p
      have q1 := cell_of_one hF.q; have q2 := free_of_one hF.q
      have r1 := cell_of_one hF.r; have r2 := free_of_one hF.r
      clear hat hat' hF
      gi_wp2_with (refine ⟨trivial, ?_⟩; gi_at_call 77; refine (CallsIn.inRound l (callsIn_wide.2 (HATy.out))).mono ?_; rintro e w' ⟨rfl, q, rfl⟩)
      have hks : KeepsFrom W6.heap.size W ((((W.drewN q).setCell ⟨w.heap.size + 1 + 1, 0, none⟩ (.int .i64 (y.1.val : Int))).setCell ⟨w.heap.size + 1 + 1 + 1, 0, none⟩ (.int .i64 (y.2.val : Int))).setCell ⟨w.heap.size + 1 + 1 + 1 + 1, 0, none⟩ (.int .i64 0)) :=
        have h := (((KeepsOthers.setCell (W.drewN q) ⟨w.heap.size + 1 + 1, 0, none⟩ (.int .i64 (y.1.val : Int))).trans (KeepsOthers.setCell _ ⟨w.heap.size + 1 + 1 + 1, 0, none⟩ (.int .i64 (y.2.val : Int)))).trans (KeepsOthers.setCell _ ⟨w.heap.size + 1 + 1 + 1 + 1, 0, none⟩ (.int .i64 0))).from W6.heap.size
        ⟨h.size, h.same⟩
      exact ⟨hks, ⟨rfl, pre, y, rfl, HALL.out, HAF.out, Five.set (w := W.drewN q) (Five.below HFF.out (below_drewN (RowKit.Below.refl (w.heap.size + 5) W) q) (by omega)) _ _ _⟩, (((below_drewN hBW q).setCell (by dsimp only; omega) _).setCell (by dsimp only; omega) _).setCell (by dsimp only; omega) _⟩
  case done =>
    rintro D ys W hD rfl ⟨hall, hB⟩ hK
    have hF := HF6.out.below hB (by omega)
    have hBW := hBw6.trans (hB.mono (by omega))
    have hwl : wl = none := by
      rw [HW.out, ← HLL.out]
      exact find_none' _ _ _ fun y hy => by simp [hall y hy]
    have HFF := Lib.hid (hF.set 0 0 13)
    have p1 := cell_of_one hF.p; have p2 := free_of_one hF.p
    have q1 := cell_of_one hF.q; have q2 := free_of_one hF.q
    have r1 := cell_of_one hF.r; have r2 := free_of_one hF.r
    have HWL := Lib.hid hwl
    clear hall hF hwl
    gi_wp2
    have hK' := (((KeepsOthers.setCell W ⟨w.heap.size + 1 + 1, 0, none⟩ (.int .i64 0)).trans (KeepsOthers.setCell _ ⟨w.heap.size + 1 + 1 + 1, 0, none⟩ (.int .i64 0))).trans (KeepsOthers.setCell _ ⟨w.heap.size + 1 + 1 + 1 + 1, 0, none⟩ (.int .i64 13))).same D _ hK rfl
    refine ⟨by simp, .inl ⟨_, _, rfl, run_takeDeferred hK', ?_⟩⟩
    have hF9 := HFF.out.grown (grownBy_putObj' _ D (.deferred none)) (fun k e => by cases e; omega)
    have P1 := cell_of_one hF9.p
    have Q1 := cell_of_one hF9.q
    have R1 := cell_of_one hF9.r
    rw [HWL.out]
    refine ⟨.tuple #[.int .i64 0, .int .i64 0, .int .i64 13], by simp [results, Try.f32, go_sem, P1, Q1, R1], rfl, ?_⟩
    have hst := ((hBW.setCell (p := ⟨w.heap.size + 1 + 1, 0, none⟩) (by dsimp only; omega) (.int .i64 0)).setCell (p := ⟨w.heap.size + 1 + 1 + 1, 0, none⟩) (by dsimp only; omega) (.int .i64 0)).setCell (p := ⟨w.heap.size + 1 + 1 + 1 + 1, 0, none⟩) (by dsimp only; omega) (.int .i64 13)
    exact hst.trans (belowK_b (w := w) (Nat.le_refl _) _ D _ _ (by have := hBw6.size; omega) hK' rfl rfl)
  case stop =>
    rintro D ct pre W hD hpre ⟨⟨rfl, ini, last, e1, e2, e3, hF⟩, hB⟩ hK
    have hwl : wl = some (last.1.val, last.2.val) := by
      obtain ⟨rest, hr⟩ := hpre
      rw [HW.out, ← HLL.out, ← hr, e1, List.append_assoc]
      exact find_some' _ _ ini rest last (fun y hy => by simp [e2 y hy]) (by simp [e3])
    have HWL := Lib.hid hwl
    have HFF := Lib.hid hF
    clear hwl hpre e1 e2 e3 hF
    gi_wp2
    refine ⟨by simp, .inl ⟨_, _, rfl, run_takeDeferred hK, ?_⟩⟩
    have hF9 := HFF.out.grown (grownBy_putObj' _ D (.deferred none)) (fun k e => by cases e; omega)
    have P1 := cell_of_one hF9.p
    have Q1 := cell_of_one hF9.q
    have R1 := cell_of_one hF9.r
    rw [HWL.out]
    refine ⟨.tuple #[.int .i64 (last.1.val : Int), .int .i64 (last.2.val : Int), .int .i64 0], by simp [results, Try.f32, go_sem, P1, Q1, R1], rfl, ?_⟩
    exact hB.trans (belowK_b (w := w) (Nat.le_refl _) W D _ _ (by have := hBw6.size; omega) hK rfl rfl)
end Go.Proofs.Ytdnbdaegahcoeaa
