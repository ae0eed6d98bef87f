/- crossings. -/
import Derived.Test.YtpgifeaejjjjnaaCF
namespace Go.Proofs.Ytpgifeaejjjjnaa
open Go.RowKit Go.Sort
attribute [local go_sem] Oper.semAt_some
open Go.Shelf
theorem crossings_any (n : Int) (a : Option Addr) (len cap : Nat) (w : World) : Calls Try.prog 84 #[.int .i64 n, .slice a len cap] w fun e w' => e = .returned (.func (.func 117) #[] #[.pointer (some ⟨w.heap.size, 0, none⟩), .pointer (some ⟨w.heap.size + 1, 0, none⟩)]) ∧ w' = (w.alloc (.cells #[.int .i64 n] 3)).alloc (.cells #[.slice a len cap] 22) := by
  go_enter Try.func84, Try.ntmps84
  go_wp2
  go_ret
  exact ⟨by simp, rfl⟩
set_option maxRecDepth 100000 in
set_option maxHeartbeats 4000000 in
theorem crossings_seq (n : Nat) (hn : n ≤ 5) (Bs Bp : Nat) (a : Option Addr) (cap : Nat) (zss : List (List Int)) (wp : World) (hBs : Bs < wp.heap.size) (hBp : Bp < wp.heap.size) (hcs : wp.cell? ⟨Bs, 0, none⟩ = some (.int .i64 n))
    (hcp : wp.cell? ⟨Bp, 0, none⟩ = some (.slice a zss.length cap)) (hL : LstAt wp a zss) (hl : zss.length ≤ 5) (hnz : n ≤ zss.length) (hlen : ∀ r ∈ ordT n n [], r.length = n) (hd : ∀ r ∈ ordT n n [], ∀ k, k < r.length → 0 ≤ nth r k ∧ nth r k < (lth zss k).length ∧ (lth zss k).length ≤ 5 ∧ 0 ≤ stF zss r k ∧ stF zss r k < 5) :
    SeqV Try.prog 117 #[.pointer (some ⟨Bs, 0, none⟩), .pointer (some ⟨Bp, 0, none⟩)] Rd ((ordT n n []).filter fun r => crsB zss r) wp.heap.size (fun w => RowKit.Below wp.heap.size wp w) := fun l Z J Jx W d hZ hN0 hW hJ hJx hY h0 => by
  have hcsW := (hW.cell (p := ⟨Bs, 0, none⟩) hBs).trans hcs
  show CallsIn Fence.wide d Try.prog 117 #[.func (.yield l) #[] #[], .pointer (some ⟨Bs, 0, none⟩), .pointer (some ⟨Bp, 0, none⟩)] W _
  refine callsIn_of_wp_marks Try.func117 rfl trivial ?_ rfl
  simp only [Try.ntmps117, List.size_toArray, List.length_cons, List.length_nil, Nat.reduceAdd, Nat.reduceSub, Array.replicate_succ, Array.replicate_zero, List.push_toArray, List.append_toArray, List.nil_append, List.cons_append]
  have hcs1 := alloc_old W (.cells #[.func (.yield l) #[] #[]] 109) hcsW
  gi_wp2_with (refine ⟨trivial, fun hh => (by cases hh), ?_⟩; gi_at_call 113; refine (callsIn_wide.2 (orders_any _ _)).mono ?_; rintro e w3 ⟨rfl, rfl⟩)
  have hsz : ((W.alloc (.cells #[.func (.yield l) #[] #[]] 109)).alloc (.cells #[.int .i64 (n : Int)] 3)).heap.size = W.heap.size + 2 := by simp
  have hcb : ((W.alloc (.cells #[.func (.yield l) #[] #[]] 109)).alloc (.cells #[.int .i64 (n : Int)] 3)).cell? ⟨W.heap.size, 0, none⟩ = some (.func (.yield l) #[] #[]) := alloc_old _ _ (alloc_cell W _ _)
  have hcm : ((W.alloc (.cells #[.func (.yield l) #[] #[]] 109)).alloc (.cells #[.int .i64 (n : Int)] 3)).cell? ⟨W.heap.size + 1, 0, none⟩ = some (.int .i64 n) := by
    have h := alloc_cell (W.alloc (.cells #[.func (.yield l) #[] #[]] 109)) (.int .i64 (n : Int)) 3
    rwa [World.size_alloc] at h
  have hbW : RowKit.Below W.heap.size W ((W.alloc (.cells #[.func (.yield l) #[] #[]] 109)).alloc (.cells #[.int .i64 (n : Int)] 3)) := ((RowKit.Below.refl _ W).alloc (Nat.le_refl _) _).alloc (by simp) _
  generalize (W.alloc (.cells #[.func (.yield l) #[] #[]] 109)).alloc (.cells #[.int .i64 (n : Int)] 3) = W0 at *
  refine range_v (xs := ordT n n []) (V := Rd) (N0 := 0) (Ok := fun w => w.cell? ⟨W.heap.size + 1, 0, none⟩ = some (.int .i64 n)) (gf := 135) (lb := #[.pointer (some ⟨W.heap.size + 1, 0, none⟩)]) rfl (enters_of Try.func135 (by kernel_rfl) rfl)
    (fun x v w w' h k => h.calm k) (orders_seq n hn _) (Nat.zero_le _) (fun W2 hb2 => (hb2.cell (p := ⟨W.heap.size + 1, 0, none⟩) (by show W.heap.size + 1 < _; omega)).trans hcm) rfl Z (fun k hk => ⟨Nat.zero_le _, by have := (hZ k hk).2; omega⟩)
    (fun pre W1 => J (pre.filter fun r => crsB zss r) W1 ∧ Hid (RowKit.Below wp.heap.size wp W1) ∧ W1.cell? ⟨W.heap.size, 0, none⟩ = some (.func (.yield l) #[] #[]))
    (fun c pre W1 => c = .ret ∧ Jx (pre.filter fun r => crsB zss r) W1)
    (fun s A B hs hb => ⟨hJ _ _ _ hs.1 (hb.mono (by omega)), Lib.hid (hs.2.1.out.trans (hb.mono (by omega))), (hb.cell (p := ⟨W.heap.size, 0, none⟩) (by show W.heap.size < _; omega)).trans hs.2.2⟩)
    (fun c s A B hs hb => ⟨hs.1, hJx _ _ _ hs.2 (hb.mono (by omega))⟩)
    ⟨hJ _ _ _ h0 hbW, Lib.hid (hW.trans (hbW.mono hN0)), hcb⟩
    (fun v => { tmps := #[.func (.yield l) #[] #[], .pointer (some ⟨Bs, 0, none⟩), .pointer (some ⟨Bp, 0, none⟩), .pointer (some ⟨W.heap.size, 0, none⟩), v, .int .i64 n, .func (.func 135) #[] #[.pointer (some ⟨W.heap.size + 1, 0, none⟩)], v, undef, undef, undef, undef, undef, undef, undef, undef, undef], defers := [] })
    ?assign ?body ?done ?stop
  case assign =>
    intro m l' v W1 K hK
    gi_wp2
    exact hK
  case body =>
    rintro m l' pre x v W1 hs1 ⟨hJ1, hb1, hc1⟩ ⟨xa, xc, rfl, hx1, hx2, hxI⟩ hpre
    have hxl : x.length = n := hlen x (hpre.subset (by simp))
    have hr2 := (hb1.out.cell (p := ⟨Bp, 0, none⟩) hBp).trans hcp
    have HA := Lib.hid (crossing_any a cap zss xa xc x W1 (hL.fut hb1.out) hxI (by omega) hl (hd x (hpre.subset (by simp))))
    have HPF := Lib.hid (hpre.filter fun r => crsB zss r)
    have HX := Lib.hid hx2
    clear hxl hpre hx2
    cases hz : crsB zss x
    case true =>
      have hfx : (pre ++ [x]).filter (fun r => crsB zss r) = pre.filter (fun r => crsB zss r) ++ [x] := by
        rw [List.filter_append]; simp [hz]
      rw [hz] at HA
      clear hz
      rw [hfx] at HPF
      have HFX := Lib.hid hfx
      clear hfx
      gi_wp2_with (first
        | (refine ⟨trivial, fun hh => (by cases hh), ?_⟩; gi_at_call 118; refine (CallsIn.inRound l' (callsIn_wide.2 HA.out)).mono ?_; clear HA; rintro e W2 ⟨rfl, hF⟩; have hc2 := (RowKit.Below.cell hF (p := ⟨W.heap.size, 0, none⟩) (by show W.heap.size < _; omega)).trans hc1; obtain ⟨fn, tmps, assign, body, hy, hR⟩ := hY (m - 1) _ x (.slice xa x.length xc) W2 (by have := RowKit.Below.size hF; omega) (hJ _ _ _ hJ1 (RowKit.Below.mono hF (by omega))) ⟨xa, xc, rfl, hx1, HX.out, hxI.fut hF⟩ HPF.out)
        | (refine ⟨fun hh => (by cases hh), ?_⟩; refine RoundIn.mono hR ?_; clear hR; rintro e W3 ⟨hbu, (⟨rfl, hJ3⟩ | ⟨rfl, hJx3⟩)⟩))
      · have hz2 : W1.heap.size ≤ W2.heap.size := RowKit.Below.size hF
        exact ⟨(But.of_below hF).trans hbu, by rw [HFX.out]; exact hJ3,
          Lib.hid ((hb1.out.trans (RowKit.Below.mono hF (by omega))).trans (hbu.below _ (by omega) fun q hq => (hZ q hq).1)), (hbu.cell (p := ⟨W.heap.size, 0, none⟩) (by show W.heap.size < _; omega) (fun hq => by have h5 := (hZ _ hq).2; exact absurd h5 (Nat.lt_irrefl _))).trans hc2⟩
      · exact ⟨(But.of_below hF).trans hbu, rfl, by rw [HFX.out]; exact hJx3⟩
    case false =>
      have hfx : (pre ++ [x]).filter (fun r => crsB zss r) = pre.filter (fun r => crsB zss r) := by
        rw [List.filter_append]; simp [hz]
      have HFX := Lib.hid hfx
      rw [hz] at HA
      clear hfx hz HPF hY
      gi_wp2_with (refine ⟨trivial, fun hh => (by cases hh), ?_⟩; gi_at_call 118; refine (CallsIn.inRound l' (callsIn_wide.2 HA.out)).mono ?_; clear HA; rintro e W2 ⟨rfl, hF⟩)
      refine ⟨fun _ h => (by cases h), ?_⟩
      gi_wp2_with fail
      exact ⟨But.of_below hF, by rw [HFX.out]; exact hJ _ _ _ hJ1 (RowKit.Below.mono hF (by omega)), Lib.hid (hb1.out.trans (RowKit.Below.mono hF (by omega))), (RowKit.Below.cell hF (p := ⟨W.heap.size, 0, none⟩) (by show W.heap.size < _; omega)).trans hc1⟩
  case done =>
    rintro D W5 hD ⟨hJ5, hb5, hc5⟩ hK
    gi_wp2_with fail
    refine ⟨by simp, .inl ⟨_, _, rfl, run_takeDeferred hK, ?_⟩⟩
    refine ⟨_, results_none rfl _ _ _, ⟨_, rfl⟩, .inl ?_⟩
    exact hJ _ _ _ hJ5 (below_putObj _ _ (by omega))
  case stop =>
    rintro D c pre W5 hD hpre ⟨rfl, hJ5⟩ hK
    gi_wp2_with fail
    refine ⟨by simp, .inl ⟨_, _, rfl, run_takeDeferred hK, ?_⟩⟩
    refine ⟨_, results_none rfl _ _ _, ⟨_, rfl⟩, .inr ⟨_, hpre.filter _, ?_⟩⟩
    exact hJx _ _ _ hJ5 (Calm.putObj _ (by omega) hK rfl)
end Go.Proofs.Ytpgifeaejjjjnaa
