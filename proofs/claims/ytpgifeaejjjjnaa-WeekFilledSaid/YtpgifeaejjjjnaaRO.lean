/- the chain orders, fitting, first, Next once more: what is yielded, and what Next returns, is one's own (TupO, next_own) -/
import Derived.Test.YtpgifeaejjjjnaaCJ
namespace Go.Proofs.Ytpgifeaejjjjnaa
open Go.RowKit Go.Sort
attribute [local go_sem] Oper.semAt_some
open Go.Shelf
/-- a yielded list, of one's own. -/
def Ro (x : List Int) (v : Value) (w : World) : Prop := Owns w 0 v x
theorem Ro.calm {x : List Int} {v : Value} {w w' : World} (h : Ro x v w) (k : Calm 0 w w') : Ro x v w' := by
  obtain ⟨h1, h2⟩ := h
  refine ⟨h1, ?_⟩
  rcases h2 with h2 | ⟨g, cap, cur, e, hb, hg, hr⟩
  · exact .inl h2
  · exact .inr ⟨g, cap, cur, e, hb, k.cells g _ hg rfl, hr⟩
theorem Ro.fut {x : List Int} {v : Value} {w w' : World} (h : Ro x v w) (F : Fut w w') : Ro x v w' := Owns.fut h F
theorem Ro.store {x : List Int} {v : Value} {w : World} (h : Ro x v w) {B n c : Nat} {a : Option Addr} (hb : w.heap[B]? = some (.cells #[.slice a n c] 28)) (u : Value) : Ro x v (w.setCell ⟨B, 0, none⟩ u) := by
  obtain ⟨h1, h2⟩ := h
  refine ⟨h1, ?_⟩
  rcases h2 with h2 | ⟨g, cap, cur, e, hb2, hg, hr⟩
  · exact .inl h2
  · refine .inr ⟨g, cap, cur, e, hb2, ?_, hr⟩
    have hne : g ≠ B := by
      rintro rfl
      rw [hb] at hg
      cases hg
    exact (RowKit.Below.heap_setCell w ⟨B, 0, none⟩ u g hne).trans hg
set_option maxRecDepth 100000 in
set_option maxHeartbeats 4000000 in
/-- eachOrder: all orders that begin as head does, for rounds that keep all but Z. -/
theorem each_own (n : Nat) (hn : n ≤ 5) (l B : Nat) (Z : Nat → Prop) (hZ : ∀ k, Z k → k < B) (J Jx : List (List Int) → World → Prop) (hJ : OldJ B J) (xs : List (List Int))
    (hY : ∀ (m : Nat) pre x v W1, B ≤ W1.heap.size → J pre W1 → Ro x v W1 → pre ++ [x] <+: xs → YieldAt Fence.wide m Try.prog l #[v] W1 fun e W' =>
      But Z W1 W' ∧ ((e = .returned (.bool true) ∧ J (pre ++ [x]) W') ∨ (e = .returned (.bool false) ∧ Jx (pre ++ [x]) W'))) :
    ∀ (m : Nat) (h : List Int) (v : Value) (pre : List (List Int)) (W : World) (d : Nat), h.length + m = n → Owns W B v h → B ≤ W.heap.size → J pre W → pre ++ ordT n m h <+: xs →
      CallsIn Fence.wide d Try.prog 136 #[v, .int .i64 n, .func (.yield l) #[] #[]] W fun e W' =>
        But (fun k => Z k ∨ v.ownBlock = some k) W W' ∧
        ((e = .returned (.bool true) ∧ J (pre ++ ordT n m h) W' ∧ Owns W' B v h) ∨ (e = .returned (.bool false) ∧ ∃ q, q <+: ordT n m h ∧ Jx (pre ++ q) W')) := by
  intro m
  induction m with
  | zero =>
    intro h v pre W d hm hO hB hJ0 hpre
    obtain ⟨a, cap, rfl, h1, h2, hI⟩ := hO.form
    have HO := Lib.hid hO
    have HC := Lib.hid (clone_any a cap h W hI (by omega))
    obtain rfl : h.length = n := by omega
    clear hO hI h1 h2 hm
    refine callsIn_of_wp Try.func136 rfl trivial ?_ rfl
    simp only [Try.ntmps136, List.size_toArray, List.length_cons, List.length_nil, Nat.reduceAdd, Nat.reduceSub, Array.replicate_succ, Array.replicate_zero, List.push_toArray, List.append_toArray, List.nil_append, List.cons_append]
    gi_wp2_with (first
      | (refine ⟨trivial, fun hh => (by cases hh), ?_⟩; gi_at_call 50; refine (callsIn_wide.2 HC.out).mono ?_; clear HC; rintro e w1 ⟨v1, rfl, hO1, hF1⟩; obtain ⟨fn, tmps, assign, body, hy, hR⟩ := hY (d - 1) pre h v1 w1 (Nat.le_trans hB (RowKit.Below.size hF1)) (hJ _ _ _ hJ0 (RowKit.Below.mono hF1 hB)) (hO1.base (Nat.zero_le _)) hpre)
      | (refine ⟨trivial, fun hh => (by cases hh), ?_⟩; refine hR.mono ?_; clear hR; rintro e W2 ⟨hbu, (⟨rfl, hJ2⟩ | ⟨rfl, hJx2⟩)⟩)
      | (refine ⟨fun hh => (by cases hh), ?_⟩; refine hR.mono ?_; clear hR; rintro e W2 ⟨hbu, (⟨rfl, hJ2⟩ | ⟨rfl, hJx2⟩)⟩))
    · go_ret
      exact ⟨(But.of_below hF1).trans (hbu.mono fun _ _ hz => .inl hz), .inl ⟨rfl, hJ2, (HO.out.fut hF1).but hbu hZ⟩⟩
    · go_ret
      exact ⟨(But.of_below hF1).trans (hbu.mono fun _ _ hz => .inl hz), .inr ⟨rfl, [h], List.prefix_refl _, hJx2⟩⟩
  | succ m ih =>
    intro h v pre W d hm hO hB hJ0 hpre
    obtain ⟨i0, hi0, hz0, hz1, hz2⟩ := info_parts info3
    obtain ⟨a, cap, rfl, h1, h2, _⟩ := hO.form
    have HO := Lib.hid hO
    have HM := Lib.hid hm
    have hne : ((h.length : Int) == (n : Int)) = false := by simp; omega
    have HP := Lib.hid hpre
    have HIH := Lib.hid ih
    clear hO h1 h2 hm hpre ih
    refine callsIn_of_wp Try.func136 rfl trivial ?_ rfl
    simp only [Try.ntmps136, List.size_toArray, List.length_cons, List.length_nil, Nat.reduceAdd, Nat.reduceSub, Array.replicate_succ, Array.replicate_zero, List.push_toArray, List.append_toArray, List.nil_append, List.cons_append]
    gi_wp2_with fail
    gi_loopw [17] (fun iv wr => ∃ k : Nat, k ≤ n ∧ iv = .int .i64 k ∧ J (pre ++ segT n m h k) wr ∧ Hid (Owns wr B (.slice a h.length cap) h) ∧ Hid (But (fun k => Z k ∨ (Value.slice a h.length cap).ownBlock = some k) W wr)) (fun iv _ => n - (intOf iv).toNat)
    case atStart => exact ⟨0, Nat.zero_le _, rfl, by rw [segT_zero, List.append_nil]; exact hJ0, HO, Lib.hid (But.refl _ _)⟩
    case round =>
      obtain ⟨k, hk, rfl, hJr, HOr, HBr⟩ := hrel
      by_cases hlt : k < n
      · have hkx : (k : Int) < n := by omega
        obtain ⟨a', cap', e', q1, q2, hI⟩ := HOr.out.form
        simp only [Value.slice.injEq, true_and] at e'
        obtain ⟨rfl, rfl⟩ := e'
        have HC := Lib.hid (contains_any a cap h k wr hI (by have := HM.out; omega))
        have HSS := Lib.hid (segT_succ n m h k)
        have HPP := Lib.hid (segT_pre n m h (k + 1) hlt)
        clear hI q1 q2
        cases hc : h.contains (k : Int)
        · rw [hc] at HC HSS
          simp only [Bool.false_eq_true, if_false] at HSS
          clear hc
          have hbr : B ≤ wr.heap.size := Nat.le_trans hB HBr.out.size
          gi_wp2_with (first
            | (refine ⟨trivial, fun hh => (by cases hh), ?_⟩; gi_at_call 51; refine (callsIn_wide.2 HC.out).mono ?_; clear HC; rintro e w1 ⟨rfl, rfl⟩)
            | (gi_at_builtin; refine wpListIn_append_where _ rfl _ _ 28 rfl B 3 i0 (.int .i64 0) 1 8 Try.underlying28 hi0 hz0 hz1 hz2 rfl (by decide) _ h.length (h.map (Value.int .i64)) rfl (HOr.out.fut (Fut.alloc _ _)) ⟨wr.heap.size, 0, none⟩ 1 1 [.int .i64 k] rfl rfl (cell_one (by simp [go_sem])) (by simp [Value.oneCell']) (by decide) (by have := HM.out; unfold maxLen; omega) (by have := HM.out; omega) (by simp; omega) ?_))
          intro g capp w2 hown hwh0 hlt2
          have hwh : (g = (wr.alloc (.cells #[.int .i64 (k : Int)] 3)).heap.size ∧ RowKit.Below (wr.alloc (.cells #[.int .i64 (k : Int)] 3)).heap.size (wr.alloc (.cells #[.int .i64 (k : Int)] 3)) w2) ∨ (Value.slice a h.length cap = .slice (some ⟨g, 0, none⟩) h.length capp ∧ (wr.alloc (.cells #[.int .i64 (k : Int)] 3)).grownBy w2 (some g)) := by
            rcases hwh0 with ⟨e1, e2⟩ | ⟨⟨rfl, rfl⟩, e2⟩
            · exact .inl ⟨by simpa using e1, by simpa using e2⟩
            · exact .inr ⟨rfl, e2⟩
          clear hwh0
          have hbw := app_below HOr.out hbr hwh
          have HR := Lib.hid (fun dd => HIH.out (h ++ [(k : Int)]) (.slice (some ⟨g, 0, none⟩) (h.length + 1) capp) (pre ++ segT n m h k) w2 dd (by have := HM.out; simp; omega) (by unfold Owns; simpa using hown) (Nat.le_trans hbr hbw.size) (hJ _ _ _ hJr hbw)
            ((by rw [List.append_assoc, ← HSS.out]; exact (List.prefix_append_right_inj _).2 HPP.out : _ <+: pre ++ ordT n (m + 1) h).trans HP.out))
          have HW := Lib.hid hwh
          clear hown hwh hlt2 hbw
          gi_wp2_with (refine ⟨trivial, fun hh => (by cases hh), ?_⟩; gi_at_call 136; refine (HR.out _).mono ?_; clear HR; rintro e w3 ⟨hbu, (⟨rfl, hJ3, hO3⟩ | ⟨rfl, q, hq, hJx3⟩)⟩)
          · have hbk := own_back (HOr.out.fut (Fut.alloc _ _)) (by simp; omega) HW.out hbu hZ hO3
            have HO3 := Lib.hid hbk.1
            have HB3 := Lib.hid (HBr.out.trans ((But.of_below (Fut.alloc wr (.cells #[.int .i64 (k : Int)] 3))).trans hbk.2))
            have HJ3 : J (pre ++ segT n m h (k + 1)) w3 := by rw [HSS.out, ← List.append_assoc]; exact hJ3
            clear hbk hbu hO3 hJ3
            gi_wp2_with fail
            go_roundw
            case rel => exact ⟨k + 1, by omega, by go_num, HJ3, HO3, HB3⟩
            case measure => simp [intOf]; omega
          · have HB3 := HBr.out.trans ((But.of_below (Fut.alloc wr (.cells #[.int .i64 (k : Int)] 3))).trans (but_back HW.out hbu))
            clear hbu
            gi_wp2_with fail
            refine bodyPost_ret (results_tmp rfl _ _ _) rfl ?_
            refine ⟨HB3, .inr ⟨rfl, segT n m h k ++ q, ?_, by rw [← List.append_assoc]; exact hJx3⟩⟩
            have e1 : segT n m h k ++ q <+: segT n m h (k + 1) := by rw [HSS.out]; exact (List.prefix_append_right_inj _).2 hq
            exact e1.trans HPP.out
        · rw [hc] at HC HSS
          simp only [if_true, List.append_nil] at HSS
          clear hc
          gi_wp2_with (refine ⟨trivial, fun hh => (by cases hh), ?_⟩; gi_at_call 51; refine (callsIn_wide.2 HC.out).mono ?_; clear HC; rintro e w1 ⟨rfl, rfl⟩)
          refine ⟨trivial, ?_⟩
          gi_wp2_with fail
          go_roundw
          case rel => exact ⟨k + 1, by omega, by go_num, by rw [HSS.out]; exact hJr, HOr, HBr⟩
          case measure => simp [intOf]; omega
      · obtain rfl : k = n := by omega
        gi_wp2_with fail
        refine bodyPost_ret (results_tmp rfl _ _ _) rfl ?_
        exact ⟨HBr.out, .inl ⟨rfl, hJr, HOr.out⟩⟩
set_option maxRecDepth 100000 in
set_option maxHeartbeats 1000000 in
theorem orders_seqO (n : Nat) (hn : n ≤ 5) (Bm : Nat) :
    SeqV Try.prog 135 #[.pointer (some ⟨Bm, 0, none⟩)] Ro (ordT n n []) 0 (fun w => w.cell? ⟨Bm, 0, none⟩ = some (.int .i64 n)) := fun l Z J Jx W d hZ _ hc hJ _ hY h0 => by
  have HE := Lib.hid (fun dd => each_own n hn l W.heap.size Z (fun k hk => (hZ k hk).2) J Jx hJ (ordT n n []) hY n [] (.slice none 0 0) [] W dd (by simp) (World.ownsRow_nil _ _ _ _) (Nat.le_refl _) h0 (List.prefix_refl _))
  clear hY hZ hJ
  show CallsIn Fence.wide d Try.prog 135 #[.func (.yield l) #[] #[], .pointer (some ⟨Bm, 0, none⟩)] W _
  refine callsIn_of_wp Try.func135 rfl trivial ?_ rfl
  simp only [Try.ntmps135, List.size_toArray, List.length_cons, List.length_nil, Nat.reduceAdd, Nat.reduceSub, Array.replicate_succ, Array.replicate_zero, List.push_toArray, List.append_toArray, List.nil_append, List.cons_append]
  gi_wp2_with (refine ⟨trivial, fun hh => (by cases hh), ?_⟩; gi_at_call 136; refine (HE.out _).mono ?_; clear HE; rintro e w3 ⟨hbu, (⟨rfl, hJ3, hO3⟩ | ⟨rfl, q, hq, hJx3⟩)⟩)
  · go_end0
    exact ⟨⟨_, rfl⟩, .inl hJ3⟩
  · go_end0
    exact ⟨⟨_, rfl⟩, .inr ⟨q, hq, hJx3⟩⟩
set_option maxRecDepth 100000 in
set_option maxHeartbeats 4000000 in
theorem fitting_seqO (n : Nat) (hn : n ≤ 5) (Bs Bp : Nat) (a : Option Addr) (cap : Nat) (zss : List (List Int)) (wp : World) (hBs : Bs < wp.heap.size) (hBp : Bp < wp.heap.size) (hcs : wp.cell? ⟨Bs, 0, none⟩ = some (.int .i64 n))
    (hcp : wp.cell? ⟨Bp, 0, none⟩ = some (.slice a zss.length cap)) (hL : LstAt wp a zss) (hl : zss.length ≤ 5) (hd : ∀ k, k < zss.length → n ≤ (lth zss k).length) (hlen : ∀ r ∈ ordT n n [], r.length = n) :
    SeqV Try.prog 112 #[.pointer (some ⟨Bs, 0, none⟩), .pointer (some ⟨Bp, 0, none⟩)] Ro ((ordT n n []).filter fun r => amE n zss r == 0) wp.heap.size (fun w => RowKit.Below wp.heap.size wp w) := fun l Z J Jx W d hZ hN0 hW hJ hJx hY h0 => by
  have hcsW := (hW.cell (p := ⟨Bs, 0, none⟩) hBs).trans hcs
  show CallsIn Fence.wide d Try.prog 112 #[.func (.yield l) #[] #[], .pointer (some ⟨Bs, 0, none⟩), .pointer (some ⟨Bp, 0, none⟩)] W _
  refine callsIn_of_wp_marks Try.func112 rfl trivial ?_ rfl
  simp only [Try.ntmps112, List.size_toArray, List.length_cons, List.length_nil, Nat.reduceAdd, Nat.reduceSub, Array.replicate_succ, Array.replicate_zero, List.push_toArray, List.append_toArray, List.nil_append, List.cons_append]
  have hcs1 := alloc_old W (.cells #[.func (.yield l) #[] #[]] 109) hcsW
  gi_wp2_with (refine ⟨trivial, fun hh => (by cases hh), ?_⟩; gi_at_call 113; refine (callsIn_wide.2 (orders_any _ _)).mono ?_; rintro e w3 ⟨rfl, rfl⟩)
  have hsz : ((W.alloc (.cells #[.func (.yield l) #[] #[]] 109)).alloc (.cells #[.int .i64 (n : Int)] 3)).heap.size = W.heap.size + 2 := by simp
  have hcb : ((W.alloc (.cells #[.func (.yield l) #[] #[]] 109)).alloc (.cells #[.int .i64 (n : Int)] 3)).cell? ⟨W.heap.size, 0, none⟩ = some (.func (.yield l) #[] #[]) := alloc_old _ _ (alloc_cell W _ _)
  have hcm : ((W.alloc (.cells #[.func (.yield l) #[] #[]] 109)).alloc (.cells #[.int .i64 (n : Int)] 3)).cell? ⟨W.heap.size + 1, 0, none⟩ = some (.int .i64 n) := by
    have h := alloc_cell (W.alloc (.cells #[.func (.yield l) #[] #[]] 109)) (.int .i64 (n : Int)) 3
    rwa [World.size_alloc] at h
  have hbW : RowKit.Below W.heap.size W ((W.alloc (.cells #[.func (.yield l) #[] #[]] 109)).alloc (.cells #[.int .i64 (n : Int)] 3)) := ((RowKit.Below.refl _ W).alloc (Nat.le_refl _) _).alloc (by simp) _
  generalize (W.alloc (.cells #[.func (.yield l) #[] #[]] 109)).alloc (.cells #[.int .i64 (n : Int)] 3) = W0 at *
  refine range_v (xs := ordT n n []) (V := Ro) (N0 := 0) (Ok := fun w => w.cell? ⟨W.heap.size + 1, 0, none⟩ = some (.int .i64 n)) (gf := 135) (lb := #[.pointer (some ⟨W.heap.size + 1, 0, none⟩)]) rfl (enters_of Try.func135 (by kernel_rfl) rfl)
    (fun x v w w' h k => h.calm k) (orders_seqO n hn _) (Nat.zero_le _) (fun W2 hb2 => (hb2.cell (p := ⟨W.heap.size + 1, 0, none⟩) (by show W.heap.size + 1 < _; omega)).trans hcm) rfl Z (fun k hk => ⟨Nat.zero_le _, by have := (hZ k hk).2; omega⟩)
    (fun pre W1 => J (pre.filter fun r => amE n zss r == 0) W1 ∧ Hid (RowKit.Below wp.heap.size wp W1) ∧ W1.cell? ⟨W.heap.size, 0, none⟩ = some (.func (.yield l) #[] #[]))
    (fun c pre W1 => c = .ret ∧ Jx (pre.filter fun r => amE n zss r == 0) W1)
    (fun s A B hs hb => ⟨hJ _ _ _ hs.1 (hb.mono (by omega)), Lib.hid (hs.2.1.out.trans (hb.mono (by omega))), (hb.cell (p := ⟨W.heap.size, 0, none⟩) (by show W.heap.size < _; omega)).trans hs.2.2⟩)
    (fun c s A B hs hb => ⟨hs.1, hJx _ _ _ hs.2 (hb.mono (by omega))⟩)
    ⟨hJ _ _ _ h0 hbW, Lib.hid (hW.trans (hbW.mono hN0)), hcb⟩
    (fun v => { tmps := #[.func (.yield l) #[] #[], .pointer (some ⟨Bs, 0, none⟩), .pointer (some ⟨Bp, 0, none⟩), .pointer (some ⟨W.heap.size, 0, none⟩), v, .int .i64 n, .func (.func 135) #[] #[.pointer (some ⟨W.heap.size + 1, 0, none⟩)], v, undef, undef, undef, undef, undef, undef, undef, undef, undef, undef, undef], defers := [] })
    ?assign ?body ?done ?stop
  case assign =>
    intro m l' v W1 K hK
    gi_wp2
    exact hK
  case body =>
    rintro m l' pre x v W1 hs1 ⟨hJ1, hb1, hc1⟩ hRo hpre
    obtain ⟨xa, xc, rfl, hx1, hx2, hxI⟩ := Owns.form hRo
    have HRO := Lib.hid hRo
    clear hRo
    have hxl : x.length = n := hlen x (hpre.subset (by simp))
    have hr1 := (hb1.out.cell (p := ⟨Bs, 0, none⟩) hBs).trans hcs
    have hr2 := (hb1.out.cell (p := ⟨Bp, 0, none⟩) hBp).trans hcp
    have HA := Lib.hid (among_any n a cap zss xa xc x W1 (hL.fut hb1.out) hxI (fun k hk => by rw [hxl]; exact hd k hk) (by omega) (by omega) hx1 (by unfold maxLen at hx2; omega))
    have HPF := Lib.hid (hpre.filter fun r => amE n zss r == 0)
    clear hxl hpre hx2
    by_cases hz : amE n zss x = 0
    · have hfx : (pre ++ [x]).filter (fun r => amE n zss r == 0) = pre.filter (fun r => amE n zss r == 0) ++ [x] := by
        rw [List.filter_append]; simp [hz]
      rw [hz] at HA
      clear hz
      rw [hfx] at HPF
      have HFX := Lib.hid hfx
      clear hfx
      gi_wp2_with (first
        | (refine ⟨trivial, fun hh => (by cases hh), ?_⟩; gi_at_call 77; refine (CallsIn.inRound l' (callsIn_wide.2 HA.out)).mono ?_; clear HA; rintro e W2 ⟨rfl, hF⟩; have hc2 := (RowKit.Below.cell hF (p := ⟨W.heap.size, 0, none⟩) (by show W.heap.size < _; omega)).trans hc1; obtain ⟨fn, tmps, assign, body, hy, hR⟩ := hY (m - 1) _ x (.slice xa x.length xc) W2 (by have := RowKit.Below.size hF; omega) (hJ _ _ _ hJ1 (RowKit.Below.mono hF (by omega))) (HRO.out.fut hF) HPF.out)
        | (refine ⟨fun hh => (by cases hh), ?_⟩; refine RoundIn.mono hR ?_; clear hR; rintro e W3 ⟨hbu, (⟨rfl, hJ3⟩ | ⟨rfl, hJx3⟩)⟩))
      · have hz2 : W1.heap.size ≤ W2.heap.size := RowKit.Below.size hF
        exact ⟨(But.of_below hF).trans hbu, by rw [HFX.out]; exact hJ3,
          Lib.hid ((hb1.out.trans (RowKit.Below.mono hF (by omega))).trans (hbu.below _ (by omega) fun q hq => (hZ q hq).1)), (hbu.cell (p := ⟨W.heap.size, 0, none⟩) (by show W.heap.size < _; omega) (fun hq => by have h5 := (hZ _ hq).2; exact absurd h5 (Nat.lt_irrefl _))).trans hc2⟩
      · exact ⟨(But.of_below hF).trans hbu, rfl, by rw [HFX.out]; exact hJx3⟩
    · have hfx : (pre ++ [x]).filter (fun r => amE n zss r == 0) = pre.filter (fun r => amE n zss r == 0) := by
        rw [List.filter_append]; simp [hz]
      have HFX := Lib.hid hfx
      have hzb : (amE n zss x == 0) = false := by simp [hz]
      clear hfx hz HPF hY
      gi_wp2_with (refine ⟨trivial, fun hh => (by cases hh), ?_⟩; gi_at_call 77; refine (CallsIn.inRound l' (callsIn_wide.2 HA.out)).mono ?_; clear HA; rintro e W2 ⟨rfl, hF⟩)
      refine ⟨fun _ h => (by cases h), ?_⟩
      gi_wp2_with fail
      exact ⟨But.of_below hF, by rw [HFX.out]; exact hJ _ _ _ hJ1 (RowKit.Below.mono hF (by omega)), Lib.hid (hb1.out.trans (RowKit.Below.mono hF (by omega))), (RowKit.Below.cell hF (p := ⟨W.heap.size, 0, none⟩) (by show W.heap.size < _; omega)).trans hc1⟩
  case done =>
    rintro D W5 hD ⟨hJ5, hb5, hc5⟩ hK
    gi_wp2_with fail
    refine ⟨by simp, .inl ⟨_, _, rfl, run_takeDeferred hK, ?_⟩⟩
    refine ⟨_, results_none rfl _ _ _, ⟨_, rfl⟩, .inl ?_⟩
    exact hJ _ _ _ hJ5 (below_putObj _ _ (by omega))
  case stop =>
    rintro D c pre W5 hD hpre ⟨rfl, hJ5⟩ hK
    gi_wp2_with fail
    refine ⟨by simp, .inl ⟨_, _, rfl, run_takeDeferred hK, ?_⟩⟩
    refine ⟨_, results_none rfl _ _ _, ⟨_, rfl⟩, .inr ⟨_, hpre.filter _, ?_⟩⟩
    exact hJx _ _ _ hJ5 (Calm.putObj _ (by omega) hK rfl)
set_option maxRecDepth 100000 in
set_option maxHeartbeats 4000000 in
theorem first_own {g : Nat} {lb : Array Value} {xs : List (List Int)} {N0 : Nat} {Ok : World → Prop} (hseq : SeqV Try.prog g lb Ro xs N0 Ok) (eg : ∀ args w, (callFunc g args).run Try.prog w = .ok (.enter g args) w) (w : World) (hN : N0 ≤ w.heap.size)
    (hOk : ∀ W, RowKit.Below w.heap.size w W → Ok W) :
    Calls Try.prog 72 #[.func (.func g) #[] lb] w fun e w' => ∃ v, e = .returned v ∧ Ro (lth xs 0) v w' ∧ Fut w w' := by
  refine (callsIn_wide (n := 3)).1 ?_
  refine callsIn_of_wp_marks Try.func72 rfl trivial ?_ rfl
  simp only [Try.ntmps72, List.size_toArray, List.length_cons, List.length_nil, Nat.reduceAdd, Nat.reduceSub, Array.replicate_succ, Array.replicate_zero, List.push_toArray, List.append_toArray, List.nil_append, List.cons_append]
  gi_wp2_with fail
  have hh0 : (w.alloc (.cells #[.slice none 0 0] 28)).heap[w.heap.size]? = some (.cells #[.slice none 0 0] 28) := World.alloc_heap_new w _
  have hb0 : RowKit.Below w.heap.size w (w.alloc (.cells #[.slice none 0 0] 28)) := (RowKit.Below.refl _ w).alloc (Nat.le_refl _) _
  have hs0 : (w.alloc (.cells #[.slice none 0 0] 28)).heap.size = w.heap.size + 1 := by simp
  generalize w.alloc (.cells #[.slice none 0 0] 28) = W0 at *
  refine range_v (xs := xs) (V := Ro) (N0 := N0) (Ok := Ok) (gf := g) (lb := lb) rfl eg
    (fun x v w w' h k => h.calm k) hseq (by omega) (fun W2 hb2 => hOk _ (hb0.trans (hb2.mono (by omega)))) rfl (fun k => k = w.heap.size) (fun k hk => by subst hk; exact ⟨hN, by omega⟩)
    (fun pre W1 => pre = [] ∧ W1.heap[w.heap.size]? = some (.cells #[.slice none 0 0] 28) ∧ Hid (RowKit.Below w.heap.size w W1))
    (fun c pre W1 => c = .ret ∧ ∃ x v, pre = [x] ∧ W1.cell? ⟨w.heap.size, 0, none⟩ = some v ∧ Ro x v W1 ∧ Hid (RowKit.Below w.heap.size w W1))
    (fun s A B hs hb => ⟨hs.1, (hb.block _ (by omega)).trans hs.2.1, Lib.hid (hs.2.2.out.trans (hb.mono (by omega)))⟩)
    (fun c s A B hs hb => by
      obtain ⟨h1, x, v, h2, h3, h4, h5⟩ := hs
      exact ⟨h1, x, v, h2, hb.cell h3, h4.calm (hb.mono (Nat.zero_le _)), Lib.hid (h5.out.trans ((hb.mono (by omega)).low_below h5.out.size))⟩)
    ⟨rfl, hh0, Lib.hid hb0⟩
    (fun v => { tmps := #[.func (.func g) #[] lb, undef, .pointer (some ⟨w.heap.size, 0, none⟩), v, .func (.func g) #[] lb, v, undef], defers := [] })
    ?assign ?body ?done ?stop
  case assign =>
    intro m l' v W1 K hK
    gi_wp2
    exact hK
  case body =>
    rintro m l' pre x v W1 hs1 ⟨rfl, hh1, hb1⟩ hR hpre
    obtain ⟨hc1, hf1⟩ := slice_box hh1
    have HR := Lib.hid hR
    obtain ⟨xa, xc, rfl, _⟩ := Owns.form hR
    gi_wp2_with fail
    have h5 := (slice_box (set_heap (u' := .slice xa x.length xc) hh1)).1
    exact ⟨But.setCell (Z := fun k => k = w.heap.size) (p := ⟨w.heap.size, 0, none⟩) (But.refl _ W1) (.inl rfl) _, rfl, x, _, rfl, h5, HR.out.store hh1 _, Lib.hid (hb1.out.setCell (p := ⟨w.heap.size, 0, none⟩) (Nat.le_refl _) _)⟩
  case done =>
    rintro D W5 hD ⟨rfl, hh5, hb5⟩ hK
    obtain ⟨hc5, hf5⟩ := slice_box hh5
    gi_wp2_with fail
    have hK' := (KeepsOthers.setCell W5 ⟨w.heap.size, 0, none⟩ (.slice none 0 0)).same D _ hK rfl
    refine ⟨by simp, .inl ⟨_, _, rfl, run_takeDeferred hK', ?_⟩⟩
    have hc6 := (Calm.putObj (B := w.heap.size) (.deferred none) (by omega) hK' rfl).cell (slice_box (set_heap (u' := .slice none 0 0) hh5)).1
    refine ⟨.slice none 0 0, ?_, _, rfl, (by rw [show lth ([] : List (List Int)) 0 = [] from rfl]; exact World.ownsRow_nil _ _ _ _), (hb5.out.setCell (p := ⟨w.heap.size, 0, none⟩) (Nat.le_refl _) _).trans (below_putObj _ _ (by omega))⟩
    simp [results, Try.f72, go_sem, hc6]
  case stop =>
    rintro D c pre W5 hD hpre ⟨rfl, x, v, rfl, hc5, hR5, hb5⟩ hK
    gi_wp2_with fail
    refine ⟨by simp, .inl ⟨_, _, rfl, run_takeDeferred hK, ?_⟩⟩
    have hca : Calm w.heap.size W5 (W5.putObj D (.deferred none)) := Calm.putObj (B := w.heap.size) (.deferred none) (by omega) hK rfl
    have hc6 := hca.cell hc5
    have hx : lth xs 0 = x := by
      obtain ⟨t, rfl⟩ := hpre
      rfl
    refine ⟨v, ?_, _, rfl, by rw [hx]; exact hR5.calm (hca.mono (Nat.zero_le _)), hb5.out.trans (below_putObj _ _ (by omega))⟩
    simp [results, Try.f72, go_sem, hc6]
abbrev TupO (r : Int) (zs : List Int) (w : World) (e : Ending) (w' : World) : Prop := ∃ l lc, e = .returned (.tuple #[.slice l zs.length lc, .int .i64 r]) ∧ Owns w' 0 (.slice l zs.length lc) zs ∧ Fut w w'
theorem TupO.nil (r : Int) {w w' : World} (F : Fut w w') : TupO r [] w (.returned (.tuple #[.slice none 0 0, .int .i64 r])) w' := ⟨none, 0, rfl, World.ownsRow_nil _ _ _ _, F⟩
theorem first_fitO (n : Nat) (hn : n ≤ 5) (a : Option Addr) (cap : Nat) (zss : List (List Int)) (w w1 : World) (hL : LstAt w a zss) (hl : zss.length ≤ 5) (hd : ∀ k, k < zss.length → n ≤ (lth zss k).length)
    (hw1 : w1 = (w.alloc (.cells #[.int .i64 (n : Int)] 3)).alloc (.cells #[.slice a zss.length cap] 22)) :
    (Calls Try.prog 72 #[.func (.func 112) #[] #[.pointer (some ⟨w.heap.size, 0, none⟩), .pointer (some ⟨w.heap.size + 1, 0, none⟩)]] w1 fun e w' => ∃ v, e = .returned v ∧ Ro (lth (fitL n zss) 0) v w' ∧ Fut w w') := by
  obtain ⟨hb, hsz, hc1, hc2⟩ := two_alloc w n (.slice a zss.length cap)
  rw [← hw1] at hb hsz hc1 hc2
  clear hw1
  have hseq := fitting_seqO n hn w.heap.size (w.heap.size + 1) a cap zss w1 (by omega) (by omega) hc1 hc2 (hL.fut hb) hl hd (fun r hr => ord_len hr)
  have hF : Fut w w1 := hb
  exact (first_own hseq (enters_of Try.func112 (by kernel_rfl) rfl) w1 (Nat.le_refl _) (fun _ h => h)).mono fun _ _ ⟨v, e, h, F⟩ => ⟨v, e, h, hF.trans F⟩
set_option maxRecDepth 100000 in
theorem next_own (c : Int) (a : Option Addr) (cap : Nat) (zss : List (List Int)) (w : World) (hL : LstC w a zss) (hcap : zss.length ≤ cap) (hcm : cap ≤ 9223372036854775807) :
    Calls Try.prog 20 #[.int .i64 c, .slice a zss.length cap] w (TupO (opnE c zss) (nxtL c zss) w) := by
  have HC := Lib.hid (open_any c a cap zss w hL hcap hcm)
  unfold nxtL
  by_cases hs : opnE c zss = 0
  · rw [if_pos hs]
    rw [hs] at HC ⊢
    obtain ⟨c1, c5, hn, hrow⟩ := opn_rows hs
    obtain ⟨n, rfl⟩ := Int.eq_ofNat_of_zero_le (show 0 ≤ c by omega)
    rw [show ((n : Int)).toNat = n by simp]
    have HCC := Lib.hid (fun W W1 (F : Fut w W) h => (first_fitO n (by omega) a cap zss W W1 (hL.lst.fut F) (by omega) (fun k hk => by have := (hrow k hk).1; omega) h))
    clear hL hs hrow hcap hcm
    generalize lth (fitL n zss) 0 = row at *
    go_enter Try.func20, Try.ntmps20
    go_wp2_with fail
    refine HC.out.mono ?_
    rintro _ w1 ⟨rfl, F1⟩
    have HF1 := Lib.hid F1
    have H2 := Lib.hid (HCC.out w1 _ F1 rfl)
    clear F1 HCC HC
    go_wp2_with fail
    refine (fitting_any _ _ _ _ _).mono ?_
    rintro _ w2 ⟨rfl, rfl⟩
    go_wp2_with fail
    refine H2.out.mono ?_
    rintro _ w2 ⟨v, rfl, hRo, F2⟩
    have HRO := Lib.hid hRo
    obtain ⟨l, lc, rfl, _, _, _⟩ := Owns.form hRo
    have HF2 := Lib.hid (HF1.out.trans F2)
    clear F2 hRo
    go_wp2
    go_ret2
    exact ⟨l, lc, rfl, HRO.out, HF2.out⟩
  · rw [if_neg hs]
    clear hL
    generalize opnE c zss = E at *
    go_enter Try.func20, Try.ntmps20
    go_wp2_with fail
    refine HC.out.mono ?_
    rintro _ w1 ⟨rfl, F⟩
    have HF := Lib.hid F
    clear F
    go_wp2
    go_ret2
    exact TupO.nil E HF.out
end Go.Proofs.Ytpgifeaejjjjnaa
