/- Count 25: fcount_any; chk_all -/
import Derived.Test.YtflllkamdihfaaaLBF
import Derived.Test.YtflllkamdihfaaaLMA
import Derived.Test.YtflllkamdihfaaaLBB
import Derived.Deep.DeepCutAuto
namespace Go.Proofs.Ytflllkamdihfaaa
open Go.RowKit Go.Sort
theorem difF_good {m : Int} {S all : List Int} : ∀ (l : List Int) (k : Nat), all.drop k = l → difF m S all l k = 0 → (∀ x ∈ l, 0 ≤ x ∧ x < m ∧ x ∉ S) ∧ (∀ x ∈ l, x ∉ all.take k) ∧ l.Nodup
  | [], k, _, _ => ⟨by simp, by simp, by simp⟩
  | x :: t, k, hd, h => by
    unfold difF at h
    by_cases h1 : atE m S x = 0
    · rw [if_pos h1] at h
      by_cases h2 : (all.take k).contains x = true
      · rw [if_pos h2] at h; omega
      · rw [if_neg h2] at h
        have hk : all.take (k + 1) = all.take k ++ [x] := by
          have hlt : k < all.length := by
            have := congrArg List.length hd
            rw [List.length_drop, List.length_cons] at this; omega
          have e : all[k]? = some x := by
            have := congrArg List.head? hd
            rw [List.head?_drop] at this; simpa using this
          rw [List.take_add_one, e]; rfl
        have hd2 : all.drop (k + 1) = t := by
          have := congrArg List.tail hd
          rw [List.tail_drop] at this; simpa using this
        obtain ⟨a1, a2, a3⟩ := difF_good t (k + 1) hd2 h
        have hx : x ∉ all.take k := by simpa using h2
        refine ⟨fun y hy => ?_, fun y hy => ?_, List.nodup_cons.2 ⟨fun q => ?_, a3⟩⟩
        · rcases List.mem_cons.1 hy with rfl | hy
          · exact atE_zero.1 h1
          · exact a1 y hy
        · rcases List.mem_cons.1 hy with rfl | hy
          · exact hx
          · exact fun q => a2 y hy (by rw [hk]; simp [q])
        · exact a2 x q (by rw [hk]; simp)
    · rw [if_neg h1] at h; exact absurd h h1
theorem dif_good {m : Int} {S l : List Int} (h : difE m S l = 0) : (∀ x ∈ l, 0 ≤ x ∧ x < m ∧ x ∉ S) ∧ l.Nodup := by
  obtain ⟨a, _, b⟩ := difF_good (all := l) l 0 rfl h
  exact ⟨a, b⟩
/-- what Check's answer 0 says. -/
structure ChkG (r c : Int) (S Y T : List Int) : Prop where
  side : Side r c (r * c)
  len : T.length = Y.length
  one : 1 ≤ Y.length
  three : Y.length ≤ 3
  y : ∀ x ∈ Y, 0 ≤ x ∧ x < r * c ∧ x ∉ S
  t : ∀ x ∈ T, 0 ≤ x ∧ x < r * c ∧ x ∉ S
  yd : Y.Nodup
  td : T.Nodup
theorem chk_all {r c : Int} {S Y T : List Int} (h : chkP r c S Y T = 0) : ChkG r c S Y T := by
  obtain ⟨h1, _, h3, h4, h5, h6, h7⟩ := chk_side h
  exact ⟨h1, h3, h4, h5, (dif_good h6).1, (dif_good h7).1, (dif_good h6).2, (dif_good h7).2⟩
theorem flat_le {α β : Type} {g : α → List β} {b : Nat} : ∀ (l : List α), (∀ x ∈ l, (g x).length ≤ b) → (l.flatMap g).length ≤ l.length * b
  | [], _ => by simp
  | a :: l, h => by
    have h1 := h a (by simp)
    have h2 := flat_le l (fun x hx => h x (by simp [hx]))
    rw [List.flatMap_cons, List.length_append, List.length_cons, Nat.succ_mul]
    omega
theorem gtL_le (c m : Int) (S T : List Int) : ∀ (f : Nat) (k : Int), (gtL (stL c m S) T f k).length ≤ 2 ^ f
  | 0, k => by simp [gtL]
  | f + 1, k => by
    unfold gtL
    have hp : 1 ≤ 2 ^ (f + 1) := Nat.one_le_two_pow
    split
    · simpa using hp
    · have h1 := flat_le (g := fun y => (gtL (stL c m S) T f y).map (k :: ·)) (b := 2 ^ f) (stL c m S k) (fun x _ => by rw [List.length_map]; exact gtL_le c m S T f x)
      have h2 := stL_len c m S k
      have h3 := Nat.mul_le_mul_right (2 ^ f) h2
      rw [Nat.pow_succ]
      omega
theorem sendF_le (c m : Int) (S Y T : List Int) : ∀ (n : Nat) (F : List (List Int)), (sendF (stL c m S) Y T n F).length ≤ 65536 ^ n
  | 0, F => by simp [sendF]
  | n + 1, F => by
    rw [sendF_succ]
    have h1 := flat_le (g := fun w => sendF (stL c m S) Y T n (F ++ [w])) (b := 65536 ^ n) ((gtL (stL c m S) T 16 (nth Y F.length)).filter (apB F)) (fun w _ => sendF_le c m S Y T n _)
    have h2 : ((gtL (stL c m S) T 16 (nth Y F.length)).filter (apB F)).length ≤ 65536 := Nat.le_trans (List.length_filter_le _ _) (gtL_le c m S T 16 _)
    have h3 := Nat.mul_le_mul_right (65536 ^ n) h2
    rw [Nat.pow_succ]
    omega
theorem famL_le {r c : Int} {S Y T : List Int} (h : chkP r c S Y T = 0) : (famL c (r * c) S Y T).length ≤ 281474976710656 := by
  refine Nat.le_trans (sendF_le c (r * c) S Y T Y.length []) ?_
  have := (chk_all h).three
  have h2 : 65536 ^ Y.length ≤ 65536 ^ 3 := Nat.pow_le_pow_right (by decide) this
  exact Nat.le_trans h2 (by decide)
/-- what Count answers. -/
def cntN (r c : Int) (S Y T : List Int) : Nat := if chkP r c S Y T = 0 then (famL c (r * c) S Y T).length else 0
section
attribute [local go_sem] Oper.semAt_some
open Go.Shelf
set_option maxRecDepth 100000 in
set_option maxHeartbeats 4000000 in
theorem fcount_any (r c : Int) (a : Option Addr) (cap : Nat) (S : List Int) (ya : Option Addr) (yc : Nat) (Y : List Int) (ta : Option Addr) (tc : Nat) (T : List Int) (w : World) (h : InPQ w a S ya yc Y ta tc T) :
    Calls Try.prog 25 #[parV r c a S.length cap, plaV ya Y.length yc ta T.length tc] w fun e w' => e = .returned (.tuple #[.int .i64 (cntN r c S Y T : Nat), .int .i64 (chkP r c S Y T)]) ∧ Fut w w' := by
  have hA : Fut w ((w.alloc (.cells #[.int .i64 r, .int .i64 c, .slice a S.length cap] 24)).alloc (.cells #[.slice ya Y.length yc, .slice ta T.length tc] 26)) := (Fut.alloc _ _).trans (Fut.alloc _ _)
  have hBP := (BoxP.new w r c a S.length cap).fut (Fut.alloc _ (.cells #[.slice ya Y.length yc, .slice ta T.length tc] 26))
  have hBQ := BoxQ.new (w.alloc (.cells #[.int .i64 r, .int .i64 c, .slice a S.length cap] 24)) ya Y.length yc ta T.length tc
  rw [World.size_alloc] at hBQ
  have HCK := Lib.hid (fun W (F : Fut w W) => chk_any r c a cap S ya yc Y ta tc T W (h.fut F))
  have HA := Lib.hid hA
  have HBP := Lib.hid hBP
  have HBQ := Lib.hid hBQ
  have HIN := Lib.hid h
  have HCG := Lib.hid (fun q => chk_all (r := r) (c := c) (S := S) (Y := Y) (T := T) q)
  have HLE := Lib.hid (fun q => famL_le (r := r) (c := c) (S := S) (Y := Y) (T := T) q)
  obtain ⟨_, p0, p1, p2⟩ := hBP
  obtain ⟨_, q0, q1⟩ := hBQ
  have HN : Hid (cntN r c S Y T = if chkP r c S Y T = 0 then (famL c (r * c) S Y T).length else 0) := Lib.hid rfl
  generalize cntN r c S Y T = N at *
  generalize hck : chkP r c S Y T = ck at *
  have HSQ := Lib.hid (fun (hs : Side r c (r * c)) W (F : Fut w W) => apart_seq W r c (r * c) hs a cap S ya yc Y ta tc T (h.fut F))
  clear hA h hck
  refine (callsIn_wide (n := 3)).1 ?_
  refine callsIn_of_wp_marks Try.func25 rfl trivial ?_ rfl
  simp only [Try.ntmps25, List.size_toArray, List.length_cons, List.length_nil, Nat.reduceAdd, Nat.reduceSub, Array.replicate_succ, Array.replicate_zero, List.push_toArray, List.append_toArray, List.nil_append, List.cons_append]
  gi_wp2_with fail
  generalize (w.alloc (.cells #[.int .i64 r, .int .i64 c, .slice a S.length cap] 24)).alloc (.cells #[.slice ya Y.length yc, .slice ta T.length tc] 26) = W1 at *
  refine ⟨trivial, ?_⟩
  refine (callsIn_wide.2 (HCK.out _ HA.out)).mono ?_
  rintro e w2 ⟨rfl, F2⟩
  have HF2 := Lib.hid (HA.out.trans F2)
  have HBP2 := Lib.hid (HBP.out.fut F2)
  have HBQ2 := Lib.hid (HBQ.out.fut F2)
  clear F2 HA HBP HBQ p0 p1 p2 q0 q1
  obtain ⟨_, p0, p1, p2⟩ := HBP2.out
  obtain ⟨_, q0, q1⟩ := HBQ2.out
  by_cases h0 : ck = 0
  · subst h0
    obtain rfl : N = (famL c (r * c) S Y T).length := by rw [HN.out, if_pos rfl]
    have HG := Lib.hid (HCG.out rfl)
    have HLL := Lib.hid (HLE.out rfl)
    have HSS := Lib.hid (fun W F => HSQ.out HG.out.side W F (fun y hy => ⟨(HG.out.y y hy).1, (HG.out.y y hy).2.1⟩))
    clear HCG HLE HSQ
    gi_wp2_with fail
    have hAl : Fut w2 (w2.alloc (.cells #[.int .i64 0] 3)) := Fut.alloc _ _
    have HF3 := Lib.hid (HF2.out.trans hAl)
    have HBP3 := Lib.hid (HBP2.out.fut hAl)
    have HBQ3 := Lib.hid (HBQ2.out.fut hAl)
    have hc0 : (w2.alloc (.cells #[.int .i64 0] 3)).cell? ⟨w2.heap.size, 0, none⟩ = some (.int .i64 (0 : Nat)) := alloc_cell w2 _ _
    have hf0 : (w2.alloc (.cells #[.int .i64 0] 3)).frozen? ⟨w2.heap.size, 0, none⟩ = false := by
      have h := World.alloc_heap_new w2 (.cells #[.int .i64 0] 3)
      unfold World.frozen?; rw [h]; rfl
    have hs0 : w2.heap.size < (w2.alloc (.cells #[.int .i64 0] 3)).heap.size := by simp
    generalize w2.alloc (.cells #[.int .i64 0] 3) = W3 at *
    clear p0 p1 p2 q0 q1 hAl
    obtain ⟨_, p0, p1, p2⟩ := HBP3.out
    obtain ⟨_, q0, q1⟩ := HBQ3.out
    refine ⟨trivial, ?_⟩
    refine (callsIn_wide.2 (aptF_any r c a S.length cap ya Y.length yc ta T.length tc W3)).mono ?_
    rintro e w4 ⟨rfl, F4, hBP4, hBQ4⟩
    have hc4 := (RowKit.Below.cell F4 (p := ⟨w2.heap.size, 0, none⟩) hs0).trans hc0
    have hf4 := (RowKit.Below.frozen F4 (p := ⟨w2.heap.size, 0, none⟩) hs0).trans hf0
    have hs4 : w2.heap.size < w4.heap.size := Nat.lt_of_lt_of_le hs0 (RowKit.Below.size F4)
    have HF4 := Lib.hid (HF3.out.trans F4)
    have hww : w.heap.size ≤ w2.heap.size := RowKit.Below.size HF2.out
    have hww3 : w2.heap.size ≤ W3.heap.size := Nat.le_of_lt hs0
    generalize hb1 : W3.heap.size + 1 = Bq at *
    generalize hb0 : W3.heap.size = Bp at *
    clear hc0 hf0 hs0 p0 p1 p2 q0 q1 F4 HBP3 HBQ3 HF3 HBP2 HBQ2
    generalize hFL : famL c (r * c) S Y T = FL at *
    gi_wp2_with fail
    refine range_v (xs := FL) (V := RdF) (N0 := w.heap.size) (Ok := fun W => Fut w W ∧ BoxP W Bp r c a S.length cap ∧ BoxQ W Bq ya Y.length yc ta T.length tc) (gf := 110) (lb := #[.pointer (some ⟨Bq, 0, none⟩), .pointer (some ⟨Bp, 0, none⟩)]) rfl (fun _ _ => rfl)
      (fun x v w w' h k => h.calm k) (HSS.out w Fut.rfl Bp Bq) (by omega) (fun W2 hb2 => ⟨HF4.out.trans hb2, hBP4.fut hb2, hBQ4.fut hb2⟩) rfl (fun k => k = w2.heap.size) (fun k hk => by subst hk; exact ⟨hww, hs4⟩)
      (fun pre W1 => W1.cell? ⟨w2.heap.size, 0, none⟩ = some (.int .i64 (pre.length : Nat)) ∧ W1.frozen? ⟨w2.heap.size, 0, none⟩ = false ∧ Hid (RowKit.Below w.heap.size w W1))
      (fun _ _ _ => False)
      (fun s A B hs hb => ⟨(hb.cell (p := ⟨w2.heap.size, 0, none⟩) hs4).trans hs.1, (hb.frozen (p := ⟨w2.heap.size, 0, none⟩) hs4).trans hs.2.1, Lib.hid (hs.2.2.out.trans (hb.mono (by omega)))⟩)
      (fun _ _ _ _ hs _ => hs)
      ⟨hc4, hf4, Lib.hid HF4.out⟩
      (fun v => { tmps := #[parV r c a S.length cap, plaV ya Y.length yc ta T.length tc, .pointer (some ⟨w.heap.size, 0, none⟩), .pointer (some ⟨w.heap.size + 1, 0, none⟩), .int .i64 0, .int .i64 0, .int .i64 0, .pointer (some ⟨w2.heap.size, 0, none⟩), .agg #[.int .i64 r, .int .i64 c, .slice a S.length cap], .agg #[.slice ya Y.length yc, .slice ta T.length tc], .int .i64 0, .int .i64 0, .bool false, undef, .agg #[.int .i64 r, .int .i64 c, .slice a S.length cap], .agg #[.slice ya Y.length yc, .slice ta T.length tc], .func (.func 110) #[] #[.pointer (some ⟨Bq, 0, none⟩), .pointer (some ⟨Bp, 0, none⟩)], v, undef, undef, undef], defers := [] })
      ?assign ?body ?done ?stop
    case assign =>
      intro m l' v W1 K hK
      gi_wp2
      simpa using hK
    case body =>
      rintro m l' pre x v W1 hs1 ⟨hc1, hf1, hb1⟩ _ hpre
      have hlen : pre.length + 1 ≤ FL.length := by have := hpre.length_le; simpa using this
      have hll := HLL.out
      have hwr : IntKind.i64.wrap ((pre.length : Int) + 1) = (pre.length : Int) + 1 := IntWalk.i64_in _ ⟨by omega, by omega⟩
      gi_wp2_with fail
      refine ⟨But.setCell (Z := fun k => k = w2.heap.size) (p := ⟨w2.heap.size, 0, none⟩) (But.refl _ W1) (.inl rfl) _, ?_, ?_, Lib.hid (hb1.out.setCell (p := ⟨w2.heap.size, 0, none⟩) hww _)⟩
      · have h5 := World.cell?_setCell_same' W1 ⟨w2.heap.size, 0, none⟩ (.int .i64 ((pre.length : Int) + 1)) (by rw [hc1]; rfl)
        rw [h5]; simp
      · rw [World.frozen?_setCell]; exact hf1
    case done =>
      rintro D W5 hD ⟨hc5, hf5, hb5⟩ hK
      gi_wp2_with fail
      refine ⟨by simp, .inl ⟨_, _, rfl, run_takeDeferred hK, ?_⟩⟩
      refine ⟨.tuple #[.int .i64 (FL.length : Nat), .int .i64 0], by simp [results, Try.f25, go_sem], ?_⟩
      exact ⟨by rw [hFL], hb5.out.trans (below_putObj _ _ (by omega))⟩
    case stop =>
      rintro D c pre W5 hD hpre hF hK
      exact hF.elim
  · obtain rfl : N = 0 := by rw [HN.out, if_neg h0]
    clear HCG HLE HSQ
    gi_wp2_with fail
    refine ⟨.tuple #[.int .i64 0, .int .i64 ck], by simp [results, Try.f25, go_sem], ?_⟩
    exact ⟨rfl, HF2.out⟩
end
end Go.Proofs.Ytflllkamdihfaaa
