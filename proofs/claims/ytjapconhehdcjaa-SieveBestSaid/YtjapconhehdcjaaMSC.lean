/- merged: UA UB UC UD UE UF UG -/
import Derived.Test.YtjapconhehdcjaaLE
import Derived.Test.YtjapconhehdcjaaPX
import Derived.Deep.DeepCutAuto
import Derived.Deep.AppendLies
import Derived.Test.YtjapconhehdcjaaMSA
import Derived.Test.YtjapconhehdcjaaMSB
namespace Go.Proofs.Ytjapconhehdcjaa
open Go.RowKit Go.Sort
section
/-- a row that the call has made, from a place on. -/
def RowO (w : World) (g o : Nat) (zs : List Int) : Prop := (∀ j, j < zs.length → w.cell? ⟨g, o + j, none⟩ = some (.int .i64 (nth zs j))) ∧ ∀ j, w.frozen? ⟨g, j, none⟩ = false
theorem RowO.below {w w' : World} {B g o : Nat} {zs : List Int} (h : RowO w g o zs) (hb : RowKit.Below B w w') (hg : g < B) : RowO w' g o zs :=
  ⟨fun j hj => (hb.cell (p := ⟨g, o + j, none⟩) hg).trans (h.1 j hj), fun j => (hb.frozen (p := ⟨g, j, none⟩) hg).trans (h.2 j)⟩
theorem RowO.holds {w : World} {g o : Nat} {zs : List Int} (h : RowO w g o zs) : Holds (Value.int .i64) w g o zs.toArray := fun j hj => by
  have hj' : j < zs.length := by simpa using hj
  refine ⟨?_, h.2 _⟩
  rw [h.1 j hj', nth_eq, List.getElem?_eq_getElem hj']
  simp [hj']
theorem RowO.put {w : World} {g o : Nat} {zs ys : List Int} (h : RowO w g o zs) (hl : ys.length = zs.length) : RowO (putRow (Value.int .i64) w g o ys.toArray) g o ys := by
  refine ⟨fun j hj => ?_, fun j => by rw [frozen?_putRow]; exact h.2 j⟩
  have := cell?_putRow (Value.int .i64) w g o zs.toArray ys.toArray h.holds (by simpa using hl) j (by simpa using hj)
  rw [this, nth_eq, List.getElem?_eq_getElem hj]
  simp [hj]
theorem belowO_put {w w0 : World} {B blk : Nat} (h : RowKit.Below B w0 w) (hb : B ≤ blk) (o : Nat) (d : Array Int) : RowKit.Below B w0 (putRow (Value.int .i64) w blk o d) :=
  h.trans ⟨rfl, rfl, rfl, by simp, fun k hk => by
    show (w.heap.modify blk _)[k]? = _
    rw [Array.getElem?_modify, if_neg (by omega)]⟩
open Go.Shelf in
/-- slices.Sort: a row of one's own is put in order, from a place on. -/
theorem sort_off (g o cap : Nat) (zs : List Int) (w : World) (hR : RowO w g o zs) (hg : g < w.heap.size) (hl : zs.length ≤ 100000) :
    Calls Try.prog 48 #[.slice (some ⟨g, o, none⟩) zs.length cap] w fun e w' => e = .returned (.tuple #[]) ∧ RowO w' g o (srtI zs) ∧ (∀ B, B ≤ g → RowKit.Below B w w') ∧ w.heap.size ≤ w'.heap.size := by
  have h := AnyM.slices_Sort_int srtL g o cap zs w hR.holds hg (by omega)
  refine Calls.mono h ?_
  rintro e w' ⟨rfl, n, os, rfl⟩
  have hR1 : RowO (Sort.ahead w n) g o zs := hR
  have hR2 : RowO (putRow (Value.int .i64) (Sort.ahead w n) g o (srtI zs).toArray) g o (srtI zs) := hR1.put (srt_len zs)
  have hsz : g < (putRow (Value.int .i64) (Sort.ahead w n) g o (srtI zs).toArray).heap.size := by simpa using hg
  have hF : Fut (putRow (Value.int .i64) (Sort.ahead w n) g o (srtI zs).toArray) (grow (putRow (Value.int .i64) (Sort.ahead w n) g o (srtI zs).toArray) os) :=
    ⟨rfl, rfl, rfl, by simp, fun k hk => by
      show ((putRow (Value.int .i64) (Sort.ahead w n) g o (srtI zs).toArray).heap ++ os)[k]? = _
      rw [Array.getElem?_append_left hk]⟩
  have hB : ∀ B, B ≤ g → RowKit.Below B w (putRow (Value.int .i64) (Sort.ahead w n) g o (srtI zs).toArray) := fun B hb => belowO_put (w := Sort.ahead w n) (below_drewN (RowKit.Below.refl _ _) n) hb _ _
  have hs2 : w.heap.size ≤ (putRow (Value.int .i64) (Sort.ahead w n) g o (srtI zs).toArray).heap.size := by simp [Sort.ahead]
  refine ⟨rfl, hR2.below hF hsz, fun B hb => ?_, Nat.le_trans hs2 (RowKit.Below.size hF)⟩
  exact RowKit.Below.trans (hB B hb) (RowKit.Below.mono hF (by have := hB B hb; omega))
end
section
def lenS : Value → Nat
  | .slice _ n _ => n
  | _ => 0
theorem sum_perm {l m : List Int} (h : l.Perm m) : l.sum = m.sum := by
  induction h with
  | nil => rfl
  | cons x _ ih => rw [List.sum_cons, List.sum_cons, ih]
  | swap x y l => rw [List.sum_cons, List.sum_cons, List.sum_cons, List.sum_cons]; omega
  | trans _ _ h1 h2 => exact h1.trans h2
theorem sum_ge {l : List Int} (h : ∀ z ∈ l, 0 ≤ z) : 0 ≤ l.sum := by
  induction l with
  | nil => simp
  | cons x l ih => rw [List.sum_cons]; have := ih fun z hz => h z (by simp [hz]); have := h x (by simp); omega
theorem RowO.set1 {w : World} {g o : Nat} {x y s : Int} {r : List Int} (h : RowO w g o (x :: y :: r)) : RowO (w.setCell ⟨g, o + 1, none⟩ (.int .i64 s)) g (o + 1) (s :: r) := by
  have c1 := h.1 1 (by simp)
  refine ⟨fun j hj => ?_, fun j => by rw [World.frozen?_setCell]; exact h.2 j⟩
  by_cases hj0 : j = 0
  · subst hj0
    exact World.cell?_setCell_same _ _ _ c1
  · obtain ⟨k, rfl⟩ : ∃ k, j = k + 1 := ⟨j - 1, by omega⟩
    rw [World.cell?_setCell_other _ _ _ _ (by intro e; injection e with _ e _; omega)]
    have := h.1 (k + 2) (by simp at hj ⊢; omega)
    rw [show o + 1 + (k + 1) = o + (k + 2) by omega, this]
    rfl
set_option maxRecDepth 100000 in
set_option maxHeartbeats 4000000 in
theorem inAny_any (a : Option Addr) (cap : Nat) (zs : List Int) (w : World) (hA : IntsAt w a zs) (h1 : 1 ≤ zs.length) (h8 : zs.length ≤ 8) (hz : ∀ z ∈ zs, 0 ≤ z ∧ z ≤ 1000000) :
    Calls Try.prog 70 #[.slice a zs.length cap] w fun e w' => e = .returned (.int .i64 (Sv.huf zs.length zs)) ∧ Fut w w' := by
  have HCL := Lib.hid (clone_any a cap zs w hA (by omega))
  obtain ⟨S, hS⟩ : ∃ S, S = zs.sum := ⟨_, rfl⟩
  have hSb := sum_bnd hz zs.length
  rw [List.take_length, ← hS] at hSb
  have HS := Lib.hid hS.symm
  have HZ := Lib.hid (fun z h => (hz z h).1)
  obtain ⟨T, hT⟩ : ∃ T, T = Sv.huf zs.length zs := ⟨_, rfl⟩
  have HT := Lib.hid hT
  have hN : (zs.length : Int) ≤ 8 := by omega
  have hSb2 : 0 ≤ S ∧ S ≤ 8000000 := by omega
  rw [← hT]
  clear hS hT hA hz hSb
  go_enter Try.func70, Try.ntmps70
  go_wp2_with fail
  refine HCL.out.mono ?_
  rintro _ w1 ⟨v, rfl, hO, F1⟩
  obtain ⟨g, c, rfl, hg1, hg2, hR, hc1, hc2⟩ := row_ints hO rfl h1
  have HR1 : Hid (RowO w1 g 0 zs) := Lib.hid ⟨fun j hj => by rw [Nat.zero_add]; exact hR.1 j hj, hR.2⟩
  have HG1 := Lib.hid hg1
  have HG2 := Lib.hid hg2
  have HF1 := Lib.hid F1
  obtain ⟨n, hn⟩ : ∃ n, zs.length = n := ⟨_, rfl⟩
  have HNN := Lib.hid hn.symm
  rw [hn] at h1 h8 hN hc1 ⊢
  clear hO hR F1 hg1 hg2 HCL hn
  go_wp2_with fail
  go_loopw [3, 4] (fun qv lv wr => ∃ (l : List Int) (m o cc : Nat) (q : Int), qv = .int .i64 q ∧ lv = .slice (some ⟨g, o, none⟩) m cc ∧ (1 ≤ m ∧ m ≤ n ∧ m ≤ cc) ∧ (0 ≤ q ∧ q + 8000000 * (m : Int) ≤ 8000000 * (n : Int)) ∧ Hid (l.length = m) ∧ Hid (RowO wr g o l) ∧ Hid (Fut w wr) ∧ Hid (g < wr.heap.size) ∧ Hid ((∀ z ∈ l, 0 ≤ z) ∧ l.sum = S) ∧ Hid (q + Sv.huf m l = T)) (fun _ lv _ => lenS lv)
  case atStart => exact ⟨zs, n, 0, c, 0, rfl, rfl, ⟨h1, Nat.le_refl _, hc1⟩, ⟨by omega, by omega⟩, Lib.hid HNN.out.symm, HR1, HF1, HG2, Lib.hid ⟨HZ.out, HS.out⟩, Lib.hid (by rw [HT.out, Int.zero_add, ← HNN.out])⟩
  case round =>
    obtain ⟨l, m, o, cc, q, rfl, rfl, hm, hq, HL, HR, HF, HG, HZS, HQ⟩ := hrel
    by_cases hm1 : 1 < m
    · have hmx : (1 : Int) < m := by omega
      have hm0 : (0 : Int) < m := by omega
      have hm00 : 0 < m := by omega
      have HP := Lib.hid (Sv.srt_parts (l := l) (by rw [HL.out]; omega))
      have HSO := Lib.hid (sort_off g o cc l wr HR.out HG.out (by have := HL.out; omega))
      rw [HL.out] at HSO
      go_upto_region 5 with fail
      go_wp2_with fail
      refine HSO.out.mono ?_
      rintro _ w2 ⟨rfl, hR2, hB2, hs2⟩
      obtain ⟨x, y, r, e1, e2, e3, e4⟩ := HP.out
      rw [e1] at hR2
      have HR2 := Lib.hid hR2
      have HF2 : Hid (Fut w w2) := Lib.hid (HF.out.trans' (hB2 w.heap.size (by have := HG1.out; exact HG1.out)) (Nat.le_refl _))
      obtain ⟨k, hk⟩ : ∃ k, m = k + 1 := ⟨m - 1, by omega⟩
      have hlen : l.length = r.length + 2 := by have := e2.length_eq; simpa using this
      have hxy : 0 ≤ x ∧ 0 ≤ y ∧ (∀ z ∈ r, 0 ≤ z) ∧ x + y + r.sum = S := by
        refine ⟨HZS.out.1 x (e2.mem_iff.2 (by simp)), HZS.out.1 y (e2.mem_iff.2 (by simp)), fun z hz => HZS.out.1 z (e2.mem_iff.2 (by simp [hz])), ?_⟩
        have := sum_perm e2
        rw [HZS.out.2, List.sum_cons, List.sum_cons] at this
        omega
      have hr0 := sum_ge hxy.2.2.1
      obtain ⟨s, hs⟩ : ∃ s, y + x = s := ⟨_, rfl⟩
      have hsb : 0 ≤ s ∧ s ≤ 8000000 := by omega
      have HZ3 : Hid ((∀ z ∈ s :: r, 0 ≤ z) ∧ (s :: r).sum = S) := Lib.hid ⟨fun z hz => by
        rcases List.mem_cons.1 hz with rfl | hz
        · omega
        · exact hxy.2.2.1 z hz, by rw [List.sum_cons]; omega⟩
      have HQ3 : Hid (q + s + Sv.huf k (s :: r) = T) := Lib.hid (by
        rw [← HQ.out, hk, Sv.huf_step k e2 e3 e4, show x + y = s by omega]; omega)
      have HL3 : Hid ((s :: r).length = k) := Lib.hid (by rw [List.length_cons]; have := HL.out; omega)
      have HKK : Hid (m = k + 1) := Lib.hid hk
      have hwa : IntKind.i64.wrap (y + x) = s := by rw [hs]; exact IntWalk.i64_in _ ⟨by omega, by omega⟩
      have hwb : IntKind.i64.wrap (q + s) = q + s := IntWalk.i64_in _ ⟨by omega, by omega⟩
      have HS2 : Hid (g < w2.heap.size) := Lib.hid (Nat.lt_of_lt_of_le HG.out hs2)
      clear hB2 hs2 e1 e2 e3 e4 hR2 hlen hxy hr0 hs hk HP HSO HQ HZS HL HR HF HG
      have c0 := HR2.out.1 0 (by simp)
      have c1 := HR2.out.1 1 (by simp)
      have f1 := HR2.out.2 (o + 1)
      change w2.cell? ⟨g, o + 0, none⟩ = some (.int .i64 x) at c0
      change w2.cell? ⟨g, o + 1, none⟩ = some (.int .i64 y) at c1
      rw [Nat.add_zero] at c0
      go_upto_region 6 with fail
      go_still_tail 8, (by kernel_rfl)
      change wpList _ _ _ _ _ w2.drew
      have HRd : Hid (RowO w2.drew g o (x :: y :: r)) := Lib.hid (HR2.out.below (below_drewN (RowKit.Below.refl (g + 1) w2) 1) (Nat.lt_succ_self g))
      have HFd : Hid (Fut w w2.drew) := Lib.hid (HF2.out.trans (below_drewN Fut.rfl 1))
      have HGd : Hid (g < w2.drew.heap.size) := Lib.hid HS2.out
      generalize w2.drew = w3 at *
      clear c0 c1 f1 HR2 HF2 HS2
      have HR3 : Hid (RowO (w3.setCell ⟨g, o + 1, none⟩ (.int .i64 s)) g (o + 1) (s :: r)) := Lib.hid HRd.out.set1
      have HF3 : Hid (Fut w (w3.setCell ⟨g, o + 1, none⟩ (.int .i64 s))) := Lib.hid (RowKit.Below.setCell (p := ⟨g, o + 1, none⟩) HFd.out HG1.out _)
      have HG3 : Hid (g < (w3.setCell ⟨g, o + 1, none⟩ (.int .i64 s)).heap.size) := Lib.hid (by simp; exact HGd.out)
      have c0 := HRd.out.1 1 (by simp)
      have f1 := HRd.out.2 (o + 1)
      change w3.cell? ⟨g, o + 1, none⟩ = some (.int .i64 y) at c0
      go_wp2_with fail
      have hk := HKK.out
      obtain rfl : k = m - 1 := by omega
      exact ⟨⟨s :: r, m - 1, o + 1, cc - 1, q + s, rfl, rfl, by omega, by omega, HL3, HR3, HF3, HG3, HZ3, HQ3⟩, by simp only [lenS]; omega⟩
    · have hm1' : m = 1 := by omega
      subst hm1'
      have HE : Hid (q = T) := Lib.hid (by rw [← HQ.out, Sv.huf_one 1 HL.out, Int.add_zero])
      go_wp2_with fail
      go_ret
      exact ⟨by rw [HE.out]; rfl, HF.out⟩
def anyE (zs : List Int) : Int := if chkL zs = 0 then Sv.huf zs.length zs else 0
set_option maxRecDepth 100000 in
theorem any_any (a : Option Addr) (cap : Nat) (zs : List Int) (w : World) (hA : IntsAt w a zs) (hl : zs.length ≤ 1000) :
    Calls Try.prog 29 #[.slice a zs.length cap] w fun e w' => e = .returned (.tuple #[.int .i64 (anyE zs), .int .i64 (chkL zs)]) ∧ Fut w w' := by
  have HCK := Lib.hid (check_any a cap zs w hA hl)
  have HBC := Lib.hid (fun hc : chkL zs = 0 => inAny_any a cap zs w hA (chkL_zero hc).1 (chkL_zero hc).2.1 (fun z hz => by have := (chkL_zero hc).2.2 z hz; omega))
  have HLE : Hid (anyE zs = if chkL zs = 0 then Sv.huf zs.length zs else 0) := Lib.hid rfl
  generalize chkL zs = E at *
  generalize Sv.huf zs.length zs = V at *
  have hlx : (zs.length : Int) ≤ 1000 := by omega
  clear hA
  go_enter Try.func29, Try.ntmps29
  go_wp2_with fail
  refine HCK.out.mono ?_
  rintro _ _ ⟨rfl, rfl⟩
  by_cases hE : E = 0
  · have HB2 := Lib.hid (HBC.out hE)
    have HL2 : Hid (anyE zs = V) := Lib.hid (by rw [HLE.out, if_pos hE])
    subst hE
    go_wp2_with fail
    refine HB2.out.mono ?_
    rintro _ w1 ⟨rfl, F1⟩
    go_wp2_with fail
    go_ret2
    exact ⟨by rw [HL2.out]; rfl, F1⟩
  · have HL2 : Hid (anyE zs = 0) := Lib.hid (by rw [HLE.out, if_neg hE])
    go_wp2_with fail
    go_ret2
    exact ⟨by rw [HL2.out]; rfl, Fut.rfl⟩
end
section
abbrev prV (x d : Int) (v : Value) : Value := .agg #[.int .i64 x, .int .i64 d, v]
theorem load116 {w : World} {B : Nat} {cs : Array Value} (hc : cs.size = 3) (hw : w.heap[B]? = some (.cells cs 116)) : (loadVar 116 ⟨B, 0, none⟩).run Try.prog w = .ok (.agg cs) w :=
  run_loadVar_row (P := Try.prog) w B 116 116 cs (0, 0) _ hw Try.underlying116 rfl (by rw [hc]; kernel_rfl)
theorem res_one116 {fn : Func} {p : Tmp} (hf : fn.results = #[.cell p 116]) {tmps : Array Value} {w : World} {B : Nat} {a b c : Value} (h0 : tmps.getD p undef = .pointer (some ⟨B, 0, none⟩)) (hw : w.heap[B]? = some (.cells #[a, b, c] 116)) :
    (results fn tmps).run Try.prog w = .ok (.agg #[a, b, c]) w := by
  rw [results_one_cell hf, h0]
  have hr := load116 rfl hw
  simp [asAddr, hr, Result.andThen]
theorem set3_all {w : World} {B : Nat} {t : TypeId} {x y z : Value} (a b c : Value) (h : w.heap[B]? = some (.cells #[x, y, z] t)) :
    (w.cell? ⟨B, 0, none⟩ = some x ∧ w.frozen? ⟨B, 0, none⟩ = false) ∧ ((w.setCell ⟨B, 0, none⟩ a).cell? ⟨B, 1, none⟩ = some y ∧ (w.setCell ⟨B, 0, none⟩ a).frozen? ⟨B, 1, none⟩ = false) ∧
    (((w.setCell ⟨B, 0, none⟩ a).setCell ⟨B, 1, none⟩ b).cell? ⟨B, 2, none⟩ = some z ∧ ((w.setCell ⟨B, 0, none⟩ a).setCell ⟨B, 1, none⟩ b).frozen? ⟨B, 2, none⟩ = false) ∧
    (((w.setCell ⟨B, 0, none⟩ a).setCell ⟨B, 1, none⟩ b).setCell ⟨B, 2, none⟩ c).heap[B]? = some (.cells #[a, b, c] t) := by
  have h1 : (w.setCell ⟨B, 0, none⟩ a).heap[B]? = some (.cells #[a, y, z] t) := by rw [setCell_eq_setRow w B 0 _ t (0, 0) a h, setRow_heap _ _ _ _ _ _ h]; rfl
  have h2 : ((w.setCell ⟨B, 0, none⟩ a).setCell ⟨B, 1, none⟩ b).heap[B]? = some (.cells #[a, b, z] t) := by rw [setCell_eq_setRow _ B 1 _ t (0, 0) b h1, setRow_heap _ _ _ _ _ _ h1]; rfl
  refine ⟨⟨(three_cell h).1, ?_⟩, ⟨(three_cell h1).2.1, ?_⟩, ⟨(three_cell h2).2.2.1, (three_cell h2).2.2.2⟩, three_set c h2⟩
  · unfold World.frozen?; rw [h]; rfl
  · unfold World.frozen?; rw [h1]; rfl
theorem heap_set1 {w : World} {B C : Nat} {o : Obj} (h : w.heap[C]? = some o) (hne : B ≠ C) (k : Nat) (a : Value) : (w.setCell ⟨B, k, none⟩ a).heap[C]? = some o := heap_kept h (set_grown w B k a) (fun e => hne (Option.some.inj e))
theorem heap_set3 {w : World} {B C : Nat} {o : Obj} (h : w.heap[C]? = some o) (hne : B ≠ C) (a b c : Value) : (((w.setCell ⟨B, 0, none⟩ a).setCell ⟨B, 1, none⟩ b).setCell ⟨B, 2, none⟩ c).heap[C]? = some o := heap_set1 (heap_set1 (heap_set1 h hne 0 a) hne 1 b) hne 2 c
theorem own_set1 {w : World} {B : Nat} {v : Value} {L : List Int} (h : Owns w (B + 1) v L) (k : Nat) (a : Value) : Owns (w.setCell ⟨B, k, none⟩ a) (B + 1) v L := h.kept (set_grown w B k a) (own_ge h (Nat.lt_succ_self B))
theorem own_set3 {w : World} {B : Nat} {v : Value} {L : List Int} (h : Owns w (B + 1) v L) (a b c : Value) : Owns (((w.setCell ⟨B, 0, none⟩ a).setCell ⟨B, 1, none⟩ b).setCell ⟨B, 2, none⟩ c) (B + 1) v L := own_set1 (own_set1 (own_set1 h 0 a) 1 b) 2 c
set_option maxRecDepth 100000 in
set_option maxHeartbeats 4000000 in
theorem join_any (x d y e : Int) (l1 l2 : Option Addr) (c1 c2 : Nat) (T1 T2 : List Int) (w : World) (hd : -1000 ≤ d ∧ d ≤ 1000) (h1 : IntsAt w l1 T1) (h2 : IntsAt w l2 T2) (hl : T1.length ≤ 100 ∧ T2.length ≤ 100) :
    Calls Try.prog 100 #[prV x d (.slice l1 T1.length c1), prV y e (.slice l2 T2.length c2)] w fun en w' => ∃ l c, en = .returned (prV y (d - 1) (.slice l (x :: (T1 ++ T2)).length c)) ∧ Owns w' w.heap.size (.slice l (x :: (T1 ++ T2)).length c) (x :: (T1 ++ T2)) ∧ Fut w w' := by
  have hwd : IntKind.i64.wrap (d - 1) = d - 1 := IntWalk.i64_in _ ⟨by omega, by omega⟩
  have HLN : Hid (∀ k, k < [[x], T1, T2].length → (lth [[x], T1, T2] k).length ≤ 1000) := Lib.hid (fun k hk => by
    match k, hk with
    | 0, _ => simp [lth_eq]
    | 1, _ => simp [lth_eq]; omega
    | 2, _ => simp [lth_eq]; omega)
  obtain ⟨W0, hW0⟩ : ∃ W0, W0 = ((w.alloc (.cells #[.int .i64 x, .int .i64 d, .slice l1 T1.length c1] 116)).alloc (.cells #[.int .i64 y, .int .i64 e, .slice l2 T2.length c2] 116)).alloc (.cells #[.int .i64 0, .int .i64 0, .slice none 0 0] 116) := ⟨_, rfl⟩
  have g0 : W0.heap[w.heap.size]? = some (.cells #[.int .i64 x, .int .i64 d, .slice l1 T1.length c1] 116) := by
    rw [hW0]
    exact heap_fut (heap_fut (World.alloc_heap_new w _) (Fut.alloc _ _)) (Fut.alloc _ _)
  have g1 : W0.heap[w.heap.size + 1]? = some (.cells #[.int .i64 y, .int .i64 e, .slice l2 T2.length c2] 116) := by
    rw [hW0]
    have := World.alloc_heap_new (w.alloc (.cells #[.int .i64 x, .int .i64 d, .slice l1 T1.length c1] 116)) (.cells #[.int .i64 y, .int .i64 e, .slice l2 T2.length c2] 116)
    rw [World.size_alloc] at this
    exact heap_fut this (Fut.alloc _ _)
  have g2 : W0.heap[w.heap.size + 2]? = some (.cells #[.int .i64 0, .int .i64 0, .slice none 0 0] 116) := by
    rw [hW0]
    have := World.alloc_heap_new ((w.alloc (.cells #[.int .i64 x, .int .i64 d, .slice l1 T1.length c1] 116)).alloc (.cells #[.int .i64 y, .int .i64 e, .slice l2 T2.length c2] 116)) (.cells #[.int .i64 0, .int .i64 0, .slice none 0 0] 116)
    rw [World.size_alloc, World.size_alloc] at this
    exact this
  have HFU : Hid (Fut w W0.drew) := Lib.hid (Fut.trans (by rw [hW0]; exact ((Fut.alloc _ _).trans (Fut.alloc _ _)).trans (Fut.alloc _ _)) (below_drewN Fut.rfl 1))
  have hz : W0.drew.heap.size = w.heap.size + 3 := by show W0.heap.size = _; rw [hW0, World.size_alloc, World.size_alloc, World.size_alloc]
  have HW := Lib.hid hW0
  go_enter Try.func100, Try.ntmps100
  go_upto_region 1 with fail
  rw [← HW.out]
  clear HW hW0
  obtain ⟨H0, hH0⟩ : ∃ H0, H0 = w.heap.size := ⟨_, rfl⟩
  obtain ⟨H1, hH1⟩ : ∃ H1, H1 = w.heap.size + 1 := ⟨_, rfl⟩
  obtain ⟨H2, hH2⟩ : ∃ H2, H2 = w.heap.size + 2 := ⟨_, rfl⟩
  have HB0 : Hid (W0.drew.heap[H0]? = some (.cells #[.int .i64 x, .int .i64 d, .slice l1 T1.length c1] 116)) := Lib.hid (by rw [hH0]; exact g0)
  have HB1 : Hid (W0.drew.heap[H1]? = some (.cells #[.int .i64 y, .int .i64 e, .slice l2 T2.length c2] 116)) := Lib.hid (by rw [hH1]; exact g1)
  have HB2 : Hid (W0.drew.heap[H2]? = some (.cells #[.int .i64 0, .int .i64 0, .slice none 0 0] 116)) := Lib.hid (by rw [hH2]; exact g2)
  have HZU : Hid (H2 + 1 ≤ W0.drew.heap.size) := Lib.hid (by rw [hz, hH2]; omega)
  have HH2 : Hid (w.heap.size ≤ H2) := Lib.hid (by omega)
  have HNE : Hid (H0 ≠ H2 ∧ H1 ≠ H2) := Lib.hid (by omega)
  have HI1 : Hid (IntsAt W0.drew l1 T1) := Lib.hid (h1.fut HFU.out)
  have HI2 : Hid (IntsAt W0.drew l2 T2) := Lib.hid (h2.fut HFU.out)
  rw [← hH2, ← hH1, ← hH0]
  have keep : ∀ W, Fut W0.drew W → (fun w' => w'.cell? ⟨H0, 0, none⟩ = some (.int .i64 x) ∧ w'.cell? ⟨H0, 1, none⟩ = some (.int .i64 d) ∧ w'.cell? ⟨H0, 2, none⟩ = some (.slice l1 T1.length c1) ∧ w'.cell? ⟨H1, 0, none⟩ = some (.int .i64 y) ∧ w'.cell? ⟨H1, 2, none⟩ = some (.slice l2 T2.length c2)) W := fun W k => by
    obtain ⟨a1, a2, a3, _⟩ := three_cell (heap_fut HB0.out k)
    obtain ⟨b1, _, b3, _⟩ := three_cell (heap_fut HB1.out k)
    exact ⟨a1, a2, a3, b1, b3⟩
  clear g0 g1 g2 hz hH0 hH1 hH2 h1 h2
  refine wp_region_held_drew (S := (fun w' => w'.cell? ⟨H0, 0, none⟩ = some (.int .i64 x) ∧ w'.cell? ⟨H0, 1, none⟩ = some (.int .i64 d) ∧ w'.cell? ⟨H0, 2, none⟩ = some (.slice l1 T1.length c1) ∧ w'.cell? ⟨H1, 0, none⟩ = some (.int .i64 y) ∧ w'.cell? ⟨H1, 2, none⟩ = some (.slice l2 T2.length c2))) (by kernel_rfl) ?_ (fun hHeld => ?_)
  · exact keep _ Fut.rfl
  generalize W0.drew = u0 at *
  refine wpAnyH_take (i := 0) (oi := { dst := some 5, op := Op.fieldAddr 116 (Operand.tmp 3) 0, type := 0, pos := "tree.go:152", after := #[], guard := none }) (v := ?_) rfl (by kernel_rfl) (by kernel_rfl) (by kernel_rfl) (fun _ _ _ h => h) (Or.inl ⟨by rfl, ?_⟩) (by assumption) ?_
  rotate_left
  · (intro w hSw; obtain ⟨s0, s1, s2, s3, s4⟩ := hSw; go_simp <;> with_reducible rfl)
  try simp only [Act.put, List.setIfInBounds_toArray, List.set_cons_zero, List.set_cons_succ]
  refine wpAnyH_take (i := 1) (oi := { dst := some 6, op := Op.load 3 (Operand.tmp 5), type := 3, pos := "tree.go:152", after := #[{ on := 0, ground := Ground.data }], guard := none }) (v := ?_) rfl (by kernel_rfl) (by kernel_rfl) (by kernel_rfl) (fun _ _ _ h => h) (Or.inl ⟨by rfl, ?_⟩) (by assumption) ?_
  rotate_left
  · (intro w hSw; obtain ⟨s0, s1, s2, s3, s4⟩ := hSw; go_simp <;> with_reducible rfl)
  try simp only [Act.put, List.setIfInBounds_toArray, List.set_cons_zero, List.set_cons_succ]
  refine wpAnyH_take (i := 2) (oi := { dst := some 7, op := Op.fieldAddr 116 (Operand.tmp 2) 1, type := 0, pos := "tree.go:152", after := #[], guard := none }) (v := ?_) rfl (by kernel_rfl) (by kernel_rfl) (by kernel_rfl) (fun _ _ _ h => h) (Or.inl ⟨by rfl, ?_⟩) (by assumption) ?_
  rotate_left
  · (intro w hSw; obtain ⟨s0, s1, s2, s3, s4⟩ := hSw; go_simp <;> with_reducible rfl)
  try simp only [Act.put, List.setIfInBounds_toArray, List.set_cons_zero, List.set_cons_succ]
  refine wpAnyH_take (i := 3) (oi := { dst := some 8, op := Op.load 3 (Operand.tmp 7), type := 3, pos := "tree.go:152", after := #[{ on := 2, ground := Ground.data }], guard := none }) (v := ?_) rfl (by kernel_rfl) (by kernel_rfl) (by kernel_rfl) (fun _ _ _ h => h) (Or.inl ⟨by rfl, ?_⟩) (by assumption) ?_
  rotate_left
  · (intro w hSw; obtain ⟨s0, s1, s2, s3, s4⟩ := hSw; go_simp <;> with_reducible rfl)
  try simp only [Act.put, List.setIfInBounds_toArray, List.set_cons_zero, List.set_cons_succ]
  refine wpAnyH_take (i := 4) (oi := { dst := some 9, op := Op.binOp BinOp.sub 3 (Operand.tmp 8) (Operand.const (Value.int IntKind.i64 1)) 3, type := 3, pos := "tree.go:152", after := #[{ on := 3, ground := Ground.data }], guard := none }) (v := ?_) rfl (by kernel_rfl) (by kernel_rfl) (by kernel_rfl) (fun _ _ _ h => h) (Or.inl ⟨by rfl, ?_⟩) (by assumption) ?_
  rotate_left
  · (intro w hSw; obtain ⟨s0, s1, s2, s3, s4⟩ := hSw; go_simp <;> with_reducible rfl)
  try simp only [Act.put, List.setIfInBounds_toArray, List.set_cons_zero, List.set_cons_succ]
  refine wpAnyH_take (i := 5) (oi := { dst := some 10, op := Op.fieldAddr 116 (Operand.tmp 2) 0, type := 0, pos := "tree.go:152", after := #[], guard := none }) (v := ?_) rfl (by kernel_rfl) (by kernel_rfl) (by kernel_rfl) (fun _ _ _ h => h) (Or.inl ⟨by rfl, ?_⟩) (by assumption) ?_
  rotate_left
  · (intro w hSw; obtain ⟨s0, s1, s2, s3, s4⟩ := hSw; go_simp <;> with_reducible rfl)
  try simp only [Act.put, List.setIfInBounds_toArray, List.set_cons_zero, List.set_cons_succ]
  refine wpAnyH_take (i := 6) (oi := { dst := some 11, op := Op.load 3 (Operand.tmp 10), type := 3, pos := "tree.go:152", after := #[{ on := 5, ground := Ground.data }], guard := none }) (v := ?_) rfl (by kernel_rfl) (by kernel_rfl) (by kernel_rfl) (fun _ _ _ h => h) (Or.inl ⟨by rfl, ?_⟩) (by assumption) ?_
  rotate_left
  · (intro w hSw; obtain ⟨s0, s1, s2, s3, s4⟩ := hSw; go_simp <;> with_reducible rfl)
  try simp only [Act.put, List.setIfInBounds_toArray, List.set_cons_zero, List.set_cons_succ]
  refine wpAnyH_take (i := 8) (oi := { dst := some 13, op := Op.fieldAddr 116 (Operand.tmp 2) 2, type := 0, pos := "tree.go:152", after := #[], guard := none }) (v := ?_) rfl (by kernel_rfl) (by kernel_rfl) (by kernel_rfl) (fun _ _ _ h => h) (Or.inl ⟨by rfl, ?_⟩) (by assumption) ?_
  rotate_left
  · (intro w hSw; obtain ⟨s0, s1, s2, s3, s4⟩ := hSw; go_simp <;> with_reducible rfl)
  try simp only [Act.put, List.setIfInBounds_toArray, List.set_cons_zero, List.set_cons_succ]
  refine wpAnyH_take (i := 9) (oi := { dst := some 14, op := Op.load 22 (Operand.tmp 13), type := 22, pos := "tree.go:152", after := #[{ on := 8, ground := Ground.data }], guard := none }) (v := ?_) rfl (by kernel_rfl) (by kernel_rfl) (by kernel_rfl) (fun _ _ _ h => h) (Or.inl ⟨by rfl, ?_⟩) (by assumption) ?_
  rotate_left
  · (intro w hSw; obtain ⟨s0, s1, s2, s3, s4⟩ := hSw; go_simp <;> with_reducible rfl)
  try simp only [Act.put, List.setIfInBounds_toArray, List.set_cons_zero, List.set_cons_succ]
  refine wpAnyH_take (i := 10) (oi := { dst := some 15, op := Op.fieldAddr 116 (Operand.tmp 3) 2, type := 0, pos := "tree.go:152", after := #[], guard := none }) (v := ?_) rfl (by kernel_rfl) (by kernel_rfl) (by kernel_rfl) (fun _ _ _ h => h) (Or.inl ⟨by rfl, ?_⟩) (by assumption) ?_
  rotate_left
  · (intro w hSw; obtain ⟨s0, s1, s2, s3, s4⟩ := hSw; go_simp <;> with_reducible rfl)
  try simp only [Act.put, List.setIfInBounds_toArray, List.set_cons_zero, List.set_cons_succ]
  refine wpAnyH_take (i := 11) (oi := { dst := some 16, op := Op.load 22 (Operand.tmp 15), type := 22, pos := "tree.go:152", after := #[{ on := 10, ground := Ground.data }], guard := none }) (v := ?_) rfl (by kernel_rfl) (by kernel_rfl) (by kernel_rfl) (fun _ _ _ h => h) (Or.inl ⟨by rfl, ?_⟩) (by assumption) ?_
  rotate_left
  · (intro w hSw; obtain ⟨s0, s1, s2, s3, s4⟩ := hSw; go_simp <;> with_reducible rfl)
  try simp only [Act.put, List.setIfInBounds_toArray, List.set_cons_zero, List.set_cons_succ]
  refine wpAnyH_ready (rs := [7]) (by kernel_rfl) (by simp) ?_
  refine AllReadyH.cons (o := { dst := some 12, op := Op.buildSlice 22 1 #[(0, Operand.tmp 11)], type := 22, pos := "tree.go:152", after := #[{ on := 6, ground := Ground.data }], guard := none }) rfl (fun K hK => ?_) AllReadyH.nil
  go_simp
  obtain ⟨v7, hv7⟩ : ∃ W, W = u0.alloc (.cells #[.int .i64 x] 3) := ⟨_, rfl⟩
  have G7 : Hid (Fut u0 v7) := Lib.hid (by rw [hv7]; exact Fut.alloc _ _)
  have N7 : Hid (v7.cell? ⟨u0.heap.size, 0, none⟩ = some (.int .i64 x)) := Lib.hid (by rw [hv7]; exact (cells_at _ _ _ _ _ rfl).1)
  obtain ⟨s7, hs7⟩ : ∃ s, s = u0.heap.size := ⟨_, rfl⟩
  rw [← hv7]
  rw [← hs7] at N7 ⊢
  clear hv7 hs7
  refine hK.out _ _ ?_ (fun hHeld => ?_)
  · exact keep _ G7.out
  clear hK K
  try simp only [Act.put, List.setIfInBounds_toArray, List.set_cons_zero, List.set_cons_succ]
  refine wpAnyH_ready (rs := [12]) (by kernel_rfl) (by simp) ?_
  refine AllReadyH.cons (o := { dst := some 17, op := Op.buildSlice 71 3 #[(0, Operand.tmp 12), (1, Operand.tmp 14), (2, Operand.tmp 16)], type := 71, pos := "tree.go:152", after := #[{ on := 7, ground := Ground.data }, { on := 9, ground := Ground.data }, { on := 11, ground := Ground.data }], guard := none }) rfl (fun K hK => ?_) AllReadyH.nil
  go_simp
  obtain ⟨v12, hv12⟩ : ∃ W, W = v7.alloc (.cells #[.slice (some ⟨s7, 0, none⟩) 1 1, .slice l1 T1.length c1, .slice l2 T2.length c2] 22) := ⟨_, rfl⟩
  have T12 : Hid (Fut v7 v12) := Lib.hid (by rw [hv12]; exact Fut.alloc _ _)
  have G12 : Hid (Fut u0 v12) := Lib.hid (G7.out.trans T12.out)
  have L12 : Hid (LstAt v12 (some ⟨v7.heap.size, 0, none⟩) [[x], T1, T2]) := Lib.hid (three_lists (s := s7) (by rw [hv12]; exact (cells_at _ _ _ _ _ rfl).1) (by rw [hv12]; exact (cells_at _ _ _ _ _ rfl).1) (by rw [hv12]; exact (cells_at _ _ _ _ _ rfl).1) (cell_at N7.out T12.out) (HI1.out.fut G12.out) (HI2.out.fut G12.out))
  obtain ⟨s12, hs12⟩ : ∃ s, s = v7.heap.size := ⟨_, rfl⟩
  rw [← hv12]
  rw [← hs12] at L12 ⊢
  clear hv12 hs12
  refine hK.out _ _ ?_ (fun hHeld => ?_)
  · exact keep _ G12.out
  clear hK K
  try simp only [Act.put, List.setIfInBounds_toArray, List.set_cons_zero, List.set_cons_succ]
  refine wpAnyH_ready (rs := [13]) (by kernel_rfl) (by simp) ?_
  refine AllReadyH.cons (o := { dst := some 18, op := Op.call { callee := Callee.value (Operand.func 89), args := #[Operand.tmp 17], argTypes := #[71] }, type := 22, pos := "tree.go:152", after := #[{ on := 12, ground := Ground.data }], guard := none }) rfl (fun K hK => ?_) AllReadyH.nil
  have HCC := Lib.hid (concat_any (some ⟨s12, 0, none⟩) 3 [[x], T1, T2] v12 L12.out (by simp) HLN.out)
  go_simp
  go_at_call 89
  refine HCC.out.mono ?_
  rintro _ v13 ⟨x13, rfl, hO13, T13⟩
  rw [show [[x], T1, T2].flatten = x :: (T1 ++ T2) by simp] at hO13
  have G13 : Hid (Fut u0 v13) := Lib.hid (G12.out.trans T13)
  have O13 := Lib.hid (hO13.base (Nat.le_trans HZU.out (RowKit.Below.size G12.out)))
  obtain ⟨l13, c13, rfl, _⟩ := hO13.ints
  obtain ⟨N, hN⟩ : ∃ N, (x :: (T1 ++ T2)).length = N := ⟨_, rfl⟩
  rw [hN] at O13 ⊢
  have HNN := Lib.hid hN
  clear hO13 T13 HCC hN
  try go_wp2_with fail
  refine hK.out _ _ ?_ (fun hHeld => ?_)
  · exact keep _ G13.out
  clear hK K
  try simp only [Act.put, List.setIfInBounds_toArray, List.set_cons_zero, List.set_cons_succ]
  refine wpAnyH_take (i := 14) (oi := { dst := some 19, op := Op.build 116 #[(0, Operand.tmp 6), (1, Operand.tmp 9), (2, Operand.tmp 18)], type := 116, pos := "tree.go:152", after := #[{ on := 1, ground := Ground.data }, { on := 4, ground := Ground.data }, { on := 13, ground := Ground.data }], guard := none }) (v := ?_) rfl (by kernel_rfl) (by kernel_rfl) (by kernel_rfl) (fun _ _ _ h => h) (Or.inl ⟨by rfl, ?_⟩) (by assumption) ?_
  rotate_left
  · (intro w hSw; obtain ⟨s0, s1, s2, s3, s4⟩ := hSw; go_simp <;> with_reducible rfl)
  try simp only [Act.put, List.setIfInBounds_toArray, List.set_cons_zero, List.set_cons_succ]
  refine wpAnyH_ready (rs := [15]) (by kernel_rfl) (by simp) ?_
  refine AllReadyH.cons (o := { dst := none, op := Op.store 116 (Operand.tmp 4) (Operand.tmp 19), type := 0, pos := "tree.go:152", after := #[{ on := 14, ground := Ground.data }, { on := 13, ground := Ground.chain }, { on := 0, ground := Ground.phase }, { on := 1, ground := Ground.phase }, { on := 2, ground := Ground.phase }, { on := 3, ground := Ground.phase }, { on := 4, ground := Ground.phase }, { on := 5, ground := Ground.phase }, { on := 6, ground := Ground.phase }, { on := 7, ground := Ground.phase }, { on := 8, ground := Ground.phase }, { on := 9, ground := Ground.phase }, { on := 10, ground := Ground.phase }, { on := 11, ground := Ground.phase }, { on := 12, ground := Ground.phase }, { on := 13, ground := Ground.phase }, { on := 14, ground := Ground.phase }], guard := none }) rfl (fun K hK => ?_) AllReadyH.nil
  have e1 := set3_all (.int .i64 y) (.int .i64 (d - 1)) (.slice l13 N c13) (heap_fut HB2.out G13.out)
  obtain ⟨⟨y1, y2⟩, ⟨y3, y4⟩, ⟨y5, y6⟩, y7⟩ := e1
  have HY7 := Lib.hid y7
  have HF15 : Hid (Fut w (((v13.setCell ⟨H2, 0, none⟩ (.int .i64 y)).setCell ⟨H2, 1, none⟩ (.int .i64 (d - 1))).setCell ⟨H2, 2, none⟩ (.slice l13 N c13))) := Lib.hid (RowKit.Below.setCell (p := ⟨H2, 2, none⟩) (RowKit.Below.setCell (p := ⟨H2, 1, none⟩) (RowKit.Below.setCell (p := ⟨H2, 0, none⟩) (HFU.out.trans G13.out) HH2.out _) HH2.out _) HH2.out _)
  have HO15 : Hid (Owns (((v13.setCell ⟨H2, 0, none⟩ (.int .i64 y)).setCell ⟨H2, 1, none⟩ (.int .i64 (d - 1))).setCell ⟨H2, 2, none⟩ (.slice l13 N c13)) (H2 + 1) (.slice l13 N c13) (x :: (T1 ++ T2))) := Lib.hid (own_set3 O13.out _ _ _)
  go_simp
  clear y1 y2 y3 y4 y5 y6 y7
  refine hK.out _ _ ?_ (fun hHeld => ?_)
  · exact ⟨(three_cell (heap_set3 (heap_fut HB0.out G13.out) HNE.out.1.symm _ _ _)).1, (three_cell (heap_set3 (heap_fut HB0.out G13.out) HNE.out.1.symm _ _ _)).2.1, (three_cell (heap_set3 (heap_fut HB0.out G13.out) HNE.out.1.symm _ _ _)).2.2.1, (three_cell (heap_set3 (heap_fut HB1.out G13.out) HNE.out.2.symm _ _ _)).1, (three_cell (heap_set3 (heap_fut HB1.out G13.out) HNE.out.2.symm _ _ _)).2.2.1⟩
  clear hK K
  try simp only [Act.put, List.setIfInBounds_toArray, List.set_cons_zero, List.set_cons_succ]
  refine wpAnyH_done (by kernel_rfl) ?_ _
  go_wp2_with fail
  refine bodyPost_ret (res_one116 rfl rfl HY7.out) rfl ?_
  have hN := HNN.out
  subst hN
  exact ⟨l13, c13, rfl, HO15.out.base (Nat.le_succ_of_le HH2.out), HF15.out⟩
end
section
/-- parts in a row, the last one first. -/
def flatT : List (Int × Int × Value) → List Value
  | [] => []
  | p :: l => flatT l ++ [.int .i64 p.1, .int .i64 p.2.1, p.2.2]
theorem flatT_len : ∀ l : List (Int × Int × Value), (flatT l).length = l.length * 3
  | [] => rfl
  | p :: l => by rw [flatT, List.length_append, flatT_len l]; simp only [List.length_cons, List.length_nil]; omega
def Mt (w : World) (B : Nat) : List (Int × Int × Value) → List Sv.Prt → Prop
  | [], [] => True
  | r :: rs, p :: ps => r.1 = p.last ∧ r.2.1 = p.depth ∧ Owns w B r.2.2 p.tree ∧ Mt w B rs ps
  | _, _ => False
theorem Mt.len {w : World} {B : Nat} : ∀ {rs : List (Int × Int × Value)} {ps : List Sv.Prt}, Mt w B rs ps → rs.length = ps.length
  | [], [], _ => rfl
  | _ :: _, _ :: _, h => by rw [List.length_cons, List.length_cons, Mt.len h.2.2.2]
  | [], _ :: _, h => absurd h (by simp [Mt])
  | _ :: _, [], h => absurd h (by simp [Mt])
theorem Mt.fut {w w' : World} {B : Nat} (F : Fut w w') : ∀ {rs : List (Int × Int × Value)} {ps : List Sv.Prt}, Mt w B rs ps → Mt w' B rs ps
  | [], [], _ => trivial
  | _ :: _, _ :: _, h => ⟨h.1, h.2.1, h.2.2.1.fut F, Mt.fut F h.2.2.2⟩
  | [], _ :: _, h => absurd h (by simp [Mt])
  | _ :: _, [], h => absurd h (by simp [Mt])
theorem Mt.kept {w w' : World} {B : Nat} {row : Option Nat} (g : w.grownBy w' row) (hr : ∀ v L, Owns w B v L → v.ownBlock = none ∨ v.ownBlock ≠ row) : ∀ {rs : List (Int × Int × Value)} {ps : List Sv.Prt}, Mt w B rs ps → Mt w' B rs ps
  | [], [], _ => trivial
  | _ :: _, _ :: _, h => ⟨h.1, h.2.1, h.2.2.1.kept g (hr _ _ h.2.2.1), Mt.kept g hr h.2.2.2⟩
  | [], _ :: _, h => absurd h (by simp [Mt])
  | _ :: _, [], h => absurd h (by simp [Mt])
def Pts (w : World) (B : Nat) (v : Value) (S : List Sv.Prt) : Prop := ∃ rs, w.ownsRow B 116 3 v S.length (flatT rs) ∧ Mt w B rs S
theorem Pts.fut {w w' : World} {B : Nat} {v : Value} {S : List Sv.Prt} (h : Pts w B v S) (F : Fut w w') : Pts w' B v S := by
  obtain ⟨rs, h1, h2⟩ := h
  exact ⟨rs, row_futs h1 F, h2.fut F⟩
theorem row_apart2 {w : World} {B B' : Nat} {t t' : TypeId} {s s' : Nat} {v u : Value} {n n' : Nat} {xs xs' : List Value} (ht : t ≠ t') (h : w.ownsRow B t s v n xs) (h' : w.ownsRow B' t' s' u n' xs') : v.ownBlock = none ∨ v.ownBlock ≠ u.ownBlock := by
  rcases h.2 with ⟨rfl, _⟩ | ⟨g, cap, cur, rfl, _, hg, _⟩
  · exact .inl rfl
  · rcases h'.2 with ⟨rfl, _⟩ | ⟨g', cap', cur', rfl, _, hg', _⟩
    · exact .inr (by simp [Value.ownBlock])
    · refine .inr fun e => ?_
      simp [Value.ownBlock] at e
      rw [e, hg'] at hg
      simp at hg
      exact ht hg.2.symm
theorem own_pop2 {w : World} {B e s n g c : Nat} {xs : List Value} (h : w.ownsRow B e s (.slice (some ⟨g, 0, none⟩) (n + 1) c) (n + 1) xs) : w.ownsRow B e s (.slice (some ⟨g, 0, none⟩) n c) n (xs.take (n * s)) := by
  have hl := h.1
  have hns : n * s ≤ (n + 1) * s := Nat.mul_le_mul_right _ (by omega)
  refine ⟨by rw [List.length_take]; omega, ?_⟩
  rcases h.2 with ⟨e1, e2⟩ | ⟨g', cap, cur, e1, hb, hh, hn, hm, hs, ht⟩
  · cases e1
  · cases e1
    refine .inr ⟨g, c, cur, rfl, hb, hh, by omega, hm, hs, ?_⟩
    rw [← ht, List.take_take]
    congr 1
    omega
/-- the last part: its cells, and the row without it. -/
theorem Pts.top {w : World} {B : Nat} {v : Value} {p : Sv.Prt} {S : List Sv.Prt} (h : Pts w B v (p :: S)) : ∃ g c u, v = .slice (some ⟨g, 0, none⟩) (S.length + 1) c ∧ B ≤ g ∧ g < w.heap.size ∧ S.length + 1 ≤ c ∧ w.cell? ⟨g, 0 + S.length * 3, none⟩ = some (.int .i64 p.last) ∧ w.cell? ⟨g, 0 + S.length * 3 + 1, none⟩ = some (.int .i64 p.depth) ∧ w.cell? ⟨g, 0 + S.length * 3 + 2, none⟩ = some u ∧ Owns w B u p.tree ∧ Pts w B (.slice (some ⟨g, 0, none⟩) S.length c) S := by
  obtain ⟨rs, h1, h2⟩ := h
  cases rs with
  | nil => exact absurd h2 (by simp [Mt])
  | cons r rs =>
    obtain ⟨e1, e2, e3, e4⟩ := h2
    have hlen := e4.len
    rw [List.length_cons] at h1
    have hfl := flatT_len rs
    rw [hlen] at hfl
    have hg : ∀ k, (hk : k < 3) → (flatT (r :: rs))[S.length * 3 + k]? = ([.int .i64 r.1, .int .i64 r.2.1, r.2.2] : List Value)[k]? := fun k hk => by
      rw [flatT, List.getElem?_append_right (by omega), hfl, Nat.add_sub_cancel_left]
    have h0 := h1
    rcases h1.2 with ⟨_, q⟩ | ⟨g, cap, cur, rfl, hb, hh, hn, hm, hs, ht⟩
    · omega
    · have hp := own_pop2 h0
      refine ⟨g, cap, r.2.2, rfl, hb, (Array.getElem?_eq_some_iff.1 hh).1, hn, ?_, ?_, ?_, e3, rs, ?_, e4⟩
      · rw [Nat.zero_add, World.ownsRow.cellAt h0 _ (by omega), ← e1]; have := hg 0 (by omega); rw [Nat.add_zero] at this; exact this
      · rw [Nat.zero_add, World.ownsRow.cellAt h0 _ (by omega), ← e2]; exact hg 1 (by omega)
      · rw [Nat.zero_add, World.ownsRow.cellAt h0 _ (by omega)]; exact hg 2 (by omega)
      · rw [flatT, List.take_append_of_le_length (by omega), List.take_of_length_le (by omega)] at hp
        exact hp
theorem slice_to114 (g o n cap k : Nat) (h : k ≤ cap) (W : World) : (Instr.sliceAt 114 (.slice (some ⟨g, o, none⟩) n cap) none (some (.int .i64 k)) none).run Try.prog W = .ok (.slice (some ⟨g, o, none⟩) k cap) W := by
  have hu : Try.prog.underlying 114 = some (.slice (Try.prog.elem 114)) := by kernel_rfl
  have hs : (sizeOf (Try.prog.elem 114)).run Try.prog W = .ok 3 W := by kernel_rfl
  rw [run_sliceAt_slice _ _ _ _ _ _ hu, run_slice_h _ _ _ _ _ hu _ _ (by omega) (by omega), hs]
  simp [sliced, Result.andThen, Addr.add]
theorem info116 : (Try.prog.info? 116).map (fun i => (i.zero, i.size, i.bytes)) = some (some (.agg #[.int .i64 0, .int .i64 0, .slice none 0 0]), 3, 40) := by kernel_rfl
theorem cells_three {w : World} {b : Nat} {x y z : Value} (h : w.cell? ⟨b, 0, none⟩ = some x) (h' : w.cell? ⟨b, 1, none⟩ = some y) (h'' : w.cell? ⟨b, 2, none⟩ = some z) : ∀ j u, [x, y, z][j]? = some u → w.cell? ((⟨b, 0, none⟩ : Addr).add j) = some u := fun j u hj => by
  match j, hj with
  | 0, hj => simp at hj; subst hj; exact h
  | 1, hj => simp at hj; subst hj; exact h'
  | 2, hj => simp at hj; subst hj; exact h''
/-- the parts cover so many kinds, and their depths are not too small. -/
def BdS (S : List Sv.Prt) (i : Nat) : Prop := (∀ p ∈ S, -(p.tree.length : Int) ≤ p.depth ∧ p.depth ≤ 1000) ∧ (S.map fun p => p.tree.length + 1).sum = i
theorem BdS.join {S : List Sv.Prt} {q p : Sv.Prt} {i : Nat} (h : BdS (p :: q :: S) i) : BdS (q.join p :: S) i := by
  obtain ⟨h1, h2⟩ := h
  have hq := h1 q (by simp)
  have hlen : (q.join p).tree.length = q.tree.length + p.tree.length + 1 := by show (q.last :: (q.tree ++ p.tree)).length = _; simp
  have hd : (q.join p).depth = q.depth - 1 := rfl
  refine ⟨fun r hr => ?_, ?_⟩
  · rcases List.mem_cons.1 hr with rfl | hr
    · rw [hlen, hd]; omega
    · exact h1 r (by simp [hr])
  · rw [List.map_cons, List.sum_cons] at h2 ⊢
    rw [List.map_cons, List.sum_cons] at h2
    rw [hlen]; omega
theorem BdS.tree {S : List Sv.Prt} {p : Sv.Prt} {i : Nat} (h : BdS S i) (hp : p ∈ S) : p.tree.length + 1 ≤ i := by
  obtain ⟨_, h2⟩ := h
  rw [← h2]
  cases S with
  | nil => cases hp
  | cons q S =>
    rw [List.map_cons, List.sum_cons]
    rcases List.mem_cons.1 hp with rfl | hp
    · omega
    · have h3 : ∀ (T : List Sv.Prt), p ∈ T → p.tree.length + 1 ≤ (T.map fun p => p.tree.length + 1).sum := fun T hT => by
        induction T with
        | nil => cases hT
        | cons a T iT =>
          rw [List.map_cons, List.sum_cons]
          rcases List.mem_cons.1 hT with rfl | hT
          · omega
          · have := iT hT; omega
      have := h3 S hp; omega
theorem BdS.len : ∀ {S : List Sv.Prt} {i : Nat}, BdS S i → S.length ≤ i
  | [], _, _ => by simp
  | p :: S, i, h => by
    have h2 := h.2
    rw [List.map_cons, List.sum_cons] at h2
    have := BdS.len (S := S) ⟨fun q hq => h.1 q (by simp [hq]), rfl⟩
    rw [List.length_cons]; omega
theorem BdS.perm {S S' : List Sv.Prt} {i : Nat} (h : BdS S i) (hp : S.Perm S') : BdS S' i :=
  ⟨fun p q => h.1 p (hp.mem_iff.2 q), by rw [← h.2]; exact ((hp.map _).sum_nat).symm⟩
end
section
theorem grown3 (w : World) (B : Nat) (a b c : Value) : w.grownBy (((w.setCell ⟨B, 0, none⟩ a).setCell ⟨B, 1, none⟩ b).setCell ⟨B, 2, none⟩ c) (some B) := grown_set (grown_set (set_grown w B 0 a))
theorem cell_set3 {w : World} {H g : Nat} (hne : H ≠ g) (k : Nat) (a b c : Value) : (((w.setCell ⟨H, 0, none⟩ a).setCell ⟨H, 1, none⟩ b).setCell ⟨H, 2, none⟩ c).cell? ⟨g, k, none⟩ = w.cell? ⟨g, k, none⟩ :=
  (World.cell?_setCell_far _ _ _ _ hne).trans ((World.cell?_setCell_far _ _ _ _ hne).trans (World.cell?_setCell_far _ _ _ _ hne))
theorem own_ne116 {w : World} {B H : Nat} {v : Value} {L : List Int} {cs : Array Value} (h : Owns w B v L) (hX : w.heap[H]? = some (.cells cs 116)) : v.ownBlock = none ∨ v.ownBlock ≠ some H := by
  rcases h.2 with ⟨rfl, _⟩ | ⟨g, cap, cur, rfl, _, hg, _⟩
  · exact .inl rfl
  · refine .inr fun e => ?_
    simp [Value.ownBlock] at e
    rw [e, hX] at hg
    simp at hg
theorem Pts.set3 {w : World} {B H : Nat} {v : Value} {S : List Sv.Prt} {cs : Array Value} (h : Pts w B v S) (hX : w.heap[H]? = some (.cells cs 116)) (hv : v.ownBlock ≠ some H) (a b c : Value) : Pts (((w.setCell ⟨H, 0, none⟩ a).setCell ⟨H, 1, none⟩ b).setCell ⟨H, 2, none⟩ c) B v S := by
  obtain ⟨rs, h1, h2⟩ := h
  exact ⟨rs, World.ownsRow.kept h1 (grown3 w H a b c) (.inr hv), h2.kept (grown3 w H a b c) (fun v L hv => own_ne116 hv hX)⟩
def madeS : List Sv.Prt → Option (List Int)
  | [p] => if p.depth = 0 then some p.tree else none
  | _ => none
set_option maxRecDepth 100000 in
set_option maxHeartbeats 8000000 in
theorem made_any (a : Option Addr) (cap : Nat) (ds : List Int) (w : World) (hA : IntsAt w a ds) (h1 : 1 ≤ ds.length) (h8 : ds.length ≤ 8) (hb : ∀ d ∈ ds, 0 ≤ d ∧ d ≤ 1000) :
    Calls Try.prog 82 #[.slice a ds.length cap] w fun e w' => ∃ v, e = .returned (.tuple #[v, .bool (Sv.madeO ds).isSome]) ∧ Owns w' w.heap.size v ((Sv.madeO ds).getD []) ∧ Fut w w' := by
  obtain ⟨i0, hi0, hz0, hz1, hz2⟩ := info_parts info116
  have HA := Lib.hid (fun W (k : Fut w W) => hA.fut k)
  have HD := Lib.hid (fun i (hi : i < ds.length) => hb (nth ds i) (nth_mem hi))
  obtain ⟨n, hn⟩ : ∃ n, ds.length = n := ⟨_, rfl⟩
  have HN := Lib.hid hn
  have hnx : (n : Int) ≤ 8 := by omega
  obtain ⟨B, hB⟩ : ∃ B, B = w.heap.size := ⟨_, rfl⟩
  have HB := Lib.hid hB
  rw [hn] at h1 h8 HD ⊢
  clear hA hb hn hB
  go_enter Try.func82, Try.ntmps82
  go_wp2_with fail
  go_loopw [4, 10] (fun pv iv wr => ∃ (i : Nat) (S : List Sv.Prt) (oa : Option Addr) (k oc : Nat), i ≤ n ∧ iv = .int .i64 (i : Nat) ∧ pv = .slice oa k oc ∧ Hid (k = S.length ∧ Pts wr B (.slice oa k oc) S) ∧ Hid (BdS S i) ∧ Hid (Sv.runM S i (ds.drop i) = Sv.runM [] 0 ds) ∧ Hid (Fut w wr)) (fun _ iv _ => n - (intOf iv).toNat)
  case atStart => exact ⟨0, [], none, 0, 0, by omega, rfl, rfl, Lib.hid ⟨rfl, [], World.ownsRow_nil _ _ _ _, trivial⟩, Lib.hid ⟨by simp, rfl⟩, Lib.hid rfl, Lib.hid Fut.rfl⟩
  case round =>
    obtain ⟨i, S, oa, k, oc, hi, rfl, rfl, HP, HS, HR, HF⟩ := hrel
    by_cases hin : i < n
    · have hix : (i : Int) < n := by omega
      obtain ⟨b, o, rfl, hbb, c0⟩ := HA.out wr HF.out i (by rw [HN.out]; exact hin)
      have hd := HD.out i hin
      have HRR : Hid (Sv.runM (Sv.push S ⟨(i : Int), nth ds i, []⟩) (i + 1) (ds.drop (i + 1)) = Sv.runM [] 0 ds) := Lib.hid (by rw [← HR.out, nth_drop ds i (by rw [HN.out]; exact hin), Sv.runM])
      generalize nth ds i = d at *
      clear HR
      go_upto_region 6 with fail
      obtain ⟨H, hH⟩ : ∃ H, H = wr.heap.size := ⟨_, rfl⟩
      obtain ⟨w0, hw0⟩ : ∃ w0, w0 = wr.alloc (.cells #[.int .i64 (i : Nat), .int .i64 d, .slice none 0 0] 116) := ⟨_, rfl⟩
      have HF0 : Hid (Fut w w0) := Lib.hid (by rw [hw0]; exact HF.out.trans (Fut.alloc _ _))
      have HBX : Hid (w0.heap[H]? = some (.cells #[.int .i64 (i : Nat), .int .i64 d, .slice none 0 0] 116)) := Lib.hid (by rw [hH, hw0]; exact World.alloc_heap_new wr _)
      have HP0 : Hid (k = S.length ∧ Pts w0 B (.slice oa k oc) S) := Lib.hid ⟨HP.out.1, by rw [hw0]; exact HP.out.2.fut (Fut.alloc _ _)⟩
      have HG0 : Hid (∀ g, oa = some ⟨g, 0, none⟩ → g < H) := Lib.hid (fun g hg => by
        obtain ⟨e1, rs, e2, _⟩ := HP.out
        rw [hH]
        exact (World.ownsRow.lt e2 g (by rw [hg]; rfl)).2)
      have HBH : Hid (B ≤ H) := Lib.hid (by rw [hH, HB.out]; exact RowKit.Below.size HF.out)
      have HS0 : Hid (BdS (⟨(i : Int), d, []⟩ :: S) (i + 1)) := Lib.hid ⟨fun p hp => by
        rcases List.mem_cons.1 hp with rfl | hp
        · simp; omega
        · exact HS.out.1 p hp, by rw [List.map_cons, List.sum_cons, HS.out.2]; simp; omega⟩
      obtain ⟨Q, hQ⟩ : ∃ Q, Q = Sv.push S ⟨(i : Int), d, []⟩ := ⟨_, rfl⟩
      rw [← hQ] at HRR
      have HQ0 := Lib.hid hQ.symm
      rw [← hw0, ← hH]
      clear hH hw0 hQ HF HP HS c0
      go_loopw [4] (fun pv wz => ∃ (S : List Sv.Prt) (p : Sv.Prt) (u : Value) (oa : Option Addr) (k oc : Nat), pv = .slice oa k oc ∧ Hid (k = S.length ∧ Pts wz B (.slice oa k oc) S) ∧ Hid (wz.heap[H]? = some (.cells #[.int .i64 p.last, .int .i64 p.depth, u] 116)) ∧ Hid (Owns wz B u p.tree) ∧ Hid (∀ g, oa = some ⟨g, 0, none⟩ → g < H) ∧ Hid (BdS (p :: S) (i + 1)) ∧ Hid (Sv.push S p = Q) ∧ Hid (Fut w wz)) (fun pv _ => lenS pv)
      case atStart => exact ⟨S, ⟨(i : Int), d, []⟩, .slice none 0 0, oa, k, oc, rfl, HP0, HBX, Lib.hid (World.ownsRow_nil _ _ _ _), HG0, HS0, HQ0, HF0⟩
      case round =>
        obtain ⟨S, p, u, oa, k, oc, rfl, HP, HX, HU, HG, HS, HQ, HF⟩ := hrel
        obtain ⟨t0, t1, t2, _⟩ := three_cell HX.out
        have y0 := cell_after t0
        have y1 := cell_after t1
        cases S with
        | nil =>
          have hk0 : k = 0 := HP.out.1
          have hkn : ¬ 0 < k := by omega
          have hkn2 : ¬ (0 : Int) < k := by omega
          clear hk0
          go_upto_region 6 with fail
          refine region_fut (by kernel_rfl) (by kernel_rfl) ?_
          repeat (go_big_quiet_step (first | with_reducible rfl))
          refine wpQuiet_nil ?_
          intro w4 hw'
          have HF4 := Lib.hid (after_fut hw')
          clear hw' y0 y1 t0 t1 t2
          obtain ⟨lu, cu, rfl, _⟩ := HU.out.ints
          obtain ⟨wa, hwa⟩ : ∃ wa, wa = w4.alloc (.cells #[.int .i64 p.last, .int .i64 p.depth, .slice lu p.tree.length cu] 116) := ⟨_, rfl⟩
          have FA : Fut w4 wa := by rw [hwa]; exact Fut.alloc _ _
          have hnew : wa.heap[w4.heap.size]? = some (.cells #[.int .i64 p.last, .int .i64 p.depth, .slice lu p.tree.length cu] 116) := by rw [hwa]; exact World.alloc_heap_new w4 _
          have HC := Lib.hid (three_cell hnew)
          have HF5 := Lib.hid (HF4.out.trans FA)
          obtain ⟨hk, rs, hrow, hmt⟩ := HP.out
          have hkb : k ≤ 9 := by
            have := HS.out.len
            rw [List.length_cons, ← hk] at this
            omega
          have HOW : Hid (wa.ownsRow B 116 3 (.slice oa k oc) k (flatT rs)) := Lib.hid (by have h := row_futs hrow HF5.out; rw [← hk] at h; exact h)
          have HMT := Lib.hid (hmt.fut HF5.out)
          have HUA := Lib.hid (HU.out.fut HF5.out)
          have HZA : Hid (B ≤ wa.heap.size) := Lib.hid (by rw [HB.out]; exact RowKit.Below.size (HF.out.trans HF5.out))
          have HKL := Lib.hid hk
          have HWA := Lib.hid hwa
          have HFA := Lib.hid (HF.out.trans HF5.out)
          obtain ⟨z0, z1, z2, _⟩ := three_cell (heap_fut HX.out HF4.out)
          clear hk hrow hmt hwa hnew FA HP HU HX HG HF
          go_wp2_with (at_builtin; rw [← HWA.out]; refine wpList_append_lies _ rfl _ _ 114 rfl B 116 i0 (.agg #[.int .i64 0, .int .i64 0, .slice none 0 0]) 3 40 Try.underlying114 hi0 hz0 hz1 hz2 rfl (by decide) (.slice oa k oc) k (flatT rs) rfl HOW.out ⟨w4.heap.size, 0, none⟩ 1 1 [.int .i64 p.last, .int .i64 p.depth, .slice lu p.tree.length cu] rfl rfl (cells_three HC.out.1 HC.out.2.1 HC.out.2.2.1) (by simp [Value.oneCell']) (by omega) (by unfold maxLen; omega) (by omega) HZA.out _ rfl ?_)
          intro g8 c8 w8 hown8 hgrow8 hat8 _
          have HP8 : Hid (k + 1 = (p :: []).length ∧ Pts w8 B (.slice (some ⟨g8, 0, none⟩) (k + 1) c8) (p :: [])) := Lib.hid ⟨by rw [List.length_cons, ← HKL.out], (p.last, p.depth, .slice lu p.tree.length cu) :: rs, by rw [List.length_cons, ← HKL.out]; exact hown8, rfl, rfl, HUA.out.kept hgrow8 (row_apart2 (by decide) HUA.out HOW.out), HMT.out.kept hgrow8 (fun v L hv => row_apart2 (by decide) hv HOW.out)⟩
          have HF8 : Hid (Fut w w8) := Lib.hid (fut_own HFA.out hgrow8 (fun q hq => by rw [← HB.out]; exact (World.ownsRow.lt HOW.out q hq).1))
          have HR8 : Hid (Sv.runM (p :: []) (i + 1) (ds.drop (i + 1)) = Sv.runM [] 0 ds) := Lib.hid (by rw [← HRR.out, ← HQ.out, Sv.push])
          have hwi : IntKind.i64.wrap ((i : Int) + 1) = ((i + 1 : Nat) : Int) := by rw [IntWalk.i64_in _ ⟨by omega, by omega⟩]; omega
          clear hown8 hgrow8 hat8 HOW HFA HZA HC HWA z0 z1 z2
          go_wp2_with fail
          go_roundw
          case rel => first
            | exact ⟨i + 1, p :: [], _, k + 1, c8, by omega, rfl, rfl, HP8, HS, HR8, HF8⟩
            | ((repeat apply Exists.intro); exact ⟨⟨i + 1, p :: [], _, k + 1, c8, by omega, rfl, rfl, HP8, HS, HR8, HF8⟩, rfl⟩)
          case measure => simp [intOf]; omega
        | cons q S =>
          obtain ⟨g, c, uq, e, hg1, hg2, hc, b0, b1, b2, hOq, hPp⟩ := HP.out.2.top
          obtain ⟨rfl, hk, rfl⟩ : oa = some ⟨g, 0, none⟩ ∧ k = S.length + 1 ∧ oc = c := by simpa using e
          have HPp := Lib.hid hPp
          have HOq := Lib.hid hOq
          obtain ⟨j, hj⟩ : ∃ j, S.length = j := ⟨_, rfl⟩
          rw [hj, Nat.zero_add] at b0 b1 b2
          rw [hj] at hk
          have HJ := Lib.hid hj
          have HK := Lib.hid hk
          have hkb : k ≤ 9 := by
            have := HS.out.len
            rw [List.length_cons, List.length_cons, hj] at this
            omega
          have hkx : (0 : Int) < k := by omega
          have hk0 : 0 < k := by omega
          have hwj : IntKind.i64.wrap ((k : Int) - 1) = ((j : Nat) : Int) := by rw [IntWalk.i64_in _ ⟨by omega, by omega⟩]; omega
          have hjk : (j : Int) < k := by omega
          have hjk2 : j < k := by omega
          have y2 := cell_after b1
          have HT := Lib.hid (And.intro b0 (And.intro b1 b2))
          have HGG := Lib.hid (And.intro hg1 (And.intro hg2 hc))
          clear b0 b1 b2 hk hj hPp hOq e hg1 hg2 hc
          by_cases hd : q.depth = p.depth
          · have hqd : (q.depth == p.depth) = true := by simpa using hd
            have HDD := Lib.hid hd
            clear hd
            go_upto_region 6 with fail
            refine region_fut (by kernel_rfl) (by kernel_rfl) ?_
            repeat (go_big_quiet_step (first | with_reducible rfl))
            refine wpQuiet_nil ?_
            intro w4 hw'
            have HF4 := Lib.hid (after_fut hw')
            clear hw' y0 y1 t0 t1 t2
            obtain ⟨lu, cu, rfl, hIu⟩ := HU.out.ints
            obtain ⟨lq, cq, rfl, hIq⟩ := HOq.out.ints
            have hqb := HS.out.1 q (by simp)
            have hqt := HS.out.tree (p := q) (by simp)
            have hpt := HS.out.tree (p := p) (by simp)
            obtain ⟨r, hr⟩ : ∃ r, r = q.join p := ⟨_, rfl⟩
            obtain ⟨N, hN⟩ : ∃ N, r.tree.length = N := ⟨_, rfl⟩
            have HJN : Hid (∀ W, Fut wr W → Calls Try.prog 100 #[prV q.last q.depth (.slice lq q.tree.length cq), prV p.last p.depth (.slice lu p.tree.length cu)] W fun en w' => ∃ l c, en = .returned (prV r.last r.depth (.slice l N c)) ∧ Owns w' W.heap.size (.slice l N c) r.tree ∧ Fut W w') := Lib.hid (fun W k => by
              have h := join_any q.last q.depth p.last p.depth lq lu cq cu q.tree p.tree W (by omega) (hIq.fut k) (hIu.fut k) (by omega)
              rw [← hN, hr]
              exact h)
            have HRJ := Lib.hid hr
            have HNN := Lib.hid hN
            have FD : Fut wr w4.drew := HF4.out.trans (below_drewN Fut.rfl 1)
            have keep : ∀ W, Fut w4.drew W → (fun w' => w'.cell? ⟨g, j * 3, none⟩ = some (.int .i64 q.last) ∧ w'.cell? ⟨g, j * 3 + 1, none⟩ = some (.int .i64 q.depth) ∧ w'.cell? ⟨g, j * 3 + 2, none⟩ = some (.slice lq q.tree.length cq)) W := fun W k => by
              have hgl := HGG.out.2.1
              exact ⟨(RowKit.Below.cell (FD.trans k) (p := ⟨g, j * 3, none⟩) hgl).trans HT.out.1, (RowKit.Below.cell (FD.trans k) (p := ⟨g, j * 3 + 1, none⟩) hgl).trans HT.out.2.1, (RowKit.Below.cell (FD.trans k) (p := ⟨g, j * 3 + 2, none⟩) hgl).trans HT.out.2.2⟩
            have HHG : Hid (H ≠ g) := Lib.hid (by have := HG.out g rfl; omega)
            have HFD := Lib.hid FD
            clear hIu hIq hr hN FD hqb hqt hpt y2
            go_upto_region 7 with fail
            refine wp_region_held_drew (S := (fun w' => w'.cell? ⟨g, j * 3, none⟩ = some (.int .i64 q.last) ∧ w'.cell? ⟨g, j * 3 + 1, none⟩ = some (.int .i64 q.depth) ∧ w'.cell? ⟨g, j * 3 + 2, none⟩ = some (.slice lq q.tree.length cq))) (by kernel_rfl) ?_ (fun hHeld => ?_)
            · exact keep _ Fut.rfl
            generalize w4.drew = u0 at *
            refine wpAnyH_take (i := 0) (oi := { dst := some 33, op := Op.move (Operand.tmp 4), type := 114, pos := "tree.go:139", after := #[], guard := none }) (v := ?_) rfl (by kernel_rfl) (by kernel_rfl) (by kernel_rfl) (fun _ _ _ h => h) (Or.inl ⟨by rfl, ?_⟩) (by assumption) ?_
            rotate_left
            · (intro w hSw; obtain ⟨s0, s1, s2⟩ := hSw; go_simp <;> with_reducible rfl)
            try simp only [Act.put, List.setIfInBounds_toArray, List.set_cons_zero, List.set_cons_succ]
            refine wpAnyH_take (i := 1) (oi := { dst := some 34, op := Op.move (Operand.tmp 4), type := 114, pos := "tree.go:139", after := #[], guard := none }) (v := ?_) rfl (by kernel_rfl) (by kernel_rfl) (by kernel_rfl) (fun _ _ _ h => h) (Or.inl ⟨by rfl, ?_⟩) (by assumption) ?_
            rotate_left
            · (intro w hSw; obtain ⟨s0, s1, s2⟩ := hSw; go_simp <;> with_reducible rfl)
            try simp only [Act.put, List.setIfInBounds_toArray, List.set_cons_zero, List.set_cons_succ]
            refine wpAnyH_take (i := 2) (oi := { dst := some 35, op := Op.call { callee := Callee.builtin Builtin.len, args := #[Operand.tmp 34], argTypes := #[114] }, type := 3, pos := "tree.go:139", after := #[{ on := 1, ground := Ground.data }], guard := none }) (v := ?_) rfl (by kernel_rfl) (by kernel_rfl) (by kernel_rfl) (fun _ _ _ h => h) (Or.inl ⟨by rfl, ?_⟩) (by assumption) ?_
            rotate_left
            · (intro w hSw; obtain ⟨s0, s1, s2⟩ := hSw; go_simp <;> with_reducible rfl)
            try simp only [Act.put, List.setIfInBounds_toArray, List.set_cons_zero, List.set_cons_succ]
            refine wpAnyH_take (i := 3) (oi := { dst := some 36, op := Op.binOp BinOp.sub 3 (Operand.tmp 35) (Operand.const (Value.int IntKind.i64 1)) 3, type := 3, pos := "tree.go:139", after := #[{ on := 2, ground := Ground.data }], guard := none }) (v := ?_) rfl (by kernel_rfl) (by kernel_rfl) (by kernel_rfl) (fun _ _ _ h => h) (Or.inl ⟨by rfl, ?_⟩) (by assumption) ?_
            rotate_left
            · (intro w hSw; obtain ⟨s0, s1, s2⟩ := hSw; go_simp <;> with_reducible rfl)
            try simp only [Act.put, List.setIfInBounds_toArray, List.set_cons_zero, List.set_cons_succ]
            refine wpAnyH_take (i := 4) (oi := { dst := some 37, op := Op.indexAddr 114 (Operand.tmp 33) (Operand.tmp 36), type := 0, pos := "tree.go:139", after := #[{ on := 0, ground := Ground.data }, { on := 3, ground := Ground.data }], guard := none }) (v := ?_) rfl (by kernel_rfl) (by kernel_rfl) (by kernel_rfl) (fun _ _ _ h => h) (Or.inl ⟨by rfl, ?_⟩) (by assumption) ?_
            rotate_left
            · (intro w hSw; obtain ⟨s0, s1, s2⟩ := hSw; go_simp <;> with_reducible rfl)
            try simp only [Act.put, List.setIfInBounds_toArray, List.set_cons_zero, List.set_cons_succ]
            refine wpAnyH_take (i := 5) (oi := { dst := some 38, op := Op.load 116 (Operand.tmp 37), type := 116, pos := "tree.go:139", after := #[{ on := 4, ground := Ground.data }], guard := none }) (v := ?_) rfl (by kernel_rfl) (by kernel_rfl) (by kernel_rfl) (fun _ _ _ h => h) (Or.inl ⟨by rfl, ?_⟩) (by assumption) ?_
            rotate_left
            · (intro w hSw; obtain ⟨s0, s1, s2⟩ := hSw; go_simp <;> with_reducible rfl)
            try simp only [Act.put, List.setIfInBounds_toArray, List.set_cons_zero, List.set_cons_succ]
            refine wpAnyH_ready (rs := [6]) (by kernel_rfl) (by simp) ?_
            refine AllReadyH.cons (o := { dst := some 39, op := Op.load 116 (Operand.tmp 7), type := 116, pos := "tree.go:139", after := #[], guard := none }) rfl (fun K hK => ?_) AllReadyH.nil
            obtain ⟨z0, z1, z2, _⟩ := three_cell (heap_fut HX.out HFD.out)
            go_simp
            clear z0 z1 z2
            refine hK.out _ _ ?_ (fun hHeld => ?_)
            · exact keep _ Fut.rfl
            clear hK K
            try simp only [Act.put, List.setIfInBounds_toArray, List.set_cons_zero, List.set_cons_succ]
            refine wpAnyH_ready (rs := [7]) (by kernel_rfl) (by simp) ?_
            refine AllReadyH.cons (o := { dst := some 40, op := Op.call { callee := Callee.value (Operand.func 100), args := #[Operand.tmp 38, Operand.tmp 39], argTypes := #[116, 116] }, type := 116, pos := "tree.go:139", after := #[{ on := 5, ground := Ground.data }, { on := 6, ground := Ground.data }], guard := none }) rfl (fun K hK => ?_) AllReadyH.nil
            go_simp
            go_at_call 100
            refine (HJN.out u0 HFD.out).mono ?_
            rintro _ v7 ⟨l7, c7, rfl, hO7, T7⟩
            have O7 := Lib.hid hO7
            have G7 := Lib.hid T7
            clear hO7 T7
            try go_wp2_with fail
            refine hK.out _ _ ?_ (fun hHeld => ?_)
            · exact keep _ G7.out
            clear hK K
            try simp only [Act.put, List.setIfInBounds_toArray, List.set_cons_zero, List.set_cons_succ]
            refine wpAnyH_ready (rs := [8]) (by kernel_rfl) (by simp) ?_
            refine AllReadyH.cons (o := { dst := none, op := Op.store 116 (Operand.tmp 7) (Operand.tmp 40), type := 0, pos := "tree.go:139", after := #[{ on := 7, ground := Ground.data }, { on := 7, ground := Ground.chain }, { on := 0, ground := Ground.phase }, { on := 1, ground := Ground.phase }, { on := 2, ground := Ground.phase }, { on := 3, ground := Ground.phase }, { on := 4, ground := Ground.phase }, { on := 5, ground := Ground.phase }, { on := 6, ground := Ground.phase }, { on := 7, ground := Ground.phase }], guard := none }) rfl (fun K hK => ?_) AllReadyH.nil
            have HX7 := Lib.hid (heap_fut HX.out (HFD.out.trans G7.out))
            have e1 := set3_all (.int .i64 r.last) (.int .i64 r.depth) (.slice l7 N c7) HX7.out
            obtain ⟨⟨y1, y2⟩, ⟨y3, y4⟩, ⟨y5, y6⟩, y7⟩ := e1
            have HX8 := Lib.hid y7
            have HF8 : Hid (Fut w (((v7.setCell ⟨H, 0, none⟩ (.int .i64 r.last)).setCell ⟨H, 1, none⟩ (.int .i64 r.depth)).setCell ⟨H, 2, none⟩ (.slice l7 N c7))) := Lib.hid (RowKit.Below.setCell (p := ⟨H, 2, none⟩) (RowKit.Below.setCell (p := ⟨H, 1, none⟩) (RowKit.Below.setCell (p := ⟨H, 0, none⟩) (HF.out.trans (HFD.out.trans G7.out)) (by rw [← HB.out]; exact HBH.out) _) (by rw [← HB.out]; exact HBH.out) _) (by rw [← HB.out]; exact HBH.out) _)
            have HU8 : Hid (Owns (((v7.setCell ⟨H, 0, none⟩ (.int .i64 r.last)).setCell ⟨H, 1, none⟩ (.int .i64 r.depth)).setCell ⟨H, 2, none⟩ (.slice l7 N c7)) B (.slice l7 N c7) r.tree) := Lib.hid ((own_set3 (O7.out.base (Nat.lt_of_lt_of_le (Array.getElem?_eq_some_iff.1 (heap_fut HX.out HFD.out)).1 (Nat.le_refl _))) _ _ _).base (Nat.le_succ_of_le HBH.out))
            have HP8 : Hid (j = S.length ∧ Pts (((v7.setCell ⟨H, 0, none⟩ (.int .i64 r.last)).setCell ⟨H, 1, none⟩ (.int .i64 r.depth)).setCell ⟨H, 2, none⟩ (.slice l7 N c7)) B (.slice (some ⟨g, 0, none⟩) j oc) S) := Lib.hid ⟨HJ.out.symm, by rw [← HJ.out]; exact (HPp.out.fut (HFD.out.trans G7.out)).set3 HX7.out (fun e => by have := HG.out g rfl; simp [Value.ownBlock] at e; omega) _ _ _⟩
            have KS := Lib.hid (keep _ G7.out)
            go_simp
            clear y1 y2 y3 y4 y5 y6 y7
            refine hK.out _ _ ?_ (fun hHeld => ?_)
            · exact ⟨(cell_set3 HHG.out _ _ _ _).trans KS.out.1, (cell_set3 HHG.out _ _ _ _).trans KS.out.2.1, (cell_set3 HHG.out _ _ _ _).trans KS.out.2.2⟩
            clear hK K
            try simp only [Act.put, List.setIfInBounds_toArray, List.set_cons_zero, List.set_cons_succ]
            refine wpAnyH_done (by kernel_rfl) ?_ _
            have HQ8 : Hid (Sv.push S r = Q) := Lib.hid (by rw [← HQ.out, Sv.push, if_pos HDD.out, HRJ.out])
            have HS8 : Hid (BdS (r :: S) (i + 1)) := Lib.hid (by rw [HRJ.out]; exact HS.out.join)
            have hsl := slice_to114 g 0 k oc j (by have := HGG.out.2.2; have := HJ.out; omega)
            clear HX HU HP HS HQ HF HX7 O7 G7 HFD HJN keep HPp HOq HT KS
            generalize ((v7.setCell ⟨H, 0, none⟩ (.int .i64 r.last)).setCell ⟨H, 1, none⟩ (.int .i64 r.depth)).setCell ⟨H, 2, none⟩ (.slice l7 N c7) = w8 at *
            go_wp2_with fail
            go_roundw
            case rel => first
              | exact ⟨S, r, .slice l7 N c7, some ⟨g, 0, none⟩, j, oc, rfl, HP8, HX8, HU8, HG, HS8, HQ8, HF8⟩
              | ((repeat apply Exists.intro); exact ⟨⟨S, r, .slice l7 N c7, some ⟨g, 0, none⟩, j, oc, rfl, HP8, HX8, HU8, HG, HS8, HQ8, HF8⟩, rfl⟩)
            case measure => simp only [lenS]; omega
          · have hqd : (q.depth == p.depth) = false := by simpa using hd
            have HDD := Lib.hid hd
            clear hd
            go_upto_region 6 with fail
            refine region_fut (by kernel_rfl) (by kernel_rfl) ?_
            repeat (go_big_quiet_step (first | with_reducible rfl))
            refine wpQuiet_nil ?_
            intro w4 hw'
            clear y2 HT HGG HPp HOq
            have HF4 := Lib.hid (after_fut hw')
            clear hw' y0 y1 t0 t1 t2
            obtain ⟨lu, cu, rfl, _⟩ := HU.out.ints
            obtain ⟨wa, hwa⟩ : ∃ wa, wa = w4.alloc (.cells #[.int .i64 p.last, .int .i64 p.depth, .slice lu p.tree.length cu] 116) := ⟨_, rfl⟩
            have FA : Fut w4 wa := by rw [hwa]; exact Fut.alloc _ _
            have hnew : wa.heap[w4.heap.size]? = some (.cells #[.int .i64 p.last, .int .i64 p.depth, .slice lu p.tree.length cu] 116) := by rw [hwa]; exact World.alloc_heap_new w4 _
            have HC := Lib.hid (three_cell hnew)
            have HF5 := Lib.hid (HF4.out.trans FA)
            obtain ⟨hk, rs, hrow, hmt⟩ := HP.out
            have hkb : k ≤ 9 := by
              have := HS.out.len
              rw [List.length_cons, ← hk] at this
              omega
            have HOW : Hid (wa.ownsRow B 116 3 (.slice (some ⟨g, 0, none⟩) k oc) k (flatT rs)) := Lib.hid (by have h := row_futs hrow HF5.out; rw [← hk] at h; exact h)
            have HMT := Lib.hid (hmt.fut HF5.out)
            have HUA := Lib.hid (HU.out.fut HF5.out)
            have HZA : Hid (B ≤ wa.heap.size) := Lib.hid (by rw [HB.out]; exact RowKit.Below.size (HF.out.trans HF5.out))
            have HKL := Lib.hid hk
            have HWA := Lib.hid hwa
            have HFA := Lib.hid (HF.out.trans HF5.out)
            obtain ⟨z0, z1, z2, _⟩ := three_cell (heap_fut HX.out HF4.out)
            clear hk hrow hmt hwa hnew FA HP HU HX HG HF
            go_wp2_with (at_builtin; rw [← HWA.out]; refine wpList_append_lies _ rfl _ _ 114 rfl B 116 i0 (.agg #[.int .i64 0, .int .i64 0, .slice none 0 0]) 3 40 Try.underlying114 hi0 hz0 hz1 hz2 rfl (by decide) (.slice (some ⟨g, 0, none⟩) k oc) k (flatT rs) rfl HOW.out ⟨w4.heap.size, 0, none⟩ 1 1 [.int .i64 p.last, .int .i64 p.depth, .slice lu p.tree.length cu] rfl rfl (cells_three HC.out.1 HC.out.2.1 HC.out.2.2.1) (by simp [Value.oneCell']) (by omega) (by unfold maxLen; omega) (by omega) HZA.out _ rfl ?_)
            intro g8 c8 w8 hown8 hgrow8 hat8 _
            have HP8 : Hid (k + 1 = (p :: (q :: S)).length ∧ Pts w8 B (.slice (some ⟨g8, 0, none⟩) (k + 1) c8) (p :: (q :: S))) := Lib.hid ⟨by rw [List.length_cons, ← HKL.out], (p.last, p.depth, .slice lu p.tree.length cu) :: rs, by rw [List.length_cons, ← HKL.out]; exact hown8, rfl, rfl, HUA.out.kept hgrow8 (row_apart2 (by decide) HUA.out HOW.out), HMT.out.kept hgrow8 (fun v L hv => row_apart2 (by decide) hv HOW.out)⟩
            have HF8 : Hid (Fut w w8) := Lib.hid (fut_own HFA.out hgrow8 (fun q hq => by rw [← HB.out]; exact (World.ownsRow.lt HOW.out q hq).1))
            have HR8 : Hid (Sv.runM (p :: (q :: S)) (i + 1) (ds.drop (i + 1)) = Sv.runM [] 0 ds) := Lib.hid (by rw [← HRR.out, ← HQ.out, Sv.push, if_neg HDD.out])
            have hwi : IntKind.i64.wrap ((i : Int) + 1) = ((i + 1 : Nat) : Int) := by rw [IntWalk.i64_in _ ⟨by omega, by omega⟩]; omega
            clear hown8 hgrow8 hat8 HOW HFA HZA HC HWA z0 z1 z2
            go_wp2_with fail
            go_roundw
            case rel => first
              | exact ⟨i + 1, p :: (q :: S), _, k + 1, c8, by omega, rfl, rfl, HP8, HS, HR8, HF8⟩
              | ((repeat apply Exists.intro); exact ⟨⟨i + 1, p :: (q :: S), _, k + 1, c8, by omega, rfl, rfl, HP8, HS, HR8, HF8⟩, rfl⟩)
            case measure => simp [intOf]; omega
    · obtain rfl : i = n := by omega
      have hE : S = Sv.runM [] 0 ds := by rw [← HR.out, List.drop_eq_nil_of_le (by rw [HN.out]; exact Nat.le_refl _), Sv.runM]
      have HMO : Hid (Sv.madeO ds = madeS S) := Lib.hid (by rw [hE]; rfl)
      clear hE HR
      match S, HP, HS, HMO with
      | [], HP, HS, HMO =>
        have := HS.out.2
        simp at this
        omega
      | [p], HP, HS, HMO =>
        obtain ⟨g, c, u, e, hg1, hg2, hc, b0, b1, b2, hO, _⟩ := HP.out.2.top
        obtain ⟨rfl, hk, rfl⟩ : oa = some ⟨g, 0, none⟩ ∧ k = 1 ∧ oc = c := by simpa using e
        subst hk
        obtain ⟨l, lc, rfl, _⟩ := hO.ints
        have HO := Lib.hid hO
        simp only [List.length_nil, Nat.zero_mul, Nat.zero_add, Nat.add_zero] at b0 b1 b2
        clear e hg1 hg2 hc hO HP
        by_cases hd : p.depth = 0
        · have HM2 : Hid (Sv.madeO ds = some p.tree) := Lib.hid (by rw [HMO.out]; rw [madeS, if_pos hd])
          rw [hd] at b1
          clear hd
          go_wp2_with fail
          go_ret2
          rw [HM2.out]
          exact ⟨_, rfl, by rw [← HB.out]; exact HO.out, HF.out⟩
        · have HM2 : Hid (Sv.madeO ds = none) := Lib.hid (by rw [HMO.out]; rw [madeS, if_neg hd])
          go_wp2_with fail
          go_ret2
          rw [HM2.out]
          exact ⟨_, rfl, World.ownsRow_nil _ _ _ _, HF.out⟩
      | p :: q :: S, HP, HS, HMO =>
        have hk : 1 < k := by rw [HP.out.1]; simp
        have hkx : (1 : Int) < k := by omega
        have HM2 : Hid (Sv.madeO ds = none) := Lib.hid HMO.out
        go_wp2_with fail
        go_ret2
        rw [HM2.out]
        exact ⟨_, rfl, World.ownsRow_nil _ _ _ _, HF.out⟩
end
section
/-- Made's error and its tree. -/
def okD (n : Nat) (d : Int) : Bool := inB (n : Int) d
def madeC (ds : List Int) : Int := if ds.length = 0 then 4 else if 8 < ds.length then 3 else if ds.all (okD ds.length) = false then 1 else match Sv.madeO ds with | none => 12 | some _ => 0
def madeE (ds : List Int) : List Int := if madeC ds = 0 then (Sv.madeO ds).getD [] else []
theorem madeC_bad {ds : List Int} (h0 : ds.length ≠ 0) (h1 : ds.length ≤ 8) {i : Nat} (hi : i < ds.length) (hb : inB (ds.length : Nat) (nth ds i) = false) : madeC ds = 1 := by
  unfold madeC
  rw [if_neg h0, if_neg (by omega), if_pos]
  rw [List.all_eq_false]
  exact ⟨nth ds i, nth_mem hi, by unfold okD; rw [hb]; simp⟩
theorem madeC_ok {ds : List Int} (h0 : ds.length ≠ 0) (h1 : ds.length ≤ 8) (h : ∀ j, j < ds.length → inB (ds.length : Nat) (nth ds j) = true) : madeC ds = match Sv.madeO ds with | none => 12 | some _ => 0 := by
  unfold madeC
  rw [if_neg h0, if_neg (by omega), if_neg]
  rw [Bool.not_eq_false, List.all_eq_true]
  intro x hx
  obtain ⟨j, hj, rfl⟩ := List.getElem_of_mem hx
  have := h j hj
  rw [nth_eq, List.getElem?_eq_getElem hj] at this
  exact this
set_option maxRecDepth 100000 in
set_option maxHeartbeats 4000000 in
theorem made43_any (a : Option Addr) (cap : Nat) (ds : List Int) (w : World) (hA : IntsAt w a ds) (hl : ds.length ≤ 1000) :
    Calls Try.prog 43 #[.slice a ds.length cap] w fun e w' => TupW (madeC ds) (madeE ds) w e w' := by
  have HA := Lib.hid hA
  have hlx : (ds.length : Int) ≤ 1000 := by omega
  by_cases h0 : ds.length = 0
  · have HC : Hid (madeC ds = 4) := Lib.hid (by unfold madeC; rw [if_pos h0])
    have HE : Hid (madeE ds = []) := Lib.hid (by unfold madeE; rw [HC.out]; rfl)
    have h0x : (ds.length : Int) = 0 := by omega
    clear hA
    go_enter Try.func43, Try.ntmps43
    go_wp2_with fail
    go_ret2
    rw [HC.out, HE.out]
    exact ⟨_, rfl, own_nil _ _, Fut.rfl⟩
  by_cases h1 : 8 < ds.length
  · have HC : Hid (madeC ds = 3) := Lib.hid (by unfold madeC; rw [if_neg h0, if_pos h1])
    have HE : Hid (madeE ds = []) := Lib.hid (by unfold madeE; rw [HC.out]; rfl)
    have h0x : ¬ (ds.length : Int) = 0 := by omega
    have h1x : (8 : Int) < ds.length := by omega
    clear hA
    go_enter Try.func43, Try.ntmps43
    go_wp2_with fail
    go_ret2
    rw [HC.out, HE.out]
    exact ⟨_, rfl, own_nil _ _, Fut.rfl⟩
  have HBD := Lib.hid (fun i hi hb => madeC_bad (ds := ds) h0 (by omega) (i := i) hi hb)
  have HK := Lib.hid (fun h => madeC_ok (ds := ds) h0 (by omega) h)
  have HMA := Lib.hid (fun (h : ∀ j, j < ds.length → inB (ds.length : Nat) (nth ds j) = true) => made_any a cap ds w hA (by omega) (by omega) (fun d hd => by
    obtain ⟨j, hj, rfl⟩ := List.getElem_of_mem hd
    have := h j hj
    rw [nth_eq, List.getElem?_eq_getElem hj] at this
    unfold inB at this
    simp at this
    omega))
  have HIX := Lib.hid (fun d W => isIndex_any d (ds.length : Nat) W)
  have h0x : ¬ (ds.length : Int) = 0 := by omega
  have h1x : ¬ (8 : Int) < ds.length := by omega
  clear hA
  go_enter Try.func43, Try.ntmps43
  go_wp2_with fail
  go_loopw [16] (fun iv wr => ∃ i : Nat, i ≤ ds.length ∧ iv = .int .i64 i ∧ Hid (∀ j, j < i → inB (ds.length : Nat) (nth ds j) = true) ∧ w = wr) (fun iv _ => ds.length - (intOf iv).toNat)
  case atStart => exact ⟨0, Nat.zero_le _, rfl, Lib.hid (fun j hj => absurd hj (by omega)), rfl⟩
  case round =>
    obtain ⟨i, hi, rfl, HJ, rfl⟩ := hrel
    by_cases hil : i < ds.length
    · have hix : (i : Int) < ds.length := by omega
      obtain ⟨b, o, rfl, hb, c⟩ := HA.out i hil
      cases hq : inB (ds.length : Nat) (nth ds i) with
      | false =>
        have HC := Lib.hid (HBD.out i hil hq)
        have HE : Hid (madeE ds = []) := Lib.hid (by unfold madeE; rw [HC.out]; rfl)
        have HI2 : Hid (∀ W, Calls Try.prog 74 #[.int .i64 (nth ds i), .int .i64 (ds.length : Nat)] W fun e w' => e = .returned (.bool false) ∧ W = w') := Lib.hid (fun W => by have h := HIX.out (nth ds i) W; rw [hq] at h; exact h)
        clear hq
        generalize nth ds i = x at *
        go_wp2_with fail
        refine (HI2.out _).mono ?_
        rintro _ _ ⟨rfl, rfl⟩
        go_wp2_with fail
        go_ret2
        rw [HC.out, HE.out]
        exact ⟨_, rfl, own_nil _ _, Fut.rfl⟩
      | true =>
        have HJ2 : Hid (∀ j, j < i + 1 → inB (ds.length : Nat) (nth ds j) = true) := Lib.hid (fun j hj => by
          rcases Nat.lt_or_ge j i with q | q
          · exact HJ.out j q
          · obtain rfl : j = i := by omega
            exact hq)
        have HI2 : Hid (∀ W, Calls Try.prog 74 #[.int .i64 (nth ds i), .int .i64 (ds.length : Nat)] W fun e w' => e = .returned (.bool true) ∧ W = w') := Lib.hid (fun W => by have h := HIX.out (nth ds i) W; rw [hq] at h; exact h)
        clear hq
        generalize nth ds i = x at c HI2
        go_wp2_with fail
        refine (HI2.out _).mono ?_
        rintro _ _ ⟨rfl, rfl⟩
        go_wp2_with fail
        go_roundw
        case rel => exact ⟨i + 1, by omega, by go_num, HJ2, trivial⟩
        case measure => simp [intOf]; omega
    · obtain rfl : i = ds.length := by omega
      have HC := Lib.hid (HK.out HJ.out)
      have HM2 := Lib.hid (HMA.out HJ.out)
      go_wp2_with fail
      refine HM2.out.mono ?_
      rintro _ w1 ⟨v, rfl, hO, F1⟩
      obtain ⟨l, c, rfl, _⟩ := hO.ints
      have HI := Lib.hid hO
      cases hm : Sv.madeO ds with
      | none =>
        rw [hm] at HI HC
        have HC2 : Hid (madeC ds = 12) := HC
        have HE : Hid (madeE ds = []) := Lib.hid (by unfold madeE; rw [HC2.out]; rfl)
        clear hm hO HC
        simp only [Option.getD_none, Option.isSome_none, List.length_nil]
        go_wp2_with fail
        go_ret2
        rw [HC2.out, HE.out]
        exact ⟨_, rfl, own_nil _ _, F1⟩
      | some t =>
        rw [hm] at HI HC
        have HC2 : Hid (madeC ds = 0) := HC
        have HE : Hid (madeE ds = t) := Lib.hid (by unfold madeE; rw [HC2.out, hm]; rfl)
        clear hm hO HC
        simp only [Option.getD_some, Option.isSome_some]
        go_wp2_with fail
        go_ret2
        rw [HC2.out, HE.out]
        exact ⟨_, rfl, HI.out, F1⟩
end
section
theorem v_c1 : chkL [4, 1, 1, 4] = 0 := by decide
theorem v_c2 : chkL [1, 9, 1] = 0 := by decide
theorem v_b1 : bestE [4, 1, 1, 4] = [0, 2, 1] := by decide +kernel
theorem v_l1 : leastE [4, 1, 1, 4] = 18 := by decide +kernel
theorem v_n1 : countE [4, 1, 1, 4] = 2 := by decide +kernel
theorem v_t1 : topsE [4, 1, 1, 4] = (0, 2) := by decide +kernel
theorem v_t2 : topsC [4, 1, 1, 4] = 0 := by decide
theorem v_a1 : anyE [1, 9, 1] = 13 := by
  unfold anyE
  rw [if_pos v_c2]
  show Sv.huf (2 + 1) [1, 9, 1] = 13
  rw [Sv.huf_step 2 (x := 1) (y := 1) (r := [9]) (by decide) (by decide) (by decide)]
  show (1 + 1 : Int) + Sv.huf (1 + 1) [2, 9] = 13
  rw [Sv.huf_step 1 (x := 2) (y := 9) (r := []) (by decide) (by decide) (by decide), Sv.huf_one 1 rfl]
  rfl
theorem v_k1 : treesE 4 = 5 := by decide +kernel
theorem v_k2 : kindE 4 = 0 := by decide
theorem v_r1 : treeE 4 2 = [1, 0, 2] := by decide +kernel
theorem v_r2 : treeC 4 2 = 0 := by decide +kernel
theorem v_d1 : depthsE 4 [0, 2, 1] = [1, 3, 3, 2] := by decide +kernel
theorem v_d2 : validE 4 [0, 2, 1] = 0 := by decide +kernel
theorem v_s1 : askedE 4 [0, 2, 1] 2 = [0, 2, 1] := by decide +kernel
theorem v_s2 : askedC 4 [0, 2, 1] 2 = 0 := by decide +kernel
theorem v_q1 : questE [1, 2, 3] [0, 1] = 11 := by decide +kernel
theorem v_q2 : questC [1, 2, 3] [0, 1] = 0 := by decide +kernel
theorem v_m1 : madeE [1, 3, 3, 2] = [0, 2, 1] := by decide +kernel
theorem v_m2 : madeC [1, 3, 3, 2] = 0 := by decide +kernel
theorem v_m3 : madeE [2, 1, 2] = [] := by decide +kernel
theorem v_m4 : madeC [2, 1, 2] = 12 := by decide +kernel
theorem v_t3 : topsE [7] = (0, 0) := by decide +kernel
theorem v_t4 : topsC [7] = 2 := by decide
theorem v_r3 : treeE 4 5 = [] := by decide +kernel
theorem v_r4 : treeC 4 5 = 2 := by decide +kernel
theorem v_v1 : validE 3 [0, 1] = 0 := by decide +kernel
theorem v_v2 : validE 3 [0, 2] = 5 := by decide +kernel
theorem ex_L {f : FuncId} {args : Array Value} {w : World} {r : Int} {L : List Int} (h : Calls Try.prog f args w fun e w' => TupL r L w e w') (r0 : Int) (L0 : List Int) (hr : r = r0) (hL : L = L0) : Calls Try.prog f args w fun e w' => TupL r0 L0 w e w' := by
  subst hr; subst hL; exact h
theorem ex_2 {f : FuncId} {args : Array Value} {w : World} {a b : Int} (h : Calls Try.prog f args w fun e w' => e = .returned (.tuple #[.int .i64 a, .int .i64 b]) ∧ Fut w w') (a0 b0 : Int) (ha : a = a0) (hb : b = b0) : Calls Try.prog f args w fun e w' => e = .returned (.tuple #[.int .i64 a0, .int .i64 b0]) ∧ Fut w w' := by
  subst ha; subst hb; exact h
theorem ex_3 {f : FuncId} {args : Array Value} {w : World} {p : Int × Int} {b : Int} (h : Calls Try.prog f args w fun e w' => e = .returned (.tuple #[.int .i64 p.1, .int .i64 p.2, .int .i64 b]) ∧ Fut w w') (p0 : Int × Int) (b0 : Int) (ha : p = p0) (hb : b = b0) : Calls Try.prog f args w fun e w' => e = .returned (.tuple #[.int .i64 p0.1, .int .i64 p0.2, .int .i64 b0]) ∧ Fut w w' := by
  subst ha; subst hb; exact h
theorem ex_1 {f : FuncId} {args : Array Value} {w : World} {a : Int} (h : Calls Try.prog f args w fun e w' => e = .returned (.int .i64 a) ∧ Fut w w') (a0 : Int) (ha : a = a0) : Calls Try.prog f args w fun e w' => e = .returned (.int .i64 a0) ∧ Fut w w' := by
  subst ha; exact h
theorem ex_id (v : Value) (w : World) : Calls Try.prog 53 #[v] w fun e w' => e = .returned v ∧ Fut w w' := (list_id v w).mono fun _ _ ⟨e, h⟩ => ⟨e, h ▸ Fut.rfl⟩
theorem ex_same {a c : Option Addr} {cap dap : Nat} (xs ys : List Int) {w : World} (hA : IntsAt w a xs) (hC : IntsAt w c ys) (hs : xs.length ≤ 1000 ∧ ys.length ≤ 1000) (b : Bool) (hb : sameB xs ys = b) : Calls Try.prog 24 #[.slice a xs.length cap, .slice c ys.length dap] w fun e w' => e = .returned (.bool b) ∧ Fut w w' :=
  (same_any a c cap dap xs ys w (by omega) (by omega) hA hC).mono fun _ _ ⟨e, q, h⟩ => ⟨by rw [e, hb], by rw [h]; exact Fut.drewN _ q⟩
theorem ex_chk {a : Option Addr} {cap : Nat} (zs : List Int) {w : World} (hA : IntsAt w a zs) (hl : zs.length ≤ 1000) (r : Int) (hr : chkL zs = r) : Calls Try.prog 25 #[.slice a zs.length cap] w fun e w' => e = .returned (.int .i64 r) ∧ Fut w w' :=
  (check_any a cap zs w hA hl).mono fun _ _ ⟨e, h⟩ => ⟨by rw [e, hr], by rw [h]; exact Fut.rfl⟩
theorem law_L (w : World) : Calls Try.prog 62 #[] w fun e w' => ∃ l, e = .returned (.slice l 4 4) ∧ IntsAt w' l [4, 1, 1, 4] ∧ Fut w w' := by
  go_enter Try.func62, Try.ntmps62
  go_wp2_with fail
  refine (list_id _ _).mono ?_
  rintro _ _ ⟨rfl, rfl⟩
  go_wp2_with fail
  go_ret
  exact ⟨_, rfl, ints_new w [4, 1, 1, 4], Fut.alloc _ _⟩
theorem ex_K {f : FuncId} {args : Array Value} {w : World} {r : Int} {L : List Int} (h : Calls Try.prog f args w fun e w' => TupW r L w e w') (r0 : Int) (L0 : List Int) (hr : r = r0) (hL : L = L0) : Calls Try.prog f args w fun e w' => ∃ l c, e = .returned (.tuple #[.slice l L0.length c, .int .i64 r0]) ∧ L0.length ≤ c ∧ IntsAt w' l L0 ∧ Fut w w' := by
  subst hr; subst hL
  refine h.mono ?_
  rintro e w' ⟨v, rfl, hO, F⟩
  obtain ⟨l, c, rfl, h1, _, h2⟩ := hO.form
  exact ⟨l, c, rfl, h1, h2, F⟩
end
end Go.Proofs.Ytjapconhehdcjaa
