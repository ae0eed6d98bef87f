/- inAnyOrder 70, Any 29 -/
import Derived.Test.YtjapconhehdcjaaUA
import Derived.Test.YtjapconhehdcjaaPD
import Derived.Deep.DeepCutAuto
import Derived.Deep.AppendLies
namespace Go.Proofs.Ytjapconhehdcjaa
open Go.RowKit Go.Sort
def lenS : Value → Nat
  | .slice _ n _ => n
  | _ => 0
theorem sum_perm {l m : List Int} (h : l.Perm m) : l.sum = m.sum := by
  induction h with
  | nil => rfl
  | cons x _ ih => rw [List.sum_cons, List.sum_cons, ih]
  | swap x y l => rw [List.sum_cons, List.sum_cons, List.sum_cons, List.sum_cons]; omega
  | trans _ _ h1 h2 => exact h1.trans h2
theorem sum_ge {l : List Int} (h : ∀ z ∈ l, 0 ≤ z) : 0 ≤ l.sum := by
  induction l with
  | nil => simp
  | cons x l ih => rw [List.sum_cons]; have := ih fun z hz => h z (by simp [hz]); have := h x (by simp); omega
theorem RowO.set1 {w : World} {g o : Nat} {x y s : Int} {r : List Int} (h : RowO w g o (x :: y :: r)) : RowO (w.setCell ⟨g, o + 1, none⟩ (.int .i64 s)) g (o + 1) (s :: r) := by
  have c1 := h.1 1 (by simp)
  refine ⟨fun j hj => ?_, fun j => by rw [World.frozen?_setCell]; exact h.2 j⟩
  by_cases hj0 : j = 0
  · subst hj0
    exact World.cell?_setCell_same _ _ _ c1
  · obtain ⟨k, rfl⟩ : ∃ k, j = k + 1 := ⟨j - 1, by omega⟩
    rw [World.cell?_setCell_other _ _ _ _ (by intro e; injection e with _ e _; omega)]
    have := h.1 (k + 2) (by simp at hj ⊢; omega)
    rw [show o + 1 + (k + 1) = o + (k + 2) by omega, this]
    rfl
set_option maxRecDepth 100000 in
set_option maxHeartbeats 4000000 in
theorem inAny_any (a : Option Addr) (cap : Nat) (zs : List Int) (w : World) (hA : IntsAt w a zs) (h1 : 1 ≤ zs.length) (h8 : zs.length ≤ 8) (hz : ∀ z ∈ zs, 0 ≤ z ∧ z ≤ 1000000) :
    Calls Try.prog 70 #[.slice a zs.length cap] w fun e w' => e = .returned (.int .i64 (Sv.huf zs.length zs)) ∧ Fut w w' := by
  have HCL := Lib.hid (clone_any a cap zs w hA (by omega))
  obtain ⟨S, hS⟩ : ∃ S, S = zs.sum := ⟨_, rfl⟩
  have hSb := sum_bnd hz zs.length
  rw [List.take_length, ← hS] at hSb
  have HS := Lib.hid hS.symm
  have HZ := Lib.hid (fun z h => (hz z h).1)
  obtain ⟨T, hT⟩ : ∃ T, T = Sv.huf zs.length zs := ⟨_, rfl⟩
  have HT := Lib.hid hT
  have hN : (zs.length : Int) ≤ 8 := by omega
  have hSb2 : 0 ≤ S ∧ S ≤ 8000000 := by omega
  rw [← hT]
  clear hS hT hA hz hSb
  go_enter Try.func70, Try.ntmps70
  go_wp2_with fail
  refine HCL.out.mono ?_
  rintro _ w1 ⟨v, rfl, hO, F1⟩
  obtain ⟨g, c, rfl, hg1, hg2, hR, hc1, hc2⟩ := row_ints hO rfl h1
  have HR1 : Hid (RowO w1 g 0 zs) := Lib.hid ⟨fun j hj => by rw [Nat.zero_add]; exact hR.1 j hj, hR.2⟩
  have HG1 := Lib.hid hg1
  have HG2 := Lib.hid hg2
  have HF1 := Lib.hid F1
  obtain ⟨n, hn⟩ : ∃ n, zs.length = n := ⟨_, rfl⟩
  have HNN := Lib.hid hn.symm
  rw [hn] at h1 h8 hN hc1 ⊢
  clear hO hR F1 hg1 hg2 HCL hn
  go_wp2_with fail
  go_loopw [3, 4] (fun qv lv wr => ∃ (l : List Int) (m o cc : Nat) (q : Int), qv = .int .i64 q ∧ lv = .slice (some ⟨g, o, none⟩) m cc ∧ (1 ≤ m ∧ m ≤ n ∧ m ≤ cc) ∧ (0 ≤ q ∧ q + 8000000 * (m : Int) ≤ 8000000 * (n : Int)) ∧ Hid (l.length = m) ∧ Hid (RowO wr g o l) ∧ Hid (Fut w wr) ∧ Hid (g < wr.heap.size) ∧ Hid ((∀ z ∈ l, 0 ≤ z) ∧ l.sum = S) ∧ Hid (q + Sv.huf m l = T)) (fun _ lv _ => lenS lv)
  case atStart => exact ⟨zs, n, 0, c, 0, rfl, rfl, ⟨h1, Nat.le_refl _, hc1⟩, ⟨by omega, by omega⟩, Lib.hid HNN.out.symm, HR1, HF1, HG2, Lib.hid ⟨HZ.out, HS.out⟩, Lib.hid (by rw [HT.out, Int.zero_add, ← HNN.out])⟩
  case round =>
    obtain ⟨l, m, o, cc, q, rfl, rfl, hm, hq, HL, HR, HF, HG, HZS, HQ⟩ := hrel
    by_cases hm1 : 1 < m
    · have hmx : (1 : Int) < m := by omega
      have hm0 : (0 : Int) < m := by omega
      have hm00 : 0 < m := by omega
      have HP := Lib.hid (Sv.srt_parts (l := l) (by rw [HL.out]; omega))
      have HSO := Lib.hid (sort_off g o cc l wr HR.out HG.out (by have := HL.out; omega))
      rw [HL.out] at HSO
      go_upto_region 5 with fail
      go_wp2_with fail
      refine HSO.out.mono ?_
      rintro _ w2 ⟨rfl, hR2, hB2, hs2⟩
      obtain ⟨x, y, r, e1, e2, e3, e4⟩ := HP.out
      rw [e1] at hR2
      have HR2 := Lib.hid hR2
      have HF2 : Hid (Fut w w2) := Lib.hid (HF.out.trans' (hB2 w.heap.size (by have := HG1.out; exact HG1.out)) (Nat.le_refl _))
      obtain ⟨k, hk⟩ : ∃ k, m = k + 1 := ⟨m - 1, by omega⟩
      have hlen : l.length = r.length + 2 := by have := e2.length_eq; simpa using this
      have hxy : 0 ≤ x ∧ 0 ≤ y ∧ (∀ z ∈ r, 0 ≤ z) ∧ x + y + r.sum = S := by
        refine ⟨HZS.out.1 x (e2.mem_iff.2 (by simp)), HZS.out.1 y (e2.mem_iff.2 (by simp)), fun z hz => HZS.out.1 z (e2.mem_iff.2 (by simp [hz])), ?_⟩
        have := sum_perm e2
        rw [HZS.out.2, List.sum_cons, List.sum_cons] at this
        omega
      have hr0 := sum_ge hxy.2.2.1
      obtain ⟨s, hs⟩ : ∃ s, y + x = s := ⟨_, rfl⟩
      have hsb : 0 ≤ s ∧ s ≤ 8000000 := by omega
      have HZ3 : Hid ((∀ z ∈ s :: r, 0 ≤ z) ∧ (s :: r).sum = S) := Lib.hid ⟨fun z hz => by
        rcases List.mem_cons.1 hz with rfl | hz
        · omega
        · exact hxy.2.2.1 z hz, by rw [List.sum_cons]; omega⟩
      have HQ3 : Hid (q + s + Sv.huf k (s :: r) = T) := Lib.hid (by
        rw [← HQ.out, hk, Sv.huf_step k e2 e3 e4, show x + y = s by omega]; omega)
      have HL3 : Hid ((s :: r).length = k) := Lib.hid (by rw [List.length_cons]; have := HL.out; omega)
      have HKK : Hid (m = k + 1) := Lib.hid hk
      have hwa : IntKind.i64.wrap (y + x) = s := by rw [hs]; exact IntWalk.i64_in _ ⟨by omega, by omega⟩
      have hwb : IntKind.i64.wrap (q + s) = q + s := IntWalk.i64_in _ ⟨by omega, by omega⟩
      have HS2 : Hid (g < w2.heap.size) := Lib.hid (Nat.lt_of_lt_of_le HG.out hs2)
      clear hB2 hs2 e1 e2 e3 e4 hR2 hlen hxy hr0 hs hk HP HSO HQ HZS HL HR HF HG
      have c0 := HR2.out.1 0 (by simp)
      have c1 := HR2.out.1 1 (by simp)
      have f1 := HR2.out.2 (o + 1)
      change w2.cell? ⟨g, o + 0, none⟩ = some (.int .i64 x) at c0
      change w2.cell? ⟨g, o + 1, none⟩ = some (.int .i64 y) at c1
      rw [Nat.add_zero] at c0
      go_upto_region 6 with fail
      go_still_tail 8, (by kernel_rfl)
      change wpList _ _ _ _ _ w2.drew
      have HRd : Hid (RowO w2.drew g o (x :: y :: r)) := Lib.hid (HR2.out.below (below_drewN (RowKit.Below.refl (g + 1) w2) 1) (Nat.lt_succ_self g))
      have HFd : Hid (Fut w w2.drew) := Lib.hid (HF2.out.trans (below_drewN Fut.rfl 1))
      have HGd : Hid (g < w2.drew.heap.size) := Lib.hid HS2.out
      generalize w2.drew = w3 at *
      clear c0 c1 f1 HR2 HF2 HS2
      have HR3 : Hid (RowO (w3.setCell ⟨g, o + 1, none⟩ (.int .i64 s)) g (o + 1) (s :: r)) := Lib.hid HRd.out.set1
      have HF3 : Hid (Fut w (w3.setCell ⟨g, o + 1, none⟩ (.int .i64 s))) := Lib.hid (RowKit.Below.setCell (p := ⟨g, o + 1, none⟩) HFd.out HG1.out _)
      have HG3 : Hid (g < (w3.setCell ⟨g, o + 1, none⟩ (.int .i64 s)).heap.size) := Lib.hid (by simp; exact HGd.out)
      have c0 := HRd.out.1 1 (by simp)
      have f1 := HRd.out.2 (o + 1)
      change w3.cell? ⟨g, o + 1, none⟩ = some (.int .i64 y) at c0
      go_wp2_with fail
      have hk := HKK.out
      obtain rfl : k = m - 1 := by omega
      exact ⟨⟨s :: r, m - 1, o + 1, cc - 1, q + s, rfl, rfl, by omega, by omega, HL3, HR3, HF3, HG3, HZ3, HQ3⟩, by simp only [lenS]; omega⟩
    · have hm1' : m = 1 := by omega
      subst hm1'
      have HE : Hid (q = T) := Lib.hid (by rw [← HQ.out, Sv.huf_one 1 HL.out, Int.add_zero])
      go_wp2_with fail
      go_ret
      exact ⟨by rw [HE.out]; rfl, HF.out⟩
def anyE (zs : List Int) : Int := if chkL zs = 0 then Sv.huf zs.length zs else 0
set_option maxRecDepth 100000 in
theorem any_any (a : Option Addr) (cap : Nat) (zs : List Int) (w : World) (hA : IntsAt w a zs) (hl : zs.length ≤ 1000) :
    Calls Try.prog 29 #[.slice a zs.length cap] w fun e w' => e = .returned (.tuple #[.int .i64 (anyE zs), .int .i64 (chkL zs)]) ∧ Fut w w' := by
  have HCK := Lib.hid (check_any a cap zs w hA hl)
  have HBC := Lib.hid (fun hc : chkL zs = 0 => inAny_any a cap zs w hA (chkL_zero hc).1 (chkL_zero hc).2.1 (fun z hz => by have := (chkL_zero hc).2.2 z hz; omega))
  have HLE : Hid (anyE zs = if chkL zs = 0 then Sv.huf zs.length zs else 0) := Lib.hid rfl
  generalize chkL zs = E at *
  generalize Sv.huf zs.length zs = V at *
  have hlx : (zs.length : Int) ≤ 1000 := by omega
  clear hA
  go_enter Try.func29, Try.ntmps29
  go_wp2_with fail
  refine HCK.out.mono ?_
  rintro _ _ ⟨rfl, rfl⟩
  by_cases hE : E = 0
  · have HB2 := Lib.hid (HBC.out hE)
    have HL2 : Hid (anyE zs = V) := Lib.hid (by rw [HLE.out, if_pos hE])
    subst hE
    go_wp2_with fail
    refine HB2.out.mono ?_
    rintro _ w1 ⟨rfl, F1⟩
    go_wp2_with fail
    go_ret2
    exact ⟨by rw [HL2.out]; rfl, F1⟩
  · have HL2 : Hid (anyE zs = 0) := Lib.hid (by rw [HLE.out, if_neg hE])
    go_wp2_with fail
    go_ret2
    exact ⟨by rw [HL2.out]; rfl, Fut.rfl⟩
end Go.Proofs.Ytjapconhehdcjaa
