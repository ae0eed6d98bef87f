/- all 50: it calls with every tree, in order (all_ok) -/
import Derived.Test.YtjapconhehdcjaaWC
import Derived.Deep.DeepCutAuto
import Derived.Deep.AppendLies
import Derived.Deep.CutBlock
namespace Go.Proofs.Ytjapconhehdcjaa
open Go.RowKit Go.Sort
def ptrI (w : World) (v : Value) : Int := match v with | .pointer (some p) => intOf ((w.cell? p).getD Go.undef) | _ => 0
theorem ptr_at {w : World} {kb : Nat} {x : Int} (h : w.cell? ⟨kb, 0, none⟩ = some (.int .i64 x)) : ptrI w (.pointer (some ⟨kb, 0, none⟩)) = x := by
  show intOf ((w.cell? ⟨kb, 0, none⟩).getD Go.undef) = x
  rw [h]; rfl
set_option maxRecDepth 100000 in
set_option maxHeartbeats 8000000 in
theorem all_succ (m : Nat) (ih : ∀ i, i ≤ m → AllOk i) : AllOk (m + 1) := by
  intro a b Z g cb P hab hb7 C W hZ hP
  obtain ⟨W1, hW1⟩ : ∃ V, V = W.alloc (.cells #[.int .i64 (b : Nat)] 3) := ⟨_, rfl⟩
  obtain ⟨W2, hW2⟩ : ∃ V, V = W1.alloc (.cells #[.func (.func g) #[] cb] 51) := ⟨_, rfl⟩
  have F1 : Fut W W1 := by rw [hW1]; exact Fut.alloc _ _
  have F2 : Fut W1 W2 := by rw [hW2]; exact Fut.alloc _ _
  have F := F1.trans F2
  have hZ1 : ∀ q, Z q → q < W1.heap.size := fun q hq => Nat.lt_of_lt_of_le (hZ q hq) (RowKit.Below.size F1)
  have hZ2 : ∀ q, Z q → q < W2.heap.size := fun q hq => Nat.lt_of_lt_of_le (hZ q hq) (RowKit.Below.size F)
  have es : W1.heap.size = W.heap.size + 1 := by rw [hW1, World.size_alloc]
  have he : CellZ Z W2 (W.heap.size + 1) (.func (.func g) #[] cb) := by
    have h := cellZ_new (Z := Z) W1 (.func (.func g) #[] cb) 51 hZ1
    rwa [← hW2, es] at h
  have hbb : CellZ Z W2 W.heap.size (.int .i64 (b : Nat)) := by
    have h := cellZ_new (Z := Z) W (.int .i64 (b : Nat)) 3 hZ
    rw [← hW1] at h
    exact h.fut F2
  have HCA : Hid (∀ i, i ≤ m → ∀ V kb, CellZ Z V kb (.int .i64 (a + i : Nat)) → But Z W2 V → P (Sv.preT m i) V → Calls Try.prog 50 #[.int .i64 (a : Nat), .int .i64 (a + i : Nat), .func (.func 87) #[] #[.pointer (some ⟨kb, 0, none⟩), .pointer (some ⟨W.heap.size, 0, none⟩), .pointer (some ⟨W.heap.size + 1, 0, none⟩)]] V fun e w' => e = .returned (.tuple #[]) ∧ But Z V w' ∧ P (Sv.preT m (i + 1)) w') := Lib.hid (fun i him V kb hk hB hPV => by
    have hZV : ∀ q, Z q → q < V.heap.size := fun q hq => Nat.lt_of_lt_of_le (hZ2 q hq) hB.size
    have hC1 : Cb Z 87 #[.pointer (some ⟨kb, 0, none⟩), .pointer (some ⟨W.heap.size, 0, none⟩), .pointer (some ⟨W.heap.size + 1, 0, none⟩)] a (Sv.trs i) (fun D U => But Z V U ∧ P (Sv.preT m i ++ Sv.midT m i D) U) := by
      refine ⟨eg87, fun D U U' h F' => ⟨h.1.trans (But.of_below F'), C.stay _ _ _ h.2 F'⟩, ?_⟩
      intro D l U la ln lc da dn dc hQ hZU hfx hlI hdI hln hdn hlc hdc
      refine (in87 (ih (m - i) (by omega)) him hab hb7 C hQ.2 hZU hfx (hk.but hQ.1) (hbb.but (hB.trans hQ.1)) (he.but (hB.trans hQ.1)) hlI hln hdI hdn).mono ?_
      rintro e U' ⟨rfl, b1, b2⟩
      exact ⟨rfl, b1, hQ.1.trans b1, b2⟩
    refine (ih i him a (a + i) Z 87 _ _ rfl (by omega) hC1 V hZV ⟨But.refl _ _, by rw [Sv.mid_nil, List.append_nil]; exact hPV⟩).mono ?_
    rintro e U ⟨rfl, b1, b2⟩
    exact ⟨rfl, b1, by rw [Sv.pre_succ]; exact b2.2⟩)
  have HBB := Lib.hid hbb
  have HE := Lib.hid he
  have HBU : Hid (But Z W W2) := Lib.hid (But.of_below F)
  have HP0 : Hid (P (Sv.preT m 0) W2) := Lib.hid (C.stay _ _ _ hP F)
  have HSY := Lib.hid C.stay
  have HEND := Lib.hid (Sv.pre_end m)
  have HZ := Lib.hid hZ2
  have hne : ¬ (a : Int) = (b : Int) := by omega
  have hneb : ((a : Int) == (b : Int)) = false := by simpa using hne
  have HAB := Lib.hid hab
  have ha7 : a ≤ 7 := by omega
  have hm7 : m ≤ 7 := by omega
  clear C hP hZ F1 F2 F hZ1 hZ2 es he hbb ih hab
  have HW : Hid (W2 = (W.alloc (.cells #[.int .i64 (b : Nat)] 3)).alloc (.cells #[.func (.func g) #[] cb] 51)) := Lib.hid (by rw [hW2, hW1])
  have HS2 : Hid (W2.heap.size = W.heap.size + 1 + 1) := Lib.hid (by rw [hW2, hW1, World.size_alloc, World.size_alloc])
  clear hW2 hW1 W1
  go_enter Try.func50, Try.ntmps50
  go_upto_block 0 with fail
  rw [← HW.out, ← HS2.out]
  clear HW HS2
  have HC0 : Hid (CellZ Z (W2.alloc (.cells #[.int .i64 (a : Nat)] 3)) W2.heap.size (.int .i64 (a + 0 : Nat))) := Lib.hid (cellZ_new W2 _ 3 HZ.out)
  have HF0 : Fut W2 (W2.alloc (.cells #[.int .i64 (a : Nat)] 3)) := Fut.alloc _ _
  have HB0 : Hid (But Z W2 (W2.alloc (.cells #[.int .i64 (a : Nat)] 3))) := Lib.hid (But.of_below HF0)
  have HQ0 : Hid (P (Sv.preT m 0) (W2.alloc (.cells #[.int .i64 (a : Nat)] 3))) := Lib.hid (HSY.out _ _ _ HP0.out HF0)
  clear HF0 HP0
  generalize W2.alloc (.cells #[.int .i64 (a : Nat)] 3) = W3 at *
  go_wp2_with fail
  go_loopw [6] (fun kv wr => ∃ (i kb : Nat), i ≤ m + 1 ∧ kv = .pointer (some ⟨kb, 0, none⟩) ∧ Hid (CellZ Z wr kb (.int .i64 (a + i : Nat))) ∧ Hid (But Z W2 wr) ∧ Hid (P (Sv.preT m i) wr)) (fun kv wr => b - (ptrI wr kv).toNat)
  case atStart => exact ⟨0, W2.heap.size, by omega, rfl, HC0, HB0, HQ0⟩
  case round =>
    clear HC0 HB0 HQ0
    obtain ⟨i, kb, hi, rfl, HC, HB, HQ⟩ := hrel
    have c0 := HC.out.2.2
    have c1 := (HBB.out.but HB.out).2.2
    have hmes : (ptrI wr (.pointer (some ⟨kb, 0, none⟩))) = ((a + i : Nat) : Int) := ptr_at c0
    by_cases him : i ≤ m
    · have hlt : ((a + i : Nat) : Int) < (b : Int) := by have := HAB.out; omega
      have hw : IntKind.i64.wrap (((a + i : Nat) : Int) + 1) = ((a + (i + 1) : Nat) : Int) := by rw [IntWalk.i64_in _ ⟨by omega, by omega⟩]; omega
      have HCX := Lib.hid (HCA.out i him wr kb HC.out HB.out HQ.out)
      have HM := Lib.hid (And.intro hmes (show a + (i + 1) ≤ b by have := HAB.out; omega))
      clear hmes
      obtain ⟨ai, hai⟩ : ∃ x, x = a + i := ⟨_, rfl⟩
      obtain ⟨aj, haj⟩ : ∃ x, x = a + (i + 1) := ⟨_, rfl⟩
      rw [← hai] at c0 hlt hw HCX HM HC
      rw [← haj] at hw HM
      have HAI := Lib.hid (And.intro hai haj)
      clear hai haj
      go_wp2_with fail
      refine HCX.out.mono ?_
      rintro _ w3 ⟨rfl, b1, b2⟩
      have c2 := (HC.out.but b1).2.2
      have HB3 := Lib.hid (HB.out.trans b1)
      have HQ3 := Lib.hid b2
      clear b1 b2 c0 c1 HCX
      go_wp2_with fail
      have hZ3 : ∀ q, Z q → q < w3.heap.size := fun q hq => Nat.lt_of_lt_of_le (HZ.out q hq) HB3.out.size
      have hN := cellZ_new (Z := Z) w3 (.int .i64 (aj : Nat)) 3 hZ3
      have hF : Fut w3 (w3.alloc (.cells #[.int .i64 (aj : Nat)] 3)) := Fut.alloc _ _
      refine ⟨⟨i + 1, w3.heap.size, by omega, rfl, Lib.hid (by rw [← HAI.out.2]; exact hN), Lib.hid (HB3.out.trans (But.of_below hF)), Lib.hid (HSY.out _ _ _ HQ3.out hF)⟩, ?_⟩
      have e1 := ptr_at hN.2.2
      have e2 := HM.out.1
      have e3 := HAI.out
      have e4 := HM.out.2
      rw [e1, e2]
      omega
    · obtain rfl : i = m + 1 := by omega
      rw [HEND.out] at HQ
      have hlt : ¬ ((a + (m + 1) : Nat) : Int) < (b : Int) := by have := HAB.out; omega
      clear hmes HCA
      obtain ⟨ai, hai⟩ : ∃ x, x = a + (m + 1) := ⟨_, rfl⟩
      rw [← hai] at c0 hlt
      clear hai
      go_wp2_with fail
      first | refine bodyPost_ret (results_none rfl _ _ _) rfl ?_ | refine bodyPost_end (results_none rfl _ _ _) rfl ?_
      exact ⟨rfl, HBU.out.trans HB.out, HQ.out⟩
theorem all_ok : ∀ m, AllOk m := fun m => by
  induction m using Nat.strongRecOn with
  | ind m ih =>
    cases m with
    | zero => exact all_zero
    | succ m => exact all_succ m fun i hi => ih i (by omega)
end Go.Proofs.Ytjapconhehdcjaa
