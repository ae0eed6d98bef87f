/- Layer 2: the numbers of a set. -/
import Derived.Test.YtimddkofcejijaaRE
namespace Go.Proofs.Ytimddkofcejijaa
open Go.RowKit Go.Sort
def preM (s k : Nat) : List Int := ((List.range k).filter fun i => s.testBit i).map fun (i : Nat) => (i : Int)
/-- the numbers of a set. -/
def listM (s : Nat) : List Int := preM s 16
theorem preM_succ (s k : Nat) : preM s (k + 1) = preM s k ++ (if s.testBit k then [(k : Int)] else []) := by
  unfold preM
  rw [List.range_succ, List.filter_append, List.map_append]
  congr 1
  cases h : s.testBit k <;> simp [h]
theorem preM_out (s L : Nat) (h : ∀ i, L ≤ i → s.testBit i = false) : ∀ d, preM s (L + d) = preM s L
  | 0 => rfl
  | d + 1 => by rw [← Nat.add_assoc, preM_succ, h (L + d) (by omega), preM_out s L h d]; simp
theorem preM_len (s k : Nat) : (preM s k).length ≤ k := by
  unfold preM
  rw [List.length_map]
  exact Nat.le_trans (List.length_filter_le _ _) (by rw [List.length_range]; exact Nat.le_refl _)
theorem info3 : (Try.prog.info? 3).map (fun i => (i.zero, i.size, i.bytes)) = some (some (.int .i64 0), 1, 8) := by kernel_rfl
theorem info_parts {t : TypeId} {z : Option Value} {s b : Nat} (h : (Try.prog.info? t).map (fun i => (i.zero, i.size, i.bytes)) = some (z, s, b)) :
    ∃ i, Try.prog.info? t = some i ∧ i.zero = z ∧ i.size = s ∧ i.bytes = b := by
  cases hi : Try.prog.info? t with
  | none => rw [hi] at h; simp at h
  | some i =>
    rw [hi] at h; simp at h
    exact ⟨i, rfl, h.1, h.2.1, h.2.2⟩
theorem add0 (g j : Nat) : (⟨g, 0, none⟩ : Addr).add j = ⟨g, j, none⟩ := by unfold Addr.add; split <;> simp_all
set_option maxRecDepth 100000 in
set_option maxHeartbeats 2000000 in
theorem list_any' (s : Nat) (w : World) (hs : s < 65536) : Calls Try.prog 56 #[sv s] w fun e w' => ∃ v, e = .returned v ∧ Owns w' w.heap.size v (listM s) ∧ Fut w w' := by
  obtain ⟨i0, hi, hz0, hz1, hz2⟩ := info_parts info3
  have HL := Lib.hid (fun w => len_any s w hs)
  have HO : Hid (preM s (Lib.bitLen s) = listM s) := Lib.hid (by
    have h16 := bitLen16 s hs
    have := preM_out s (Lib.bitLen s) (fun i hi => bit_out s i hs hi) (16 - Lib.bitLen s)
    rw [show Lib.bitLen s + (16 - Lib.bitLen s) = 16 by omega] at this
    exact this.symm)
  have h16 := bitLen16 s hs
  generalize Lib.bitLen s = L at *
  have hlx : (L : Int) ≤ 16 := by omega
  go_enter Try.func56, Try.ntmps56
  go_wp2_with fail
  refine (HL.out _).mono ?_
  rintro _ _ ⟨rfl, rfl⟩
  go_wp2_with fail
  go_loopw [3, 7] (fun v iv wr => ∃ k : Nat, k ≤ L ∧ iv = .int .i64 k ∧ Hid (wr.ownsRow w.heap.size 3 1 v (preM s k).length ((preM s k).map (Value.int .i64))) ∧ Hid (Fut w wr)) (fun _ iv _ => L - (intOf iv).toNat)
  case atStart => exact ⟨0, Nat.zero_le _, rfl, Lib.hid (World.ownsRow_nil _ _ _ _), Lib.hid Fut.rfl⟩
  case round =>
    obtain ⟨k, hk, rfl, HOW, HF⟩ := hrel
    by_cases hlt : k < L
    · have hkx : (k : Int) < L := by omega
      have HH := Lib.hid (has_any s k wr hs (by omega))
      have HS := Lib.hid (preM_succ s k)
      have hpl := preM_len s k
      cases ht : s.testBit k
      · rw [ht] at HH HS
        simp only [Bool.false_eq_true, if_false, List.append_nil] at HS
        rw [← HS.out] at HOW
        clear ht HS hpl
        go_wp2_with fail
        refine HH.out.mono ?_
        rintro _ _ ⟨rfl, rfl⟩
        go_wp2
        go_roundw
        case rel => exact ⟨k + 1, by omega, by go_num, HOW, HF⟩
        case measure => simp [intOf]; omega
      · rw [ht] at HH HS
        simp only [if_true] at HS
        have HSD := HS
        obtain ⟨pn, hpn⟩ : ∃ pn, preM s (k + 1) = pn := ⟨_, rfl⟩
        rw [hpn] at HS
        have HPN := Lib.hid hpn
        clear hpn HSD ht
        generalize preM s k = pk at *
        go_wp2_with fail
        refine HH.out.mono ?_
        rintro _ _ ⟨rfl, rfl⟩
        go_wp2_with (at_builtin; refine wpList_append_own _ rfl _ _ 25 rfl w.heap.size 3 i0 (.int .i64 0) 1 8 Try.underlying25 hi hz0 hz1 hz2 rfl (by decide) _ _ _ rfl (HOW.out.alloc _) ⟨wr.heap.size, 0, none⟩ 1 1 [.int .i64 (k : Int)] rfl rfl ?c1 ?c2 ?c3 ?c4 ?c5 ?_)
        case c1 => exact World.news_of_block (cs := #[.int .i64 (k : Int)]) (t := 3) (fr := (0, 0)) (heap_alloc_new _ _)
        case c2 => intro u hu; simp at hu; subst hu; rfl
        case c3 => unfold maxLen; omega
        case c4 => omega
        case c5 => have := RowKit.Below.size HF.out; simp; omega
        · intro v' w1 hown' hgrow _
          have HOW' : Hid (w1.ownsRow w.heap.size 3 1 v' pn.length (pn.map (Value.int .i64))) := Lib.hid (by rw [HS.out]; simpa using hown')
          have HF' : Hid (Fut w w1) := Lib.hid ((RowKit.Below.alloc HF.out (RowKit.Below.size HF.out) _).grown hgrow (by have := RowKit.Below.size HF.out; simp; omega) (fun i hi => by have := (HOW.out.lt i hi).1; omega))
          clear hown' hgrow
          go_wp2
          go_roundw
          case rel => exact ⟨k + 1, by omega, by go_num, by rw [HPN.out]; exact HOW', HF'⟩
          case measure => simp [intOf]; omega
    · obtain rfl : k = L := by omega
      have HX : Hid (Owns wr w.heap.size u3 (listM s)) := Lib.hid (by rw [← HO.out]; exact HOW.out)
      clear HOW
      go_wp2
      go_ret
      exact ⟨_, rfl, HX.out, HF.out⟩
end Go.Proofs.Ytimddkofcejijaa
