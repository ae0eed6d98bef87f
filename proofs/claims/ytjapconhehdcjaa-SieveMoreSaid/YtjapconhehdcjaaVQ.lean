/- slices.Repeat 60 of a list of one; bits.Mul -/
import Derived.Test.YtjapconhehdcjaaVM
import Derived.Shelf.Bits.Mul64
import Derived.Laws.CopyOwn
import Derived.Deep.DeepCutAuto
import Derived.Deep.RegionLaw
namespace Go.Proofs.Ytjapconhehdcjaa
open Go.RowKit Go.Sort
def r212 : Go.Shelf.Ren := ⟨fun | 212 => 90 | 263 => 114 | 264 => 115 | n => n, fun | 46 => 99 | 51 => 128 | 53 => 130 | 146 => 131 | 148 => 133 | n => n, fun n => n⟩
open Go.Shelf in
theorem lay212 : Lays.n212 Try.prog r212 :=
  { mixed := (by kernel_rfl)
    f212 := Try.func90.trans (congrArg some (by kernel_rfl))
    f263 := Try.func114.trans (congrArg some (by kernel_rfl))
    f264 := Try.func115.trans (congrArg some (by kernel_rfl))
    t46 := Try.underlying99
    a46 := Try.isAgg99
    z46 := Try.sizeOf99
    v46 := Try.zeroValue99
    t51 := Try.underlying128
    a51 := Try.isAgg128
    z51 := Try.sizeOf128
    v51 := Try.zeroValue128
    t53 := Try.underlying130
    a53 := Try.isAgg130
    z53 := Try.sizeOf130
    v53 := Try.zeroValue130
    t146 := Try.underlying131
    a146 := Try.isAgg131
    z146 := Try.sizeOf131
    v146 := Try.zeroValue131
    t148 := Try.underlying133
    a148 := Try.isAgg133
    z148 := Try.sizeOf133
    v148 := Try.zeroValue133 }
theorem mul_call (n : Nat) (h : n ≤ 1000) (w : World) : Calls Try.prog 90 #[.int .u64 (1 : Nat), .int .u64 (n : Nat)] w fun e w' => e = .returned (.tuple #[.int .u64 0, .int .u64 (n : Nat)]) ∧ w = w' := by
  have := Any.bits_Mul lay212 1 n (by omega) (by omega) w
  rw [Nat.one_mul, Nat.div_eq_of_lt (by omega), Nat.mod_eq_of_lt (by omega)] at this
  exact this.mono fun _ _ ⟨a, b⟩ => ⟨a, b.symm⟩
theorem rep_splice (z : Int) (n m : Nat) (_h : m ≤ n) : splice ((List.replicate m z ++ List.replicate (n - m) 0).map (Value.int .i64)) m ((List.replicate (min m (n - m)) z).map (Value.int .i64)) = (List.replicate (m + min m (n - m)) z ++ List.replicate (n - (m + min m (n - m))) 0).map (Value.int .i64) := by
  unfold splice
  simp only [List.map_append, List.map_replicate, List.length_replicate]
  rw [List.take_left' (by simp), ← List.drop_drop, List.drop_left' (by simp), List.drop_replicate, ← List.append_assoc, List.replicate_append_replicate, Nat.sub_sub]
theorem made_list (n : Nat) : madeCells #[Value.int .i64 0] n = (List.replicate n (Value.int .i64 0)).toArray := by
  apply Array.ext'
  apply List.ext_getElem
  · simp [madeCells]
  · intro j h1 h2; simp [madeCells, Nat.mod_one]
theorem heap_row {w : World} {g : Nat} {L : List Int} (h : w.heap[g]? = some (.cells (L.map (Value.int .i64)).toArray 3 (0, 0))) : RowN w g L := by
  refine ⟨fun j hj => ?_, fun j => ?_⟩
  · simp [World.cell?, h, nth_eq, List.getElem?_eq_getElem hj]
  · simp [World.frozen?, h]
theorem heap_lt {w : World} {g : Nat} {L : Array Value} (h : w.heap[g]? = some (.cells L 3 (0, 0))) : g < w.heap.size := (Array.getElem?_eq_some_iff.1 h).1
set_option maxRecDepth 100000 in
set_option maxHeartbeats 4000000 in
theorem repeat_one (n c : Nat) (z : Int) (h1 : 1 ≤ n) (h8 : n ≤ 1000) (b o : Nat) (w : World) (hI : IntsAt w (some ⟨b, o, none⟩) [z]) : Calls Try.prog 60 #[.slice (some ⟨b, o, none⟩) 1 c, .int .i64 (n : Nat)] w fun e w' => ∃ g, e = .returned (.slice (some ⟨g, 0, none⟩) n n) ∧ w.heap.size ≤ g ∧ g < w'.heap.size ∧ RowN w' g (List.replicate n z) ∧ Fut w w' := by
  have HMU := Lib.hid (fun W => mul_call n h8 W)
  have n0 : ¬ (n : Int) < 0 := by omega
  have n1 : ¬ (9223372036854775807 : Int) < (n : Int) := by omega
  have n2 : IntKind.u64.wrap (n : Int) = (n : Int) := by rw [IntKind.wrap_u64]; omega
  have n3 : IntKind.i64.wrap (n : Int) = (n : Int) := IntWalk.i64_in _ ⟨by omega, by omega⟩
  have hmk := fun W => mk_row n h8 W
  have n4 : IntKind.u64.wrap (1 : Int) = ((1 : Nat) : Int) := by decide
  have hI2 : IntsAt (w.alloc (.cells (madeCells #[Value.int .i64 0] n) 3)) (some ⟨b, o, none⟩) [z] := hI.fut (Fut.alloc _ _)
  have hH : (w.alloc (.cells (madeCells #[Value.int .i64 0] n) 3)).heap[w.heap.size]? = some (.cells (List.replicate n (Value.int .i64 0)).toArray 3 (0, 0)) := by
    rw [World.alloc_heap_new, made_list]
  have HF : Hid (Fut w (w.alloc (.cells (madeCells #[Value.int .i64 0] n) 3))) := Lib.hid (Fut.alloc _ _)
  have HH := Lib.hid hH
  have HC : Hid (∀ (j : Nat) (v : Value), [Value.int .i64 z][j]? = some v → (w.alloc (.cells (madeCells #[Value.int .i64 0] n) 3)).cell? ((⟨b, o, none⟩ : Addr).add j) = some v) := Lib.hid fun j v hj => by
    obtain ⟨b9, o9, e9, _, c9⟩ := hI2 0 (by simp)
    simp only [Option.some.injEq, Addr.mk.injEq, and_true] at e9
    obtain ⟨rfl, rfl⟩ := e9
    cases j with
    | zero => simp at hj; subst hj; exact c9
    | succ j => simp at hj
  have HI := Lib.hid hI2
  clear hI hI2 hH
  go_enter Try.func60, Try.ntmps60
  go_wp2_with (first
    | (go_at_call 90; refine (HMU.out w).mono ?_; rintro _ _ ⟨rfl, rfl⟩)
    | (with_reducible refine wpList_copy_splice (o := ⟨some 33, _, _, _, _, _⟩) ?g1 (.tmp 31) (.tmp 32) 22 22 ?g2 3 ?g3 ?g4 (some ⟨w.heap.size, 0, none⟩) (some ⟨b, o, none⟩) n n 1 c ?g5 ?g6 w.heap.size 0 (List.replicate n (Value.int .i64 0)) 3 ?g7 [Value.int .i64 z] ?g8 ?g9 ?g10 ?g11 w.heap.size w ?g12 ?g13 ?g14
       case g1 => rfl
       case g2 => rfl
       case g3 => exact Try.underlying22
       case g4 => kernel_rfl
       case g5 => rfl
       case g6 => rfl
       case g7 => exact HH.out
       case g8 => show 1 = min 1 n; omega
       case g9 => exact (fun _ => ⟨rfl, ⟨b, o, none⟩, rfl, HC.out⟩)
       case g10 => simp; omega
       case g11 => simp [Value.oneCell']
       case g12 => exact HF.out
       case g13 => exact Nat.le_refl _
       intro w7 hh7 hB7))
  have HL0 : Hid (w7.heap[w.heap.size]? = some (.cells ((List.replicate 1 z ++ List.replicate (n - 1) 0).map (Value.int .i64)).toArray 3 (0, 0))) := Lib.hid (by
    have e : splice (List.replicate n (Value.int .i64 0)) 0 [Value.int .i64 z] = (List.replicate 1 z ++ List.replicate (n - 1) 0).map (Value.int .i64) := by
      unfold splice; simp
    rw [hh7.out, e])
  have HB0 : Hid (RowKit.Below w.heap.size w w7) := Lib.hid hB7
  clear hh7 hB7 hmk HI HC HH HF n2 n3 n4 n0 n1 HMU
  go_loopw [8] (fun mv wr => ∃ (m : Nat), 1 ≤ m ∧ m ≤ n ∧ mv = .int .i64 (m : Nat) ∧ Hid (wr.heap[w.heap.size]? = some (.cells ((List.replicate m z ++ List.replicate (n - m) 0).map (Value.int .i64)).toArray 3 (0, 0))) ∧ Hid (RowKit.Below w.heap.size w wr)) (fun mv _ => n - (intOf mv).toNat)
  case atStart => exact ⟨1, by omega, h1, rfl, HL0, HB0⟩
  case round =>
    clear HL0 HB0
    obtain ⟨m, hm1, hmn, rfl, HL, HB⟩ := hrel
    by_cases hml : m < n
    · have hmx : (m : Int) < n := by omega
      obtain ⟨q, hq⟩ : ∃ q, min m (n - m) = q := ⟨_, rfl⟩
      have hq2 : 1 ≤ q ∧ q ≤ n - m ∧ q ≤ m := by omega
      have HL2 := Lib.hid (rep_splice z n m)
      have hw : IntKind.i64.wrap ((m : Int) + (q : Nat)) = ((m + q : Nat) : Int) := by rw [IntWalk.i64_in _ ⟨by omega, by omega⟩]; omega
      have HRW := Lib.hid (heap_row HL.out)
      rw [hq] at HL2
      have hmn0 : m ≤ n := hmn
      go_upto_region 9 with fail
      go_region_law  (with_reducible refine step_copy_splice ?k1 (.tmp 41) (.tmp 44) 22 22 ?k2 3 ?k3 ?k4 (if n = m then some ⟨w.heap.size, 0, none⟩ else some ⟨w.heap.size, m, none⟩) (some ⟨w.heap.size, 0, none⟩) (n - m) (n - m) m n ?k5 ?k6 w.heap.size m ((List.replicate m z ++ List.replicate (n - m) 0).map (Value.int .i64)) 3 ?k7 ((List.replicate q z).map (Value.int .i64)) ?k8 ?k9 ?k10 ?k11 w.heap.size w ?k12 ?k13 ?k14
                      case k1 => rfl
                      case k2 => rfl
                      case k3 => exact Try.underlying22
                      case k4 => kernel_rfl
                      case k5 => kernel_rfl
                      case k6 => kernel_rfl
                      case k7 => exact HL.out
                      case k8 => rw [List.length_map, List.length_replicate, ← hq]
                      case k9 => exact (fun _ => ⟨if_neg (by omega), _, rfl, fun j v hj => by
                        have hjq : j < q := by simpa using (List.getElem?_eq_some_iff.1 hj).1
                        have : wr.drew.cell? ⟨w.heap.size, j, none⟩ = _ := HRW.out.1 j (by simp; omega)
                        rw [Addr.add_lit, Nat.zero_add, this, ← hj, nth_eq, List.getElem?_append_left (by simp; omega)]
                        simp [hjq, show j < m by omega]⟩)
                      case k10 => (simp; try omega)
                      case k11 => intro u hu; obtain ⟨z, _, rfl⟩ := List.mem_map.1 hu; rfl
                      case k12 => exact below_drewN HB.out 1
                      case k13 => exact Nat.le_refl _
                      intro w4 hg4 hb4)
      have HL4 : Hid (w4.heap[w.heap.size]? = some (.cells ((List.replicate (m + q) z ++ List.replicate (n - (m + q)) 0).map (Value.int .i64)).toArray 3 (0, 0))) := Lib.hid (by rw [← HL2.out hmn0]; exact hg4.out)
      have HB4 := Lib.hid hb4
      clear hg4 hb4
      have hlen : (List.map (Value.int .i64) (List.replicate q z)).length = q := by simp
      go_wp2
      go_roundw
      case rel => exact ⟨m + q, by omega, by omega, by omega, Lib.hid (by simpa using HL4.out)⟩
      case measure => simp [intOf]; omega
    · obtain rfl : m = n := by omega
      go_wp2_with fail
      go_ret
      have e : List.replicate m z ++ List.replicate (m - m) 0 = List.replicate m z := by simp
      have h := HL.out
      rw [e] at h
      exact ⟨_, rfl, Nat.le_refl _, heap_lt h, heap_row h, HB.out⟩
end Go.Proofs.Ytjapconhehdcjaa
