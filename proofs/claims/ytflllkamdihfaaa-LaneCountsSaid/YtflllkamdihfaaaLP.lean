/- firstMeeting: firstMeeting_any -/
import Derived.Test.YtflllkamdihfaaaLN
import Derived.Laws.ResultCell
namespace Go.Proofs.Ytflllkamdihfaaa
open Go.RowKit Go.Sort
/-- the first other way that has a corner. -/
def fm3 (F : List (List Int)) (i : Nat) (x : Int) : Nat → Nat → Option (Nat × Nat × Int)
  | 0, _ => none
  | f + 1, j => if j ≠ i ∧ (lth F j).contains x = true then some (i, j, x) else fm3 F i x f (j + 1)
def fm2 (F : List (List Int)) (i : Nat) : List Int → Option (Nat × Nat × Int)
  | [] => none
  | x :: t => match fm3 F i x F.length 0 with
    | some r => some r
    | none => fm2 F i t
def fm1 (F : List (List Int)) : Nat → Nat → Option (Nat × Nat × Int)
  | 0, _ => none
  | f + 1, i => match fm2 F i (lth F i) with
    | some r => some r
    | none => fm1 F f (i + 1)
/-- the first meeting. -/
def fmE (F : List (List Int)) : Option (Nat × Nat × Int) := fm1 F F.length 0
def fmV : Option (Nat × Nat × Int) → Value
  | some (i, j, x) => .tuple #[.agg #[.int .i64 (i : Int), .int .i64 (j : Int), .int .i64 x], .bool true]
  | none => .tuple #[.agg #[.int .i64 0, .int .i64 0, .int .i64 0], .bool false]
theorem res90 {tmps : Array Value} {w : World} {cs : Array Value} {b : Bool} (h2 : tmps.getD 2 undef = .pointer (some ⟨w.heap.size, 0, none⟩)) (h3 : tmps.getD 3 undef = .bool b) (hc : cs.size = 3) :
    (results Try.f90 tmps).run Try.prog (w.alloc (.cells cs 112)) = .ok (.tuple #[.agg cs, .bool b]) (w.alloc (.cells cs 112)) := by
  rw [results_cell_tmp rfl, h2, h3]
  have hr := run_loadVar_row (P := Try.prog) (w.alloc (.cells cs 112)) w.heap.size 112 112 cs (0, 0) _ (World.alloc_heap_new _ _) Try.underlying112 rfl (by rw [hc]; kernel_rfl)
  simp [asAddr, hr, Result.andThen]
set_option maxRecDepth 100000 in
set_option maxHeartbeats 4000000 in
theorem firstMeeting_any (fa : Option Addr) (fc : Nat) (F : List (List Int)) (w : World) (hF : LstAt w fa F) (hFl : F.length ≤ 1000) (hFk : ∀ k, k < F.length → (lth F k).length ≤ 1000) :
    Calls Try.prog 90 #[.slice fa F.length fc] w fun e w' => e = .returned (fmV (fmE F)) ∧ Fut w w' := by
  have HFA := Lib.hid hF
  have HFK := Lib.hid hFk
  have hfx : (F.length : Int) ≤ 1000 := by omega
  obtain ⟨E, hE⟩ : ∃ E, E = fm1 F F.length 0 := ⟨_, rfl⟩
  unfold fmE
  rw [← hE]
  have HE := Lib.hid hE
  clear hE hF hFk
  go_enter Try.func90, Try.ntmps90
  go_wp2_with fail
  have HLW : Hid (LstAt (w.alloc (.cells #[.int .i64 0, .int .i64 0, .int .i64 0] 112)) fa F) := Lib.hid (HFA.out.fut (Fut.alloc _ _))
  have HFW : Hid (Fut w (w.alloc (.cells #[.int .i64 0, .int .i64 0, .int .i64 0] 112))) := Lib.hid (Fut.alloc _ _)
  go_loopw [12] (fun iv wr => ∃ i : Nat, i ≤ F.length ∧ iv = .int .i64 i ∧ Hid (E = fm1 F (F.length - i) i) ∧ wr = (w.alloc (.cells #[.int .i64 0, .int .i64 0, .int .i64 0] 112))) (fun iv _ => F.length - (intOf iv).toNat)
  case atStart => exact ⟨0, Nat.zero_le _, rfl, HE, rfl⟩
  case round =>
    obtain ⟨i, hi, rfl, HG, rfl⟩ := hrel
    by_cases hil : i < F.length
    · have hix : (i : Int) < F.length := by omega
      have hg := HG.out
      obtain ⟨n, hn⟩ : ∃ n, F.length - i = n + 1 := ⟨F.length - i - 1, by omega⟩
      rw [hn, fm1] at hg
      have hni : F.length - (i + 1) = n := by omega
      obtain ⟨fb, fo, wl, wlc, rfl, _, d1, hI⟩ := HLW.out i hil
      have HI := Lib.hid hI
      have hwl := HFK.out i hil
      generalize hway : lth F i = way at *
      have hwx : (way.length : Int) ≤ 1000 := by omega
      have HGM := Lib.hid hg
      have HNI := Lib.hid hni
      clear hI hg hway hn hni HG
      go_wp2_with fail
      clear d1
      go_loopw [19] (fun kv wr => ∃ k : Nat, k ≤ way.length ∧ kv = .int .i64 k ∧ Hid (fm2 F i way = fm2 F i (way.drop k)) ∧ wr = (w.alloc (.cells #[.int .i64 0, .int .i64 0, .int .i64 0] 112))) (fun kv _ => way.length - (intOf kv).toNat)
      case atStart => exact ⟨0, Nat.zero_le _, rfl, Lib.hid rfl, rfl⟩
      case round =>
        obtain ⟨k, hk, rfl, HK, rfl⟩ := hrel
        by_cases hkl : k < way.length
        · have hkx : (k : Int) < way.length := by omega
          have hkk := HK.out
          rw [nth_drop way k hkl, fm2] at hkk
          obtain ⟨wb, wo, rfl, _, e1⟩ := HI.out k hkl
          generalize nth way k = x at *
          have HKK := Lib.hid hkk
          have HF3 : Hid (fm3 F i x F.length 0 = fm3 F i x (F.length - 0) 0) := Lib.hid rfl
          clear hkk HK
          go_wp2_with fail
          clear e1
          go_loopw [25] (fun jv wr => ∃ j : Nat, j ≤ F.length ∧ jv = .int .i64 j ∧ Hid (fm3 F i x F.length 0 = fm3 F i x (F.length - j) j) ∧ wr = (w.alloc (.cells #[.int .i64 0, .int .i64 0, .int .i64 0] 112))) (fun jv _ => F.length - (intOf jv).toNat)
          case atStart => exact ⟨0, Nat.zero_le _, rfl, HF3, rfl⟩
          case round =>
            obtain ⟨j, hj, rfl, HJ, rfl⟩ := hrel
            by_cases hjl : j < F.length
            · have hjx : (j : Int) < F.length := by omega
              have hjj := HJ.out
              obtain ⟨n2, hn2⟩ : ∃ n2, F.length - j = n2 + 1 := ⟨F.length - j - 1, by omega⟩
              rw [hn2, fm3] at hjj
              have hnj : F.length - (j + 1) = n2 := by omega
              obtain ⟨fb2, fo2, jl, jlc, ee, _, d2, hIj⟩ := HLW.out j hjl
              simp only [Option.some.injEq, Addr.mk.injEq, and_true] at ee
              obtain ⟨rfl, rfl⟩ := ee
              have HCT := Lib.hid (contains_any jl jlc (lth F j) x _ hIj (HFK.out j hjl))
              generalize (lth F j).contains x = bc at *
              clear hIj HF3 HJ
              by_cases hji : j = i
              · rw [if_neg (fun q => q.1 hji)] at hjj
                have HJ2 : Hid (fm3 F i x F.length 0 = fm3 F i x (F.length - (j + 1)) (j + 1)) := Lib.hid (by rw [hnj]; exact hjj)
                clear hjj hn2 hnj HCT
                subst hji
                go_wp2_with fail
                go_roundw
                case rel => first | exact ⟨j + 1, by omega, by go_num, HJ2, by first | rfl | trivial⟩ | ((repeat apply Exists.intro); exact ⟨⟨j + 1, by omega, by go_num, HJ2, by first | rfl | trivial⟩, rfl⟩)
                case measure => simp [intOf]; omega
              · have hjn : ((j : Int) != (i : Int)) = true := by rw [bne_iff_ne]; omega
                cases bc
                · rw [if_neg (fun q => by cases q.2)] at hjj
                  have HJ2 : Hid (fm3 F i x F.length 0 = fm3 F i x (F.length - (j + 1)) (j + 1)) := Lib.hid (by rw [hnj]; exact hjj)
                  clear hjj hn2 hnj
                  go_wp2_with fail
                  refine HCT.out.mono ?_
                  rintro _ _ ⟨rfl, rfl⟩
                  go_wp2_with fail
                  clear hjn
                  go_roundw
                  case rel => first | exact ⟨j + 1, by omega, by go_num, HJ2, by first | rfl | trivial⟩ | ((repeat apply Exists.intro); exact ⟨⟨j + 1, by omega, by go_num, HJ2, by first | rfl | trivial⟩, rfl⟩)
                  case measure => simp [intOf]; omega
                · rw [if_pos ⟨hji, rfl⟩] at hjj
                  have HEE : Hid (E = some (i, j, x)) := Lib.hid (by
                    rw [HGM.out, HKK.out, hjj])
                  clear hjj hn2 hnj
                  go_wp2_with fail
                  refine HCT.out.mono ?_
                  rintro _ _ ⟨rfl, rfl⟩
                  go_wp2_with fail
                  (try simp only [Exit.inBlock, Exit.then])
                  refine bodyPost_ret (res90 rfl rfl rfl) rfl ?_
                  exact ⟨by rw [HEE.out]; rfl, Fut.alloc _ _⟩
            · obtain rfl : F.length = j := by omega
              have hjj := HJ.out
              rw [Nat.sub_self, fm3] at hjj
              have HK2 : Hid (fm2 F i way = fm2 F i (way.drop (k + 1))) := Lib.hid (by rw [HKK.out, hjj])
              clear hjj
              go_wp2_with fail
              go_roundw
              case rel => first | exact ⟨k + 1, by omega, by go_num, HK2, by first | rfl | trivial⟩ | ((repeat apply Exists.intro); exact ⟨⟨k + 1, by omega, by go_num, HK2, by first | rfl | trivial⟩, rfl⟩)
              case measure => simp [intOf]; omega
        · obtain rfl : way.length = k := by omega
          have hkk := HK.out
          rw [List.drop_length, fm2] at hkk
          have HG2 : Hid (E = fm1 F (F.length - (i + 1)) (i + 1)) := Lib.hid (by rw [HGM.out, hkk, HNI.out])
          clear hkk
          go_wp2_with fail
          go_roundw
          case rel => first | exact ⟨i + 1, by omega, by go_num, HG2, by first | rfl | trivial⟩ | ((repeat apply Exists.intro); exact ⟨⟨i + 1, by omega, by go_num, HG2, by first | rfl | trivial⟩, rfl⟩)
          case measure => simp [intOf]; omega
    · obtain rfl : F.length = i := by omega
      have hg := HG.out
      rw [Nat.sub_self, fm1] at hg
      subst hg
      go_wp2_with fail
      (try simp only [Exit.inBlock, Exit.then])
      refine bodyPost_ret (res90 rfl rfl rfl) rfl ?_
      exact ⟨rfl, Fut.alloc _ _⟩
end Go.Proofs.Ytflllkamdihfaaa
