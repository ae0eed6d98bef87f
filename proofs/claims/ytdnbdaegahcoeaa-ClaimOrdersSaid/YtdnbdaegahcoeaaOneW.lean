/- Layer 1: the first two houses that are not at one. -/
import Derived.Test.YtdnbdaegahcoeaaSpreadA
import Derived.Test.YtdnbdaegahcoeaaGarmA
namespace Go.Proofs.Ytdnbdaegahcoeaa
open Go.RowKit Go.Sort
theorem gar_any (x a b : Int) (w : World) (ha : 0 ≤ a ∧ a ≤ 10000000) (hb : 0 ≤ b ∧ b ≤ 10000000) (hx : 0 ≤ x ∧ x ≤ 10000000) :
    Calls Try.prog 42 #[.int .i64 x, .int .i64 a, .int .i64 b] w fun e w' => e = .returned (.int .i64 (garF x a b)) ∧ w = w' := by
  unfold garF
  go_enter Try.func42, Try.ntmps42
  go_wp2
  all_goals
    go_ret
    exact ⟨ret_int (by omega), rfl⟩
/-- the pairs from (i, j) on. -/
def restP (n i j : Nat) : List (Nat × Nat) := (List.range' j (n - j)).map (fun j => (i, j)) ++ rowsF n (n - i - 1)
theorem rest_row (n i : Nat) (h : i < n) : rowsF n (n - i) = restP n i (i + 1) := by
  unfold restP
  obtain ⟨m, hm⟩ : ∃ m, n - i = m + 1 := ⟨n - i - 1, by omega⟩
  rw [hm, rowsF, show n - m - 1 = i by omega, show n - m = i + 1 by omega, show n - (i + 1) = m by omega, show m + 1 - 1 = m by omega]
theorem rest_cons (n i j : Nat) (h : j < n) : restP n i j = (i, j) :: restP n i (j + 1) := by
  unfold restP
  obtain ⟨m, hm⟩ : ∃ m, n - j = m + 1 := ⟨n - j - 1, by omega⟩
  rw [hm, List.range'_succ, show n - (j + 1) = m by omega]; rfl
theorem rest_end (n i j : Nat) (h : n ≤ j) : restP n i j = rowsF n (n - i - 1) := by
  unfold restP; rw [show n - j = 0 by omega]; rfl
def oneV : Option (Nat × Nat) → Value
  | some p => .tuple #[.int .i64 (p.1 : Int), .int .i64 (p.2 : Int), .bool true]
  | none => .tuple #[.int .i64 0, .int .i64 0, .bool false]
/-- the first of some pairs that is not at one. -/
def fnd (zs gs : List Int) (l : List (Nat × Nat)) : Option (Nat × Nat) := l.find? fun p => !oneB zs gs p.1 p.2
theorem fnd_why (zs gs : List Int) : whyL zs gs = fnd zs gs (rowsF zs.length zs.length) := by
  unfold whyL fnd; simp only [atB_one]
theorem fnd_yes (zs gs : List Int) (i j : Nat) (l : List (Nat × Nat)) (h : oneB zs gs i j = true) : fnd zs gs ((i, j) :: l) = fnd zs gs l := by
  unfold fnd; rw [List.find?_cons]; simp [h]
theorem fnd_no (zs gs : List Int) (i j : Nat) (l : List (Nat × Nat)) (h : oneB zs gs i j = false) : fnd zs gs ((i, j) :: l) = some (i, j) := by
  unfold fnd; rw [List.find?_cons]; simp [h]
theorem fnd_nil (zs gs : List Int) : fnd zs gs (rowsF zs.length 0) = none := rfl
set_option maxRecDepth 100000 in
set_option maxHeartbeats 1000000 in
theorem one_any (a c : Option Addr) (cap dap : Nat) (zs gs : List Int) (w : World) (hA : IntsAt w a zs) (hG : IntsAt w c gs) (h0 : 0 < zs.length) (h5 : zs.length ≤ 5) (he : gs.length = zs.length)
    (hz : ∀ k, 0 ≤ nth zs k ∧ nth zs k ≤ 1000) (hg : ∀ k, k < gs.length → Gt (nth gs k)) :
    Calls Try.prog 40 #[.slice a zs.length cap, .slice c zs.length dap] w fun e w' => e = .returned (oneV (whyL zs gs)) ∧ ∃ q, w' = w.drewN q := by
  obtain ⟨bz, oz, rfl, hbz, hcz⟩ := hA.addr h0
  obtain ⟨bg, og, rfl, hbg, hcg⟩ := hG.addr (by omega)
  have HZ := Lib.hid hcz
  have HG := Lib.hid hcg
  have HN := Lib.hid hz
  have HB := Lib.hid hg
  have HE := Lib.hid he
  rw [fnd_why]
  generalize hR : fnd zs gs (rowsF zs.length zs.length) = R
  have H0 : Hid (R = fnd zs gs (rowsF zs.length (zs.length - 0))) := Lib.hid hR.symm
  clear hcz hcg hA hG hz hg he hR
  go_enter Try.func40, Try.ntmps40
  go_wp2
  go_loopw [11] (fun iv wr => ∃ (k q : Nat), k ≤ zs.length ∧ iv = .int .i64 k ∧ Hid (R = fnd zs gs (rowsF zs.length (zs.length - k))) ∧ wr = w.drewN q) (fun iv _ => zs.length - (intOf iv).toNat)
  case atStart => exact ⟨0, 0, Nat.zero_le _, rfl, H0, rfl⟩
  case round =>
    obtain ⟨k, q, hk, rfl, HR, rfl⟩ := hrel
    clear H0
    by_cases hlt : k < zs.length
    · have HK : Hid (R = fnd zs gs (restP zs.length k (k + 1))) := Lib.hid (by rw [HR.out, rest_row _ _ hlt])
      clear HR
      have hkx : (k : Int) < zs.length := by omega
      go_wp2_with fail
      go_loopw [8] (fun jv wr => ∃ (j p : Nat), k < j ∧ j ≤ zs.length ∧ jv = .int .i64 j ∧ Hid (R = fnd zs gs (restP zs.length k j)) ∧ wr = w.drewN p) (fun jv _ => zs.length - (intOf jv).toNat)
      case atStart => exact ⟨k + 1, q, by omega, by omega, by go_num, HK, rfl⟩
      case round =>
        obtain ⟨j, p, hj1, hj2, rfl, HJ, rfl⟩ := hrel
        clear HK
        by_cases hjt : j < zs.length
        · have z1 : (w.drewN p).cell? ⟨bz, oz + k, none⟩ = some (.int .i64 (nth zs k)) := HZ.out k hlt
          have z2 : (w.drewN p).cell? ⟨bz, oz + j, none⟩ = some (.int .i64 (nth zs j)) := HZ.out j hjt
          have g1 : (w.drewN p).cell? ⟨bg, og + k, none⟩ = some (.int .i64 (nth gs k)) := HG.out k (by rw [HE.out]; exact hlt)
          have g2 : (w.drewN p).cell? ⟨bg, og + j, none⟩ = some (.int .i64 (nth gs j)) := HG.out j (by rw [HE.out]; exact hjt)
          obtain ⟨zi0, zi1⟩ := HN.out k
          obtain ⟨zj0, zj1⟩ := HN.out j
          obtain ⟨gi0, gi1⟩ := HB.out k (by rw [HE.out]; exact hlt)
          obtain ⟨gj0, gj1⟩ := HB.out j (by rw [HE.out]; exact hjt)
          have hjx : (j : Int) < zs.length := by omega
          generalize hw : w.drewN p = wq at z1 z2 g1 g2
          have HW := Lib.hid hw
          clear hw
          have HF := Lib.hid (fun W => gar_any (nth gs k + nth gs j) (120 * nth zs k) (120 * nth zs j) W ⟨by omega, by omega⟩ ⟨by omega, by omega⟩ ⟨by omega, by omega⟩)
          by_cases hone : oneB zs gs k j = true
          · have HJ' : Hid (R = fnd zs gs (restP zs.length k (j + 1))) := Lib.hid (by rw [HJ.out, rest_cons _ _ _ hjt, fnd_yes _ _ _ _ _ hone])
            have hone' : garF (nth gs k + nth gs j) (120 * nth zs k) (120 * nth zs j) = 2 * nth gs k := by
              unfold oneB at hone; rw [decide_eq_true_eq] at hone; exact hone.symm
            rw [hone'] at HF
            clear HJ hone hone'
            generalize nth zs k = zi at *
            generalize nth zs j = zj at *
            generalize nth gs k = gi at *
            generalize nth gs j = gj at *
            have w1 : IntKind.i64.wrap (gi + gj) = gi + gj := IntWalk.i64_in _ ⟨by omega, by omega⟩
            have w2 : IntKind.i64.wrap (120 * zi) = 120 * zi := IntWalk.i64_in _ ⟨by omega, by omega⟩
            have w3 : IntKind.i64.wrap (120 * zj) = 120 * zj := IntWalk.i64_in _ ⟨by omega, by omega⟩
            have w4 : IntKind.i64.wrap (2 * gi) = 2 * gi := IntWalk.i64_in _ ⟨by omega, by omega⟩
            go_wp2_with fail
            go_quiet ((go_at_call 42; exact Calls.quiet_of_same ((HF.out _).mono fun _ _ h => ⟨h.1, h.2.symm⟩)))
            clear w1 w2 w3 w4
            go_wp2
            go_roundw
            case rel => exact ⟨j + 1, p + nq, by omega, by omega, by go_num, HJ', by rw [← HW.out, World.drewN_drewN]⟩
            case measure => simp [intOf]; omega
          · have hone : oneB zs gs k j = false := by simpa using hone
            have HJ' : Hid (R = some (k, j)) := Lib.hid (by rw [HJ.out, rest_cons _ _ _ hjt, fnd_no _ _ _ _ _ hone])
            have hone' : ¬ garF (nth gs k + nth gs j) (120 * nth zs k) (120 * nth zs j) = 2 * nth gs k := by
              unfold oneB at hone; rw [decide_eq_false_iff_not] at hone; exact fun e => hone e.symm
            clear HJ hone
            generalize nth zs k = zi at *
            generalize nth zs j = zj at *
            generalize nth gs k = gi at *
            generalize nth gs j = gj at *
            generalize garF (gi + gj) (120 * zi) (120 * zj) = G at *
            have w1 : IntKind.i64.wrap (gi + gj) = gi + gj := IntWalk.i64_in _ ⟨by omega, by omega⟩
            have w2 : IntKind.i64.wrap (120 * zi) = 120 * zi := IntWalk.i64_in _ ⟨by omega, by omega⟩
            have w3 : IntKind.i64.wrap (120 * zj) = 120 * zj := IntWalk.i64_in _ ⟨by omega, by omega⟩
            have w4 : IntKind.i64.wrap (2 * gi) = 2 * gi := IntWalk.i64_in _ ⟨by omega, by omega⟩
            have w5 : (2 * gi == G) = false := by rw [beq_eq_false_iff_ne]; exact fun e => hone' e.symm
            have w6 : (2 * gi != G) = true := by rw [bne, w5]; rfl
            clear hone'
            go_wp2_with fail
            go_quiet ((go_at_call 42; exact Calls.quiet_of_same ((HF.out _).mono fun _ _ h => ⟨h.1, h.2.symm⟩)))
            clear w1 w2 w3 w4 w5 w6
            go_wp2
            go_ret3
            rw [HJ'.out]
            exact ⟨rfl, p + nq, by rw [← HW.out, World.drewN_drewN]⟩
        · have HE : Hid (R = fnd zs gs (rowsF zs.length (zs.length - (k + 1)))) := Lib.hid (by rw [HJ.out, rest_end _ _ _ (by omega), Nat.sub_sub])
          go_wp2
          go_roundw
          case rel => exact ⟨k + 1, p, by omega, by go_num, HE, rfl⟩
          case measure => simp [intOf]; omega
    · obtain rfl : k = zs.length := by omega
      have HE : Hid (R = none) := Lib.hid (by rw [HR.out, Nat.sub_self]; rfl)
      go_wp2
      go_ret3
      rw [HE.out]
      exact ⟨rfl, q, rfl⟩
end Go.Proofs.Ytdnbdaegahcoeaa
