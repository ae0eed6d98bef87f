/- Layer 2: cuts, and streets that are gone twice. -/
import Derived.Test.YtimddkofcejijaaRK
namespace Go.Proofs.Ytimddkofcejijaa
open Go.RowKit Go.Sort
theorem cutL_lt (side : Nat) : ∀ (l : List (Int × Int)) (i o : Nat), i + l.length ≤ 15 → o < 65536 → cutL side i l o < 65536
  | [], _, _, _, h => h
  | p :: l, i, o, hl, h => by
    unfold cutL
    rw [List.length_cons] at hl
    refine cutL_lt side l (i + 1) _ (by omega) ?_
    split
    · exact or_lt h (pow_lt i (by omega))
    · exact h
theorem cutM_lt {ss : List (Int × Int)} (h : ss.length ≤ 15) (side : Nat) : cutM ss side < 65536 := cutL_lt side ss 0 0 (by omega) (by decide)
theorem and_lt64 (a : Nat) {b : Nat} (hb : b < 64) : a &&& b < 64 := Nat.lt_of_le_of_lt Nat.and_le_right hb
set_option maxRecDepth 100000 in
set_option maxHeartbeats 2000000 in
theorem cut_any (c : Int) (a : Option Addr) (cap : Nat) (ss : List (Int × Int)) (side : Nat) (w : World) (hS : StrAt w a ss) (hl : ss.length ≤ 15) (hp : SmL ss) (hs : side < 64) :
    Calls Try.prog 75 #[mapV c a ss.length cap, sv side] w fun e w' => e = .returned (sv (cutM ss side)) ∧ Fut w w' := by
  have HS := Lib.hid hS
  have HP := Lib.hid hp
  have hlx : (ss.length : Int) ≤ 15 := by omega
  clear hS hp
  go_enter Try.func75, Try.ntmps75
  go_wp2_with fail
  have hB := BoxM.new w c a ss.length cap 24
  have hF : Fut w (w.alloc (.cells #[.int .i64 c, .slice a ss.length cap] 24)) := Fut.alloc _ _
  generalize w.alloc (.cells #[.int .i64 c, .slice a ss.length cap] 24) = W1 at *
  generalize w.heap.size = B at *
  have HB := Lib.hid hB
  have HF := Lib.hid hF
  obtain ⟨hb, b0, b1⟩ := hB
  clear hF
  go_wp2_with fail
  clear hb b0 b1
  go_loopw [5, 10] (fun ov iv wr => ∃ (k o : Nat), k ≤ ss.length ∧ iv = .int .i64 k ∧ ov = sv o ∧ o < 65536 ∧ Hid (cutL side k (ss.drop k) o = cutM ss side) ∧ Hid (Fut W1 wr)) (fun _ iv _ => ss.length - (intOf iv).toNat)
  case atStart => exact ⟨0, 0, Nat.zero_le _, rfl, rfl, by decide, Lib.hid rfl, Lib.hid Fut.rfl⟩
  case round =>
    obtain ⟨k, o, hk, rfl, rfl, ho, HO, HR⟩ := hrel
    obtain ⟨hb, b0, b1⟩ := HB.out.fut HR.out
    by_cases hlt : k < ss.length
    · have hkx : (k : Int) < ss.length := by omega
      have hd := str_drop ss k hlt
      rw [hd] at HO
      have HE := Lib.hid (ends_any c a cap ss k wr ((HS.out.fut HF.out).fut HR.out) hlt (by omega) (HP.out.at k hlt))
      have hel := ends_lt (HP.out.at k hlt)
      generalize str ss k = p at *
      clear hd
      unfold cutL at HO
      have e : bits BinOp.and IntKind.u64 (endsM p : Int) (side : Int) = ((endsM p &&& side : Nat) : Int) := u64_and_nat _ _ (by omega) (by omega)
      have HI := Lib.hid (fun W => isOdd_any (endsM p &&& side) W (and_lt64 _ hs))
      generalize endsM p = E at *
      cases hb2 : par (E &&& side)
      · rw [hb2] at HI HO
        clear hb2
        go_wp2_with fail
        refine HE.out.mono ?_
        rintro _ wa ⟨rfl, F⟩
        have HRA := Lib.hid (HR.out.trans F)
        clear F HE
        go_wp2_with (go_at_call 85; refine (HI.out _).mono ?_; rintro _ _ ⟨rfl, rfl⟩)
        go_roundw
        case rel => exact ⟨k + 1, o, by omega, by go_num, rfl, ho, HO, HRA⟩
        case measure => simp [intOf]; omega
      · rw [hb2] at HI HO
        have H1 := Lib.hid (fun W => one_any k W (by omega))
        have hpk := pow_lt k (by omega)
        have e2 : bits BinOp.or IntKind.u64 (o : Int) ((2 ^ k : Nat) : Int) = ((o ||| 2 ^ k : Nat) : Int) := u64_or_nat _ _ (by omega) (by omega)
        have hx := or_lt ho hpk
        simp only [if_true] at HO
        generalize 2 ^ k = K at *
        clear hb2
        go_wp2_with fail
        refine HE.out.mono ?_
        rintro _ wa ⟨rfl, F⟩
        have HRA := Lib.hid (HR.out.trans F)
        clear F HE
        go_wp2_with (first | (go_at_call 85; refine (HI.out _).mono ?_; rintro _ _ ⟨rfl, rfl⟩) | (go_at_call 96; refine (H1.out _).mono ?_; rintro _ _ ⟨rfl, rfl⟩))
        go_roundw
        case rel => exact ⟨k + 1, o ||| K, by omega, by go_num, rfl, hx, HO, HRA⟩
        case measure => simp [intOf]; omega
    · obtain rfl : k = ss.length := by omega
      rw [List.drop_of_length_le (Nat.le_refl _)] at HO
      have HW := Lib.hid (HF.out.trans HR.out)
      go_wp2
      go_ret
      exact ⟨by rw [← HO.out]; rfl, HW.out⟩
theorem setL_lt {n : Int} (hn : n ≤ 16) : ∀ (l : List Int) (p : Int) (o : Nat), ascE n l p = 0 → o < 65536 → setL l o < 65536
  | [], _, _, _, h => h
  | z :: l, p, o, ha, h => by
    unfold ascE at ha
    unfold setL
    split at ha
    · rename_i hz
      split at ha
      · omega
      · have : 0 ≤ z ∧ z < n := by simpa [inB] using hz
        exact setL_lt hn l z _ ha (or_lt h (pow_lt _ (by omega)))
    · omega
theorem setM_lt {n : Int} (hn : n ≤ 16) {l : List Int} (h : ascE n l (-1) = 0) : setM l < 65536 := setL_lt hn l _ 0 h (by decide)
def twE (c : Int) (ss : List (Int × Int)) (zs : List Int) : Int :=
  if chkM c ss ≠ 0 then chkM c ss else if ascE ss.length zs (-1) ≠ 0 then ascE ss.length zs (-1) else if enoughB ss (setM zs) then 0 else 14
/-- a set and an error. -/
abbrev TupS (r : Int) (s0 : Nat) (w : World) (e : Ending) (w' : World) : Prop := ∃ s : Nat, e = .returned (.tuple #[sv s, .int .i64 r]) ∧ (r = 0 → s = s0) ∧ Fut w w'
set_option maxRecDepth 100000 in
set_option maxHeartbeats 2000000 in
theorem twice_any (c : Int) (a : Option Addr) (cap : Nat) (ss : List (Int × Int)) (d : Option Addr) (dap : Nat) (zs : List Int) (w : World) (hS : StrAt w a ss) (hZ : IntsAt w d zs) (hlz : zs.length ≤ 1000) :
    Calls Try.prog 63 #[mapV c a ss.length cap, .slice d zs.length dap] w (TupS (twE c ss zs) (setM zs) w) := by
  have HC := Lib.hid (fun W (F : Fut w W) => check_any' c a cap ss W (hS.fut F))
  by_cases hc : chkM c ss = 0
  · rw [hc] at HC
    obtain ⟨hc1, hc6, h9, hp, _, _⟩ := chk_good hc
    have HA := Lib.hid (fun W (F : Fut w W) => asc_any ss.length d dap zs W (hZ.fut F) hlz (by omega))
    have h9x : (ss.length : Int) ≤ 9 := by omega
    by_cases ha : ascE ss.length zs (-1) = 0
    · have hs := setM_lt (by omega) ha
      have hsm : ascS ss.length zs = setM zs := by unfold ascS; rw [if_pos ha]
      rw [ha, hsm] at HA
      have HN := Lib.hid (fun W (F : Fut w W) => isEnough_any c a cap ss (setM zs) W (hS.fut F) (by omega) hp hs)
      have hT : twE c ss zs = if enoughB ss (setM zs) then 0 else 14 := by unfold twE; rw [hc, ha]; simp
      rw [hT]
      cases hq : enoughB ss (setM zs)
      all_goals
        rw [hq] at HN
        clear hS hZ hc hp ha hsm hT hq
        generalize setM zs = S at *
        go_enter Try.func63, Try.ntmps63
        go_wp2_with fail
        have hB := BoxM.new w c a ss.length cap 24
        have hF : Fut w (w.alloc (.cells #[.int .i64 c, .slice a ss.length cap] 24)) := Fut.alloc _ _
        generalize w.alloc (.cells #[.int .i64 c, .slice a ss.length cap] 24) = W1 at *
        generalize w.heap.size = B at *
        refine (HC.out _ hF).mono ?_
        rintro _ w1 ⟨rfl, F⟩
        have HF := Lib.hid (hF.trans F)
        obtain ⟨hb, b0, b1⟩ := hB.fut F
        clear hF F hB
        go_wp2_with fail
        refine (HA.out _ HF.out).mono ?_
        rintro _ _ ⟨rfl, rfl⟩
        go_wp2_with fail
        refine (HN.out _ HF.out).mono ?_
        rintro _ w2 ⟨rfl, F⟩
        go_wp2
        go_ret2
        exact ⟨_, rfl, fun h => by first | rfl | omega, HF.out.trans F⟩
    · have hT : twE c ss zs = ascE ss.length zs (-1) := by unfold twE; rw [hc]; simp [ha]
      have hne : (ascE ss.length zs (-1) != 0) = true := bne_iff_ne.2 ha
      rw [hT]
      clear hS hZ hc hp hT
      generalize ascE ss.length zs (-1) = r at *
      generalize ascS ss.length zs = S at *
      go_enter Try.func63, Try.ntmps63
      go_wp2_with fail
      have hB := BoxM.new w c a ss.length cap 24
      have hF : Fut w (w.alloc (.cells #[.int .i64 c, .slice a ss.length cap] 24)) := Fut.alloc _ _
      generalize w.alloc (.cells #[.int .i64 c, .slice a ss.length cap] 24) = W1 at *
      generalize w.heap.size = B at *
      refine (HC.out _ hF).mono ?_
      rintro _ w1 ⟨rfl, F⟩
      have HF := Lib.hid (hF.trans F)
      obtain ⟨hb, b0, b1⟩ := hB.fut F
      clear hF F hB
      go_wp2_with fail
      refine (HA.out _ HF.out).mono ?_
      rintro _ _ ⟨rfl, rfl⟩
      go_wp2
      go_ret2
      exact ⟨0, rfl, fun h => absurd h ha, HF.out⟩
  · have hT : twE c ss zs = chkM c ss := by unfold twE; rw [if_pos hc]
    obtain ⟨_, h2⟩ := chk_std hc
    rw [hT]
    clear hS hZ hT
    generalize chkM c ss = r at *
    go_enter Try.func63, Try.ntmps63
    go_wp2_with fail
    refine (HC.out _ (Fut.alloc _ _)).mono ?_
    rintro _ w1 ⟨rfl, F⟩
    go_wp2
    go_ret2
    exact ⟨0, rfl, fun h => absurd h hc, (Fut.alloc _ _).trans F⟩
set_option maxRecDepth 100000 in
set_option maxHeartbeats 1000000 in
theorem enough_any (c : Int) (a : Option Addr) (cap : Nat) (ss : List (Int × Int)) (d : Option Addr) (dap : Nat) (zs : List Int) (w : World) (hS : StrAt w a ss) (hZ : IntsAt w d zs) (hlz : zs.length ≤ 1000) :
    Calls Try.prog 20 #[mapV c a ss.length cap, .slice d zs.length dap] w (PostC (twE c ss zs) w) := by
  have HT := Lib.hid (fun W (F : Fut w W) => twice_any c a cap ss d dap zs W (hS.fut F) (hZ.fut F) hlz)
  clear hS hZ
  generalize twE c ss zs = r at *
  go_enter Try.func20, Try.ntmps20
  go_wp2_with fail
  refine (HT.out _ (Fut.alloc _ _)).mono ?_
  rintro _ w1 ⟨s, rfl, _, F⟩
  go_wp2
  go_ret
  exact ⟨rfl, (Fut.alloc _ _).trans F⟩
end Go.Proofs.Ytimddkofcejijaa
