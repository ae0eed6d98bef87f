/- Layer 2: whether what is left can be reached. -/
import Derived.Test.YtimddkofcejijaaDoorDD
import Derived.Test.YtimddkofcejijaaDoorDE
import Derived.Deep.CutBlock
namespace Go.Proofs.YtimddkofcejijaaDoor
open Go.RowKit Go.Sort
/-- what can be reached from a corner by the streets that are left. -/
def Rch (ss : List (Int × Int)) (K : Nat → Nat) (x v : Nat) : Prop := ∀ T : Nat → Prop, T x → (∀ i, i < ss.length → 0 < K i → (T (en1 ss i) ↔ T (en2 ss i))) → T v
set_option maxRecDepth 100000 in
set_option maxHeartbeats 4000000 in
theorem gone_any {ss : List (Int × Int)} {c : Nat} (hg : GoodS ss c) (hlen : ss.length ≤ 9) (hc6 : c ≤ 6) (a : Option Addr) (cap : Nat) (K : Nat → Nat) (x : Nat) (la : Option Addr) (lc : Nat) (w : World) (hS : StrAt w a ss) (hI : IntsAt w la (kL K ss.length)) (hx : x < c) (hK : ∀ i, i < ss.length → K i ≤ 2) :
    Calls Tryd.prog 30 #[mapV c a ss.length cap, .int .i64 x, .slice la ss.length lc] w fun e w' => ∃ b : Bool, e = .returned (.bool b) ∧ (b = true → Conn (en1 ss) (en2 ss) ss.length K x) ∧ Fut w w' := by
  have HS := Lib.hid hS
  have HI := Lib.hid hI
  have HG := Lib.hid hg
  have HK := Lib.hid hK
  have hlx : (ss.length : Int) ≤ 9 := by omega
  have hxx : (x : Int) ≤ 5 := by omega
  have hcx : (c : Int) ≤ 6 := by omega
  clear hS hI hg hK
  go_enter Tryd.func30, Tryd.ntmps30
  go_upto_region 1 with fail
  have hBM := BoxM.new w c a ss.length cap 29
  have hF : Fut w (w.alloc (.cells #[.int .i64 c, .slice a ss.length cap] 29)) := Fut.alloc _ _
  generalize w.alloc (.cells #[.int .i64 c, .slice a ss.length cap] 29) = W1 at *
  generalize w.heap.size = B at *
  have HB := Lib.hid hBM
  have HF := Lib.hid hF
  obtain ⟨hb, b0, b1⟩ := hBM
  clear hF
  obtain ⟨M0, hM0⟩ : ∃ M0, M0 = 2 ^ x := ⟨_, rfl⟩
  have hwk : IntKind.u64.wrap ((2 : Int) ^ x) = (M0 : Int) := by rw [hM0]; exact wrap_two x (by omega)
  have hm64 : M0 < 64 := by
    have : 2 ^ x ≤ 2 ^ 5 := Nat.pow_le_pow_right (by decide) (by omega)
    rw [hM0]; omega
  have HM0 : Hid (∀ v, M0.testBit v = true → Rch ss K x v) := Lib.hid (fun v hv T hT _ => by
    rw [hM0, Nat.testBit_two_pow, decide_eq_true_eq] at hv
    rw [← hv]; exact hT)
  clear hM0
  go_upto_region 3 with fail
  clear hb b0 b1 hwk
  go_loopw [7, 8, 9, 16, 21] (fun mv _ _ kv _ wr => ∃ (k met : Nat), k ≤ c ∧ kv = .int .i64 k ∧ mv = sv met ∧ met < 64 ∧ Hid (∀ v, met.testBit v = true → Rch ss K x v) ∧ Hid (Fut W1 wr)) (fun _ _ _ kv _ _ => c - (intOf kv).toNat)
  case atStart => exact ⟨0, M0, Nat.zero_le _, rfl, rfl, hm64, HM0, Lib.hid Fut.rfl⟩
  case round =>
    clear HM0 hm64
    obtain ⟨k, met, hk, rfl, rfl, hmt, HM, HR⟩ := hrel
    obtain ⟨hb, b0, b1⟩ := HB.out.fut HR.out
    by_cases hlt : k < c
    · have hkx : (k : Int) < c := by omega
      go_upto_region 5 with fail
      clear hb b0 b1
      go_loopw [7, 8, 9, 21] (fun mv _ _ iv wx => ∃ (i met : Nat), i ≤ ss.length ∧ iv = .int .i64 i ∧ mv = sv met ∧ met < 64 ∧ Hid (∀ v, met.testBit v = true → Rch ss K x v) ∧ Hid (Fut W1 wx)) (fun _ _ _ iv _ => ss.length - (intOf iv).toNat)
      case atStart => exact ⟨0, met, Nat.zero_le _, rfl, rfl, hmt, HM, HR⟩
      case round =>
        clear HM hmt HR
        obtain ⟨i, met, hi, rfl, rfl, hmt, HM, HR⟩ := hrel
        by_cases hlt2 : i < ss.length
        · have hix : (i : Int) < ss.length := by omega
          obtain ⟨sb, soff, ea, hsb, s1, s2⟩ := (HS.out.fut (HF.out.trans HR.out)) i hlt2
          obtain ⟨g1, g2, g3, g4⟩ := good_str HG.out hlt2
          rw [g3] at s1
          rw [g4] at s2
          subst ea
          obtain ⟨lb, loff, ea, hlb, l1⟩ := (HI.out.fut (HF.out.trans HR.out)) i (by rw [kL_len]; exact hlt2)
          rw [kL_nth hlt2] at l1
          subst ea
          have hk2 := HK.out i hlt2
          have HRN : Hid (∀ v, 0 < K i → (met.testBit (en1 ss i) = true ∨ met.testBit (en2 ss i) = true) → v = en1 ss i ∨ v = en2 ss i → Rch ss K x v) := Lib.hid (fun v h0 h h' T hT hcl => by
            have he := hcl i hlt2 h0
            have hy : T (en1 ss i) := by
              rcases h with h | h
              · exact HM.out _ h T hT hcl
              · exact he.2 (HM.out _ h T hT hcl)
            rcases h' with rfl | rfl
            · exact hy
            · exact he.1 hy)
          generalize K i = ki at *
          generalize en1 ss i = y at *
          generalize en2 ss i = z at *
          go_upto_region 7 with fail
          have hF5 : Fut wr (wr.alloc (.cells #[.int .i64 y, .int .i64 z] 54)) := Fut.alloc _ _
          have e0 : (wr.alloc (.cells #[.int .i64 y, .int .i64 z] 54)).cell? ⟨wr.heap.size, 0, none⟩ = some (.int .i64 y) := by simp [go_sem]
          have e1 : (wr.alloc (.cells #[.int .i64 y, .int .i64 z] 54)).cell? ⟨wr.heap.size, 1, none⟩ = some (.int .i64 z) := by simp [go_sem]
          have l5 : (wr.alloc (.cells #[.int .i64 y, .int .i64 z] 54)).cell? ⟨lb, loff + i, none⟩ = some (.int .i64 ki) := (RowKit.Below.cell hF5 (p := ⟨lb, loff + i, none⟩) hlb).trans l1
          have HR5 := Lib.hid (HR.out.trans hF5)
          generalize wr.alloc (.cells #[.int .i64 y, .int .i64 z] 54) = w5 at *
          generalize wr.heap.size = L at *
          clear s1 s2 l1 hsb hlb hF5
          have hby := bit_shr2 met y (by omega)
          have hbz := bit_shr2 met z (by omega)
          have hyx : (y : Int) ≤ 5 := by omega
          have hzx : (z : Int) ≤ 5 := by omega
          obtain ⟨cnd, hcnd⟩ : ∃ cnd : Bool, cnd = (decide (0 < ki) && (met.testBit y || met.testBit z)) := ⟨_, rfl⟩
          have HCN := Lib.hid hcnd
          clear hcnd
          go_cut [46] from 26 to 45 (fun s46 wx => s46 = .bool cnd ∧ wx = w5)
          case first =>
            by_cases hk0 : 0 < ki
            · have hkx : (ki : Int) > 0 := by omega
              have hc := HCN.out
              rw [decide_eq_true hk0] at hc
              cases hty : met.testBit y <;> cases htz : met.testBit z <;> simp only [hty] at hby hc <;> simp only [htz] at hbz hc <;> simp only [Bool.false_eq_true, if_false, if_true] at hby hbz <;> clear hty htz <;> simp only [Bool.true_and, Bool.or_true, Bool.or_false, Bool.or_self] at hc <;> subst hc
              all_goals
                clear hk0
                go_wp2_with fail
                go_meet
                exact ⟨rfl, rfl⟩
            · have hkx : ¬ (ki : Int) > 0 := by omega
              have hc := HCN.out
              rw [decide_eq_false hk0, Bool.false_and] at hc
              subst hc
              clear hk0 hby hbz
              go_wp2_with fail
              go_meet
              exact ⟨rfl, rfl⟩
          case rest =>
            obtain ⟨rfl, rfl⟩ := hcut
            clear hby hbz l5
            cases cnd
            · clear e0 e1
              go_wp2_with fail
              go_roundw
              case rel => first | exact ⟨i + 1, met, by omega, by go_num, rfl, hmt, HM, HR5⟩ | ((repeat apply Exists.intro); refine ⟨⟨i + 1, met, by omega, ?_, rfl, hmt, HM, HR5⟩, rfl⟩; go_num)
              case measure => simp [intOf]; omega
            · have hcc := HCN.out.symm
              rw [Bool.and_eq_true, decide_eq_true_iff, Bool.or_eq_true] at hcc
              have HRN2 := Lib.hid (fun v => HRN.out v hcc.1 hcc.2)
              obtain ⟨PY, hPY⟩ : ∃ PY, PY = 2 ^ y := ⟨_, rfl⟩
              obtain ⟨PZ, hPZ⟩ : ∃ PZ, PZ = 2 ^ z := ⟨_, rfl⟩
              have hwy : IntKind.u64.wrap ((2 : Int) ^ y) = (PY : Int) := by rw [hPY]; exact wrap_two y (by omega)
              have hwz : IntKind.u64.wrap ((2 : Int) ^ z) = (PZ : Int) := by rw [hPZ]; exact wrap_two z (by omega)
              have hy64 : PY < 2 ^ 6 := by rw [hPY]; exact Nat.pow_lt_pow_right (by decide) (by omega)
              have hz64 : PZ < 2 ^ 6 := by rw [hPZ]; exact Nat.pow_lt_pow_right (by decide) (by omega)
              have hyz : PY ||| PZ < 2 ^ 6 := Nat.or_lt_two_pow hy64 hz64
              have hmm : met ||| (PY ||| PZ) < 2 ^ 6 := Nat.or_lt_two_pow (by omega) hyz
              have e3 : bits BinOp.or IntKind.u64 (PY : Int) (PZ : Int) = ((PY ||| PZ : Nat) : Int) := u64_or_nat _ _ (by omega) (by omega)
              have e4 : bits BinOp.or IntKind.u64 (met : Int) ((PY ||| PZ : Nat) : Int) = ((met ||| (PY ||| PZ) : Nat) : Int) := u64_or_nat _ _ (by omega) (by omega)
              have HM2 : Hid (∀ v, (met ||| (PY ||| PZ)).testBit v = true → Rch ss K x v) := Lib.hid (fun v hv => by
                rw [Nat.testBit_or, Nat.testBit_or, hPY, hPZ, Nat.testBit_two_pow, Nat.testBit_two_pow, Bool.or_eq_true, Bool.or_eq_true, decide_eq_true_eq, decide_eq_true_eq] at hv
                rcases hv with hv | hv | hv
                · exact HM.out v hv
                · exact HRN2.out v (Or.inl hv.symm)
                · exact HRN2.out v (Or.inr hv.symm))
              have hmm64 : met ||| (PY ||| PZ) < 64 := hmm
              clear hPY hPZ hcc hmm
              generalize met ||| (PY ||| PZ) = met2 at *
              generalize PY ||| PZ = PYZ at *
              go_upto_region 8 with fail
              go_quiet (fail)
              have HR6 := Lib.hid (HR5.out.trans (Fut.drewN _ nq))
              clear e0 e1 hwy hwz e3 e4
              go_wp2_with fail
              go_roundw
              case rel => first | exact ⟨i + 1, met2, by omega, by go_num, rfl, hmm64, HM2, HR6⟩ | ((repeat apply Exists.intro); refine ⟨⟨i + 1, met2, by omega, ?_, rfl, hmm64, HM2, HR6⟩, rfl⟩; go_num)
              case measure => simp [intOf]; omega
        · obtain rfl : i = ss.length := by omega
          go_wp2_with fail
          go_roundw
          case rel => first | exact ⟨k + 1, met, by omega, by go_num, rfl, hmt, HM, HR⟩ | ((repeat apply Exists.intro); refine ⟨⟨k + 1, met, by omega, ?_, rfl, hmt, HM, HR⟩, rfl⟩; go_num)
          case measure => simp [intOf]; omega
    · have hkn : ¬ (k : Int) < (c : Int) := by omega
      go_upto_region 12 with fail
      clear hb b0 b1 hkn
      go_loopw [10, 11, 61] (fun _ _ iv wx => ∃ i : Nat, i ≤ ss.length ∧ iv = .int .i64 i ∧ Hid (∀ j, j < i → 0 < K j → met.testBit (en1 ss j) = true) ∧ Hid (Fut W1 wx)) (fun _ _ iv _ => ss.length - (intOf iv).toNat)
      case atStart => exact ⟨0, Nat.zero_le _, rfl, Lib.hid (fun j hj => absurd hj (by omega)), HR⟩
      case round =>
        clear HR
        obtain ⟨i, hi, rfl, HA, HR⟩ := hrel
        by_cases hlt2 : i < ss.length
        · have hix : (i : Int) < ss.length := by omega
          obtain ⟨sb, soff, ea, hsb, s1, s2⟩ := (HS.out.fut (HF.out.trans HR.out)) i hlt2
          obtain ⟨g1, g2, g3, g4⟩ := good_str HG.out hlt2
          rw [g3] at s1
          rw [g4] at s2
          subst ea
          obtain ⟨lb, loff, ea, hlb, l1⟩ := (HI.out.fut (HF.out.trans HR.out)) i (by rw [kL_len]; exact hlt2)
          rw [kL_nth hlt2] at l1
          subst ea
          have hk2 := HK.out i hlt2
          have HAN : Hid ((0 < K i → met.testBit (en1 ss i) = true) → ∀ j, j < i + 1 → 0 < K j → met.testBit (en1 ss j) = true) := Lib.hid (fun h j hj => by
            rcases Nat.lt_or_ge j i with h1 | h1
            · exact HA.out j h1
            · obtain rfl : j = i := by omega
              exact h)
          generalize K i = ki at *
          generalize en1 ss i = y at *
          generalize en2 ss i = z at *
          go_upto_region 14 with fail
          have hF5 : Fut wr (wr.alloc (.cells #[.int .i64 y, .int .i64 z] 54)) := Fut.alloc _ _
          have e0 : (wr.alloc (.cells #[.int .i64 y, .int .i64 z] 54)).cell? ⟨wr.heap.size, 0, none⟩ = some (.int .i64 y) := by simp [go_sem]
          have l5 : (wr.alloc (.cells #[.int .i64 y, .int .i64 z] 54)).cell? ⟨lb, loff + i, none⟩ = some (.int .i64 ki) := (RowKit.Below.cell hF5 (p := ⟨lb, loff + i, none⟩) hlb).trans l1
          have HR5 := Lib.hid (HR.out.trans hF5)
          generalize wr.alloc (.cells #[.int .i64 y, .int .i64 z] 54) = w5 at *
          generalize wr.heap.size = L at *
          clear s1 s2 l1 hsb hlb hF5
          have hby := bit_shr2 met y (by omega)
          have hyx : (y : Int) ≤ 5 := by omega
          by_cases hk0 : 0 < ki
          · have hkx : (ki : Int) > 0 := by omega
            cases hty : met.testBit y <;> simp only [hty] at hby <;> simp only [Bool.false_eq_true, if_false, if_true] at hby
            · clear hty hk0
              go_wp2_with fail
              go_ret
              exact ⟨false, rfl, (fun h => by cases h), HF.out.trans HR5.out⟩
            · have HA2 := Lib.hid (HAN.out (fun _ => hty))
              clear hty hk0
              go_wp2_with fail
              go_roundw
              case rel => first | exact ⟨i + 1, by omega, by go_num, HA2, HR5⟩ | ((repeat apply Exists.intro); refine ⟨⟨i + 1, by omega, ?_, HA2, HR5⟩, rfl⟩; go_num)
              case measure => simp [intOf]; omega
          · have hkx : ¬ (ki : Int) > 0 := by omega
            have HA2 := Lib.hid (HAN.out (fun h => absurd h hk0))
            clear hk0 hby
            go_wp2_with fail
            go_roundw
            case rel => first | exact ⟨i + 1, by omega, by go_num, HA2, HR5⟩ | ((repeat apply Exists.intro); refine ⟨⟨i + 1, by omega, ?_, HA2, HR5⟩, rfl⟩; go_num)
            case measure => simp [intOf]; omega
        · obtain rfl : i = ss.length := by omega
          go_wp2_with fail
          go_ret
          exact ⟨true, rfl, fun _ T hT hcl j hj h0 => HM.out _ (HA.out j hj h0) T hT hcl, HF.out.trans HR.out⟩
end Go.Proofs.YtimddkofcejijaaDoor
