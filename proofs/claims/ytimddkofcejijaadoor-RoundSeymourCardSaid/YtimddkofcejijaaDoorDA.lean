/- Layer 2: the law's members and cut; trailing zeros by the table. -/
import Derived.Test.YtimddkofcejijaaDoorSG
import Derived.Test.YtimddkofcejijaaDoorNA
import Derived.Test.YtimddkofcejijaaDoorSI
import Derived.Deep.AppendLies
namespace Go.Proofs.YtimddkofcejijaaDoor
open Go.RowKit Go.Sort
def tabV (i : Nat) : Int := match (Rows.laid_math_bits_deBruijn64tab : DataW Unit) with
  | .agg l => match l[i]? with
    | some (.lit (.int _ n)) => n
    | _ => 0
  | _ => 0
/-- the table of trailing zeros lies in its place. -/
def TabAt (w : World) : Prop := 1 < w.heap.size ∧ ∀ i, i < 64 → w.cell? ⟨1, i, none⟩ = some (.int .u8 (tabV i))
theorem TabAt.fut {w w' : World} (h : TabAt w) (F : Fut w w') : TabAt w' :=
  ⟨Nat.lt_of_lt_of_le h.1 (RowKit.Below.size F), fun i hi => (RowKit.Below.cell F (p := ⟨1, i, none⟩) h.1).trans (h.2 i hi)⟩
/-- the lowest number of a set. -/
def tzN (x : Nat) : Nat := ((List.range 16).find? fun i => x.testBit i).getD 0
def tzI (x : Int) : Int := IntKind.u64.wrap (bits BinOp.and IntKind.u64 x (IntKind.u64.wrap (-x)) * 285870213051353865) / 288230376151711744
theorem tz_key : ∀ y : Fin 512, 0 < y.val → 0 ≤ tzI (y.val : Nat) ∧ tzI (y.val : Nat) < 64 ∧ tabV (tzI (y.val : Nat)).toNat = ((tzN y.val : Nat) : Int) := by decide +kernel
set_option maxRecDepth 100000 in
set_option maxHeartbeats 2000000 in
theorem tz64_any (x : Nat) (w : World) (hx : x < 512) (h0 : 0 < x) (hT : TabAt w) : Calls Tryd.prog 64 #[.int .u64 x] w fun e w' => e = .returned (.int .i64 (tzN x)) ∧ w = w' := by
  have hne : ((x : Int) == 0) = false := by rw [beq_eq_false_iff_ne]; omega
  obtain ⟨k1, k2, k3⟩ := tz_key ⟨x, hx⟩ h0
  obtain ⟨i, hi⟩ := Int.eq_ofNat_of_zero_le k1
  have hc := hT.2 i (by rw [hi] at k2; omega)
  rw [hi, Int.toNat_natCast] at k3
  dsimp only at k3
  rw [k3] at hc
  rw [hi] at k2
  have hI : IntKind.u64.wrap (bits BinOp.and IntKind.u64 (x : Int) (IntKind.u64.wrap (-(x : Int))) * 285870213051353865) / 288230376151711744 = (i : Int) := hi
  have hz16 : tzN x < 16 := by
    unfold tzN
    cases h : (List.range 16).find? fun i => x.testBit i with
    | none => simp
    | some j =>
      have := List.mem_range.1 (List.mem_of_find?_eq_some h)
      simpa using this
  have hzx : ((tzN x : Nat) : Int) ≤ 15 := by omega
  have hix : (i : Int) < 64 := k2
  generalize tzN x = z at *
  clear k1 k2 k3 hi
  go_enter Tryd.func64, Tryd.ntmps64
  go_wp2
  go_ret
  exact ⟨rfl, rfl⟩
theorem tz_any (x : Nat) (w : World) (hx : x < 512) (h0 : 0 < x) (hT : TabAt w) : Calls Tryd.prog 32 #[.int .u64 x] w fun e w' => e = .returned (.int .i64 (tzN x)) ∧ w = w' := by
  have H := Lib.hid (tz64_any x w hx h0 hT)
  go_enter Tryd.func32, Tryd.ntmps32
  go_wp2_with fail
  refine H.out.mono ?_
  rintro _ _ ⟨rfl, rfl⟩
  go_wp2
  go_ret
  exact ⟨rfl, rfl⟩
/-- a set without its lowest number. -/
theorem low_key : ∀ y : Fin 512, 0 < y.val → listM y.val = ((tzN y.val : Nat) : Int) :: listM (y.val &&& (y.val - 1)) ∧ (y.val &&& (y.val - 1)) < y.val := by decide +kernel
theorem row_formD {w : World} {B size : Nat} {e : TypeId} {v : Value} {n : Nat} {xs : List Value} (h : w.ownsRow B e size v n xs) : ∃ a c, v = .slice a n c := by
  rcases h.2 with ⟨rfl, h0⟩ | ⟨g, cap, cur, rfl, _⟩
  · exact ⟨none, 0, by rw [h0]⟩
  · exact ⟨_, _, rfl⟩
theorem cell_oneD {w : World} {b : Nat} {x : Value} (h : w.cell? ⟨b, 0, none⟩ = some x) : ∀ j u, [x][j]? = some u → w.cell? ((⟨b, 0, none⟩ : Addr).add j) = some u := fun j u hj => by
  match j, hj with
  | 0, hj =>
    simp at hj
    subst hj
    rw [Addr.add_lit]; exact h
set_option maxRecDepth 100000 in
set_option maxHeartbeats 4000000 in
/-- the law's members: a set as a list. -/
theorem members_any (S : Nat) (w : World) (hS : S < 512) (hT : TabAt w) : Calls Tryd.prog 10 #[sv S] w fun e w' => ∃ v, e = .returned v ∧ Owns w' w.heap.size v (listM S) ∧ Fut w w' := by
  obtain ⟨i0, hi0, hz0, hz1, hz2⟩ := info_parts info3
  have HT := Lib.hid hT
  have hSx : (S : Int) < 512 := by omega
  generalize hL : listM S = L at *
  have HL := Lib.hid hL
  have hll : L.length ≤ 16 := by rw [← hL]; exact list_le S
  clear hL hT
  go_enter Tryd.func10, Tryd.ntmps10
  go_wp2_with fail
  go_loopw [0, 3] (fun sv0 ov wx => ∃ (s : Nat) (acc : List Int), s < 512 ∧ sv0 = sv s ∧ Hid (acc ++ listM s = L) ∧ Hid (wx.ownsRow w.heap.size 3 1 ov acc.length (acc.map (Value.int .i64))) ∧ Hid (Fut w wx)) (fun s0 _ _ => (intOf s0).toNat)
  case atStart => exact ⟨S, [], hS, rfl, HL, Lib.hid (World.ownsRow_nil _ _ _ _), Lib.hid Fut.rfl⟩
  case round =>
    obtain ⟨s, acc, hs, rfl, HA, HO, HF⟩ := hrel
    by_cases h0 : s = 0
    · subst h0
      have e0 : listM 0 = [] := by decide
      rw [e0, List.append_nil] at HA
      obtain rfl : acc = L := HA.out
      obtain ⟨va, vc, rfl⟩ := row_formD HO.out
      clear e0
      go_wp2
      go_ret
      exact ⟨_, rfl, HO.out, HF.out⟩
    · have hs0 : ((s : Int) != 0) = true := by rw [bne_iff_ne]; omega
      have hs1 : (1 : Int) ≤ s := by omega
      obtain ⟨k1, k2⟩ := low_key ⟨s, hs⟩ (by show 0 < s; omega)
      dsimp only at k1 k2
      have HTZ := Lib.hid (tz_any s wr hs (by omega) (HT.out.fut HF.out))
      have hand : bits BinOp.and IntKind.u64 (s : Int) ((s : Int) - 1) = ((s &&& (s - 1) : Nat) : Int) := by
        have e : ((s : Int) - 1) = ((s - 1 : Nat) : Int) := by omega
        rw [e]
        exact u64_and_nat _ _ (by omega) (by omega)
      have HA2 : Hid ((acc ++ [((tzN s : Nat) : Int)]) ++ listM (s &&& (s - 1)) = L) := Lib.hid (by rw [← HA.out, k1, List.append_assoc]; rfl)
      have hal : acc.length ≤ 16 := by
        have h := congrArg List.length HA.out
        rw [List.length_append] at h
        omega
      have hk3 : s &&& (s - 1) < 512 := by omega
      have HK2 := Lib.hid k2
      obtain ⟨va, vc, rfl⟩ := row_formD HO.out
      have HIS : Hid ((acc ++ [((tzN s : Nat) : Int)]).map (Value.int .i64) = acc.map (Value.int .i64) ++ [.int .i64 ((tzN s : Nat) : Int)]) := Lib.hid (by rw [List.map_append]; rfl)
      clear k1 k2 h0
      generalize tzN s = z at *
      generalize hn : s &&& (s - 1) = s2 at *
      have hrow1 := World.ownsRow.alloc HO.out (.cells #[.int .i64 (z : Int)] 3)
      have HFA : Hid (Fut w (wr.alloc (.cells #[.int .i64 (z : Int)] 3))) := Lib.hid (HF.out.trans (Fut.alloc _ _))
      generalize acc.map (Value.int .i64) = vals at *
      clear hn
      go_wp2_with fail
      refine HTZ.out.mono ?_
      rintro _ _ ⟨rfl, rfl⟩
      go_wp2_with (at_builtin; refine wpList_append_lies _ rfl _ _ 34 rfl w.heap.size 3 i0 (.int .i64 0) 1 8 Tryd.underlying34 hi0 hz0 hz1 hz2 rfl (by decide) _ acc.length vals rfl hrow1 ⟨wr.heap.size, 0, none⟩ 1 1 [.int .i64 (z : Int)] rfl rfl (cell_oneD (by simp [go_sem])) (by simp [Value.oneCell']) (by omega) (by unfold maxLen; omega) (by omega) (RowKit.Below.size HFA.out) _ rfl ?_)
      intro g5 c5 w5 hown5 hgrow5 _ _
      have HO5 : Hid (w5.ownsRow w.heap.size 3 1 (.slice (some ⟨g5, 0, none⟩) (acc.length + 1) c5) (acc ++ [(z : Int)]).length ((acc ++ [(z : Int)]).map (Value.int .i64))) := Lib.hid (by rw [HIS.out, List.length_append]; exact hown5)
      have HF5 : Hid (Fut w w5) := Lib.hid (RowKit.Below.grown HFA.out hgrow5 (RowKit.Below.size HFA.out) fun q hq => (World.ownsRow.lt hrow1 q hq).1)
      have hk2i := HK2.out
      clear hown5 hgrow5 hrow1 HFA HO HF HTZ
      go_wp2
      go_roundw
      case rel => first | exact ⟨s2, acc ++ [(z : Int)], hk3, rfl, HA2, HO5, HF5⟩ | ((repeat apply Exists.intro); exact ⟨⟨s2, acc ++ [(z : Int)], hk3, rfl, HA2, HO5, HF5⟩, rfl⟩)
      case measure => simp [intOf]; omega
theorem bit_shr2 (s k : Nat) (hs : s < 65536) : bits BinOp.and IntKind.u64 ((s : Int) / 2 ^ k) 1 = if s.testBit k then 1 else 0 := by
  have e : (s : Int) / 2 ^ k = ((s / 2 ^ k : Nat) : Int) := by simp
  have h1 : s / 2 ^ k ≤ s := Nat.div_le_self _ _
  have e2 : bits BinOp.and IntKind.u64 ((s / 2 ^ k : Nat) : Int) ((1 : Nat) : Int) = ((s / 2 ^ k &&& 1 : Nat) : Int) := u64_and_nat _ _ (by omega) (by omega)
  rw [e]
  show bits BinOp.and IntKind.u64 ((s / 2 ^ k : Nat) : Int) ((1 : Nat) : Int) = _
  rw [e2, Nat.and_one_is_mod, Nat.testBit_eq_decide_div_mod_eq]
  generalize s / 2 ^ k = q at *
  by_cases h : q % 2 = 1
  · rw [h]; rfl
  · have h' : q % 2 = 0 := by omega
    rw [h']; rfl
set_option maxRecDepth 100000 in
set_option maxHeartbeats 4000000 in
/-- the law's cut. -/
theorem cutlaw_any (c : Nat) (a : Option Addr) (cap : Nat) (ss : List (Int × Int)) (S : Nat) (w : World) (hSt : StrAt w a ss) (hl : ss.length ≤ 9) (hc : c ≤ 6) (hp : ∀ p ∈ ss, 0 ≤ p.1 ∧ p.1 < p.2 ∧ p.2 < (c : Int)) (hs : S < 64) :
    Calls Tryd.prog 19 #[mapV c a ss.length cap, sv S] w fun e w' => e = .returned (sv (cutM ss S)) ∧ Fut w w' := by
  have HS := Lib.hid hSt
  have HP := Lib.hid hp
  have hlx : (ss.length : Int) ≤ 9 := by omega
  clear hSt hp
  go_enter Tryd.func19, Tryd.ntmps19
  go_wp2_with fail
  have hF : Fut w (w.alloc (.cells #[.int .i64 c, .slice a ss.length cap] 29)) := Fut.alloc _ _
  generalize w.alloc (.cells #[.int .i64 c, .slice a ss.length cap] 29) = W1 at *
  have HF := Lib.hid hF
  clear hF
  go_loopw [5, 11] (fun ov iv wr => ∃ (k o : Nat), k ≤ ss.length ∧ iv = .int .i64 k ∧ ov = sv o ∧ o < 65536 ∧ Hid (cutL S k (ss.drop k) o = cutM ss S) ∧ Hid (Fut W1 wr)) (fun _ iv _ => ss.length - (intOf iv).toNat)
  case atStart => exact ⟨0, 0, Nat.zero_le _, rfl, rfl, by decide, Lib.hid rfl, Lib.hid Fut.rfl⟩
  case round =>
    obtain ⟨k, o, hk, rfl, rfl, ho, HO, HR⟩ := hrel
    by_cases hlt : k < ss.length
    · have hkx : (k : Int) < ss.length := by omega
      obtain ⟨b, off, ea, hb, c1, c2⟩ := ((HS.out.fut HF.out).fut HR.out) k hlt
      subst ea
      have hd := str_drop ss k hlt
      rw [hd] at HO
      have hm := HP.out _ (Nm.str_mem ss k hlt)
      generalize str ss k = p at *
      obtain ⟨x, y⟩ := p
      dsimp only at *
      obtain ⟨x, rfl⟩ := Int.eq_ofNat_of_zero_le hm.1
      obtain ⟨y, rfl⟩ := Int.eq_ofNat_of_zero_le (show 0 ≤ y by omega)
      clear hd
      unfold cutL at HO
      rw [Nm.par_street ⟨hm.1, hm.2.1, by omega⟩] at HO
      simp only [Int.toNat_natCast] at HO
      have hbx := bit_shr2 S x (by omega)
      have hby := bit_shr2 S y (by omega)
      obtain ⟨K, hK⟩ : ∃ K, K = 2 ^ k := ⟨_, rfl⟩
      have hwk : IntKind.u64.wrap ((2 : Int) ^ k) = (K : Int) := by rw [hK]; exact wrap_two k (by omega)
      have hKl : K < 65536 := by rw [hK]; exact pow_lt k (by omega)
      have e2 : bits BinOp.or IntKind.u64 (o : Int) (K : Int) = ((o ||| K : Nat) : Int) := u64_or_nat _ _ (by omega) (by omega)
      have hor := or_lt ho hKl
      rw [← hK] at HO
      clear hK
      cases htx : S.testBit x <;> cases hty : S.testBit y <;> simp only [htx] at hbx HO <;> simp only [hty] at hby HO <;> simp only [Bool.false_eq_true, if_false, if_true, Bool.xor_false, Bool.xor_true, Bool.not_false, Bool.xor_self] at hbx hby HO <;> clear htx hty
      all_goals
        go_wp2_with fail
        go_quiet (fail)
        have HRA := Lib.hid (HR.out.trans ((Fut.alloc wr (.cells #[.int .i64 (x : Int), .int .i64 (y : Int)] 54)).trans (Fut.drewN _ nq)))
        go_wp2
        go_roundw
        case rel => first | exact ⟨k + 1, o, by omega, by go_num, rfl, ho, HO, HRA⟩ | exact ⟨k + 1, o ||| K, by omega, by go_num, rfl, hor, HO, HRA⟩
        case measure => simp [intOf]; omega
    · obtain rfl : k = ss.length := by omega
      rw [List.drop_of_length_le (Nat.le_refl _)] at HO
      have HW := Lib.hid (HF.out.trans HR.out)
      go_wp2
      go_ret
      exact ⟨by rw [← HO.out]; rfl, HW.out⟩
end Go.Proofs.YtimddkofcejijaaDoor
