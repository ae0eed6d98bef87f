/- Layer 2: the cuts that can be in a proof. -/
import Derived.Test.YtimddkofcejijaaRU
namespace Go.Proofs.Ytimddkofcejijaa
open Go.RowKit Go.Sort
theorem info79 : (Try.prog.info? 79).map (fun i => (i.zero, i.size, i.bytes)) = some (some (.int .u64 0), 1, 8) := by kernel_rfl
def oddS (_c : Nat) (_ss : List (Int × Int)) (o s : Nat) : Bool := s.testBit 0 && par (s &&& o)
def rawM (c : Nat) (ss : List (Int × Int)) : List Nat := ((List.range (2 ^ c - 1)).filter (oddS c ss (oddM ss (2 ^ ss.length - 1)))).map (cutM ss)
/-- the cuts of all sides with an odd number of odd corners, in order. -/
def cutsM (c : Nat) (ss : List (Int × Int)) : List Nat := sortS (rawM c ss)
theorem OwnS.fut {w w' : World} {B : Nat} {v : Value} {zs : List Nat} (h : OwnS w B v zs) (F : Fut w w') : OwnS w' B v zs := by
  obtain ⟨h1, h2⟩ := h
  refine ⟨h1, ?_⟩
  rcases h2 with h2 | ⟨g, cap, cur, h3, h4, h5, h6⟩
  · exact .inl h2
  · exact .inr ⟨g, cap, cur, h3, h4, by rw [F.block g (Array.getElem?_eq_some_iff.1 h5).1]; exact h5, h6⟩
theorem OwnS.form {w : World} {B : Nat} {v : Value} {zs : List Nat} (h : OwnS w B v zs) : (∃ p cap, v = .slice p zs.length cap) ∧ (0 < zs.length → ∃ g cap, v = .slice (some ⟨g, 0, none⟩) zs.length cap ∧ B ≤ g) := by
  rcases h.2 with ⟨rfl, h0⟩ | ⟨g, cap, cur, rfl, hb, _⟩
  · exact ⟨⟨none, 0, by rw [h0]⟩, fun h1 => by omega⟩
  · exact ⟨⟨_, cap, rfl⟩, fun _ => ⟨g, cap, rfl, hb⟩⟩
theorem ins_none (p : Option Addr) (cap : Nat) (w : World) : Calls Try.prog 122 #[.slice p 0 cap, .int .i64 0, .int .i64 0, .func (.func 103) #[] #[]] w fun e w' => e = .returned (.tuple #[]) ∧ w = w' := by
  go_enter Try.func122, Try.ntmps122
  go_wp2
  refine wp_loop_rounds 1 ?_
  rw [rounds_succ]
  go_wp2
  first | go_end0 | refine bodyPost_ret (results_none rfl _ _ _) rfl ?_
  exact ⟨rfl, rfl⟩
theorem pdq_none (p : Option Addr) (cap : Nat) (L : Int) (w : World) : Calls Try.prog 116 #[.slice p 0 cap, .int .i64 0, .int .i64 0, .int .i64 L, .func (.func 103) #[] #[]] w fun e w' => e = .returned (.tuple #[]) ∧ w = w' := by
  have HI := Lib.hid (fun W => ins_none p cap W)
  go_enter Try.func116, Try.ntmps116
  go_wp2_with fail
  refine wp_loop_rounds 1 ?_
  rw [rounds_succ]
  go_wp2_with (go_at_call 122; refine (HI.out _).mono ?_; rintro _ _ ⟨rfl, rfl⟩)
  first | go_end0 | refine bodyPost_ret (results_none rfl _ _ _) rfl ?_
  exact ⟨rfl, rfl⟩
theorem sort_none (p : Option Addr) (cap : Nat) (w : World) : Calls Try.prog 102 #[.slice p 0 cap, .func (.func 103) #[] #[]] w fun e w' => e = .returned (.tuple #[]) ∧ w = w' := by
  have HL : Hid (∀ W, Calls Try.prog 95 #[.int .u64 0] W fun e w' => e = .returned (.int .i64 (Lib.bitLen 0)) ∧ W = w') := Lib.hid (fun W => len_any 0 W (by decide))
  generalize Lib.bitLen 0 = L at *
  have HP := Lib.hid (fun W => pdq_none p cap L W)
  go_enter Try.func102, Try.ntmps102
  go_wp2_with (first | (go_at_call 95; refine (HL.out _).mono ?_; rintro _ _ ⟨rfl, rfl⟩) | (go_at_call 116; refine (HP.out _).mono ?_; rintro _ _ ⟨rfl, rfl⟩))
  first | go_end0 | refine bodyPost_ret (results_none rfl _ _ _) rfl ?_
  exact ⟨rfl, rfl⟩
theorem cut64 {n : Nat} (h : n ≤ 6) : 2 ^ n - 1 < 64 := by
  have h1 : 2 ^ n ≤ 2 ^ 6 := Nat.pow_le_pow_right (by decide) h
  have h2 : (2 : Nat) ^ 6 = 64 := by decide
  omega
set_option maxRecDepth 100000 in
set_option maxHeartbeats 4000000 in
theorem oddCuts_any (c : Nat) (a : Option Addr) (cap : Nat) (ss : List (Int × Int)) (w : World) (hS : StrAt w a ss) (hl : ss.length ≤ 9) (hp : SmL ss) (hc : c ≤ 6) :
    Calls Try.prog 78 #[mapV c a ss.length cap] w fun e w' => ∃ l lc, e = .returned (.slice l (cutsM c ss).length lc) ∧ SetsAt w' l (cutsM c ss) ∧ Fut w w' := by
  obtain ⟨i0, hi0, hz0, hz1, hz2⟩ := info_parts info79
  have HS := Lib.hid hS
  have HAL := Lib.hid (fun W => all_any c a ss.length cap W (by omega))
  have HBL := Lib.hid (fun W => below_any c W (by omega))
  have HOD := Lib.hid (fun W (F : Fut w W) => odd_any c a cap ss (2 ^ ss.length - 1) W (hS.fut F) (by omega) hp (mask_lt (by omega)))
  have hol := oddM_lt hp (2 ^ ss.length - 1)
  have HK := Lib.hid (fun s (h : s < 64) W (F : Fut w W) => cut_any c a cap ss s W (hS.fut F) (by omega) hp h)
  have HKL := Lib.hid (fun s => cutM_lt (ss := ss) (by omega) s)
  have hM := cut64 hc
  have HRW : Hid ([] ++ ((List.range' 0 (2 ^ c - 1 - 0)).filter (oddS c ss (oddM ss (2 ^ ss.length - 1)))).map (cutM ss) = rawM c ss) := Lib.hid (by unfold rawM; rw [List.range_eq_range']; simp)
  have HCM : Hid (cutsM c ss = sortS (rawM c ss)) := Lib.hid rfl
  generalize cutsM c ss = CM at *
  generalize rawM c ss = RW at *
  generalize oddM ss (2 ^ ss.length - 1) = o at *
  generalize 2 ^ ss.length - 1 = m at *
  generalize 2 ^ c - 1 = M at *
  have hMx : (M : Int) < 64 := by omega
  clear hS hp
  go_enter Try.func78, Try.ntmps78
  go_wp2_with fail
  have hB := BoxM.new w c a ss.length cap 24
  have hF : Fut w (w.alloc (.cells #[.int .i64 c, .slice a ss.length cap] 24)) := Fut.alloc _ _
  have hsz : (w.alloc (.cells #[.int .i64 c, .slice a ss.length cap] 24)).heap.size = w.heap.size + 1 := by simp
  generalize w.alloc (.cells #[.int .i64 c, .slice a ss.length cap] 24) = W1 at *
  generalize hBB : w.heap.size = B at *
  have HBB := Lib.hid (Nat.le_of_eq hBB)
  have HF1 := Lib.hid hF
  have HB1 := Lib.hid hB
  obtain ⟨m0, m1⟩ := HB1.out.after Fut.rfl
  clear hF hB hBB
  refine region_fut (by kernel_rfl) (by kernel_rfl) ?_
  repeat (go_big_quiet_step (first
    | (go_at_call 54; rename_i p; exact after_of (HOD.out _ (HF1.out.trans p.F)))
    | (go_at_call 55; exact after_of (HAL.out _))))
  refine wpQuiet_nil ?_
  intro w2 hw'
  have F2 : Fut W1 w2 := after_fut hw'
  clear hw' m0 m1
  have HF2 := Lib.hid (HF1.out.trans F2)
  have HB2 := Lib.hid (HB1.out.fut F2)
  have hsz2 : B + 1 ≤ w2.heap.size := by have := RowKit.Below.size F2; omega
  clear F2 hsz
  obtain ⟨hb, b0, b1⟩ := HB2.out
  go_wp2_with (go_at_call 60; refine (HBL.out _).mono ?_; rintro _ _ ⟨rfl, rfl⟩)
  clear hb b0 b1
  go_loopw [4, 13] (fun v iv wr => ∃ (k : Nat) (cs : List Nat), k ≤ M ∧ iv = .int .u64 k ∧ cs.length ≤ k ∧ Hid (∀ x ∈ cs, x < 65536) ∧ Hid (OwnS wr (B + 1) v cs) ∧ Hid (cs ++ ((List.range' k (M - k)).filter (oddS c ss o)).map (cutM ss) = RW) ∧ Hid (BoxM wr B c a ss.length cap) ∧ Hid (Fut w wr)) (fun _ iv _ => M - (intOf iv).toNat)
  case atStart => exact ⟨0, [], Nat.zero_le _, rfl, Nat.le_refl _, Lib.hid (fun x hx => by cases hx), Lib.hid (World.ownsRow_nil _ _ _ _), HRW, HB2, HF2⟩
  case round =>
    obtain ⟨k, cs, hk, rfl, hcl, HX, HO, HR, HB, HF⟩ := hrel
    obtain ⟨hb, b0, b1⟩ := HB.out
    by_cases hlt : k < M
    · have hkx : (k : Int) < M := by omega
      have hs := range_step hlt
      rw [hs, List.filter_cons] at HR
      have hod : oddS c ss o k = (k.testBit 0 && par (k &&& o)) := rfl
      have HH : Hid (∀ W, Calls Try.prog 71 #[sv k, .int .i64 0] W fun e w' => e = .returned (.bool (k.testBit 0)) ∧ W = w') := Lib.hid (fun W => has_any k 0 W (by omega) (by omega))
      have HI := Lib.hid (fun W => isOdd_any (k &&& o) W (Nat.lt_of_le_of_lt Nat.and_le_left (by omega)))
      have e : bits BinOp.and IntKind.u64 (k : Int) (o : Int) = ((k &&& o : Nat) : Int) := u64_and_nat _ _ (by omega) (by omega)
      clear hs
      cases h0 : k.testBit 0
      · rw [h0] at HH hod
        rw [Bool.false_and] at hod
        rw [hod] at HR
        simp only [Bool.false_eq_true, if_false] at HR
        clear h0 hod
        go_wp2_with (first | (go_at_call 71; refine (HH.out _).mono ?_; rintro _ _ ⟨rfl, rfl⟩))
        go_roundw
        case rel => exact ⟨k + 1, cs, by omega, by go_num, by omega, HX, HO, HR, HB, HF⟩
        case measure => simp [intOf]; omega
      · rw [h0] at HH hod
        rw [Bool.true_and] at hod
        rw [hod] at HR
        clear h0 hod
        cases h1 : par (k &&& o)
        · rw [h1] at HI HR
          simp only [Bool.false_eq_true, if_false] at HR
          clear h1
          go_wp2_with (first | (go_at_call 71; refine (HH.out _).mono ?_; rintro _ _ ⟨rfl, rfl⟩) | (go_at_call 85; refine (HI.out _).mono ?_; rintro _ _ ⟨rfl, rfl⟩))
          go_roundw
          case rel => exact ⟨k + 1, cs, by omega, by go_num, by omega, HX, HO, HR, HB, HF⟩
          case measure => simp [intOf]; omega
        · rw [h1] at HI HR
          simp only [if_true, List.map_cons] at HR
          have HR2 : Hid ((cs ++ [cutM ss k]) ++ ((List.range' (k + 1) (M - (k + 1))).filter (oddS c ss o)).map (cutM ss) = RW) := Lib.hid (by rw [List.append_assoc]; exact HR.out)
          have HKK := Lib.hid (HK.out k (by omega) wr HF.out)
          have hkl := HKL.out k
          have HX2 : Hid (∀ x ∈ cs ++ [cutM ss k], x < 65536) := Lib.hid (fun x hx => by
            rcases List.mem_append.1 hx with h | h
            · exact HX.out x h
            · rw [List.mem_singleton.1 h]; exact hkl)
          generalize cutM ss k = K at *
          clear h1 HR
          go_wp2_with (first | (go_at_call 71; refine (HH.out _).mono ?_; rintro _ _ ⟨rfl, rfl⟩) | (go_at_call 85; refine (HI.out _).mono ?_; rintro _ _ ⟨rfl, rfl⟩))
          refine HKK.out.mono ?_
          rintro _ w3 ⟨rfl, F⟩
          have HO3 := Lib.hid (HO.out.fut F)
          have HB3 := Lib.hid (HB.out.fut F)
          have HF3 := Lib.hid (HF.out.trans F)
          have hsz3 : B + 1 ≤ w3.heap.size := (HB.out.fut F).1
          have hal : cs.length ≤ 200000 := by omega
          clear F hb b0 b1
          go_wp2_with (at_builtin; refine wpList_app _ rfl _ _ 99 rfl (B + 1) 79 i0 (.int .u64 0) 1 8 Try.underlying99 hi0 hz0 hz1 hz2 rfl (by decide) _ _ _ rfl (HO3.out.alloc _) ⟨w3.heap.size, 0, none⟩ 1 1 [.int .u64 (K : Int)] rfl (by decide) rfl ?c1 ?c2 ?c3 ?c4 ?c5 ?_)
          case c1 => exact World.news_of_block (cs := #[.int .u64 (K : Int)]) (t := 79) (fr := (0, 0)) (heap_alloc_new _ _)
          case c2 => intro u hu; simp at hu; subst hu; rfl
          case c3 => exact maxL hal
          case c4 => omega
          case c5 => simp; omega
          · intro v' w4 hown' hgrow _
            have HO4 : Hid (OwnS w4 (B + 1) v' (cs ++ [K])) := Lib.hid (by unfold OwnS; simpa using hown')
            have hBel : RowKit.Below (B + 1) w3 w4 := (RowKit.Below.alloc (RowKit.Below.refl _ _) hsz3 _).grown hgrow (by simp; omega) (fun i hi => (HO3.out.lt i hi).1)
            have HB4 := Lib.hid (HB3.out.belowB (by omega) hBel)
            have HF4 : Hid (Fut w w4) := Lib.hid (HF3.out.trans' hBel (by have := HBB.out; omega))
            clear hown' hgrow hBel
            go_wp2
            go_roundw
            case rel => exact ⟨k + 1, cs ++ [K], by omega, by go_num, by simp; omega, HX2, HO4, HR2, HB4, HF4⟩
            case measure => simp [intOf]; omega
    · obtain rfl : k = M := by omega
      rw [Nat.sub_self] at HR
      have hR : cs = RW := by have := HR.out; simpa using this
      subst hR
      by_cases hne : 0 < cs.length
      · obtain ⟨g, gc, hv, hg⟩ := HO.out.form.2 hne
        subst hv
        have HSO := Lib.hid (sort_any g gc (B + 1) cs wr HO.out HX.out (by omega) hne)
        have HLN : Hid (CM.length = cs.length) := Lib.hid (by rw [HCM.out]; exact (sortS_perm cs).length_eq)
        have HCM2 := Lib.hid HCM.out.symm
        rw [HCM2.out] at HSO
        go_wp2_with (go_at_call 102; refine HSO.out.mono ?_; rintro _ w3 ⟨rfl, hSA, hBel⟩)
        have HSA := Lib.hid hSA
        have HW : Hid (Fut w w3) := Lib.hid (HF.out.trans' hBel (by have := HBB.out; omega))
        clear hSA hBel
        go_ret
        exact ⟨some ⟨g, 0, none⟩, gc, by rw [HLN.out]; rfl, HSA.out, HW.out⟩
      · obtain ⟨⟨p, pc, hv⟩, _⟩ := HO.out.form
        subst hv
        have hc0 : cs = [] := List.eq_nil_of_length_eq_zero (by omega)
        subst hc0
        have hCM : CM = [] := HCM.out
        subst hCM
        have HSN := Lib.hid (fun W => sort_none p pc W)
        go_wp2_with (go_at_call 102; refine (HSN.out _).mono ?_; rintro _ _ ⟨rfl, rfl⟩)
        go_ret
        exact ⟨p, pc, rfl, fun j hj => absurd hj (by simp), HF.out⟩
end Go.Proofs.Ytimddkofcejijaa
