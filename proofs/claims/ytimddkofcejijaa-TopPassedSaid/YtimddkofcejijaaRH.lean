/- Layer 2: Check. -/
import Derived.Test.YtimddkofcejijaaRG
namespace Go.Proofs.Ytimddkofcejijaa
open Go.RowKit Go.Sort
def inB (c x : Int) : Bool := decide (0 ≤ x) && decide (x < c)
theorem isIndex_any (i n : Int) (w : World) : Calls Try.prog 58 #[.int .i64 i, .int .i64 n] w fun e w' => e = .returned (.bool (inB n i)) ∧ w = w' := by
  go_enter Try.func58, Try.ntmps58
  go_wp2
  all_goals
    go_ret
    exact ⟨retb (by simp [inB]; omega), rfl⟩
/-- the error of a street. -/
def stE (c : Int) (p : Int × Int) : Int := if inB c p.1 && inB c p.2 then (if p.2 ≤ p.1 then 7 else 0) else 2
def stL (c : Int) : List (Int × Int) → Int
  | [] => 0
  | p :: l => if stE c p = 0 then stL c l else stE c p
def chkM (c : Int) (ss : List (Int × Int)) : Int :=
  if c < 1 ∨ 6 < c then 1 else if 9 < ss.length then 3 else if stL c ss = 0 then (if reachM ss (2 ^ ss.length - 1) c.toNat 1 = 2 ^ c.toNat - 1 then 0 else 5) else stL c ss
theorem stE_ok {c : Int} {p : Int × Int} (h : stE c p = 0) : 0 ≤ p.1 ∧ p.1 < p.2 ∧ p.2 < c := by
  unfold stE at h
  split at h
  · rename_i h1
    split at h
    · omega
    · simp [inB] at h1; omega
  · omega
theorem stL_ok {c : Int} : ∀ {l : List (Int × Int)}, stL c l = 0 → ∀ p ∈ l, stE c p = 0
  | [], _, p, hp => by simp at hp
  | q :: l, h, p, hp => by
    unfold stL at h
    split at h
    · rename_i h1
      rcases List.mem_cons.1 hp with rfl | hp
      · exact h1
      · exact stL_ok h p hp
    · rename_i h1; exact absurd h h1
theorem st_small {c : Int} {l : List (Int × Int)} (hc : c ≤ 6) (h : stL c l = 0) : SmL l := fun p hp => by
  have := stE_ok (stL_ok h p hp)
  exact ⟨by omega, by omega, by omega, by omega⟩
/-- the walk behind the streets: one comes to all corners. -/
abbrev PostC (r : Int) (w : World) (e : Ending) (w' : World) : Prop := e = .returned (.int .i64 r) ∧ Fut w w'
theorem reti {k : IntKind} {a b : Int} (h : a = b) : Ending.returned (.int k a) = .returned (.int k b) := by rw [h]
set_option maxRecDepth 100000 in
set_option maxHeartbeats 4000000 in
theorem check_in (c : Nat) (a : Option Addr) (cap : Nat) (ss : List (Int × Int)) (w : World) (hS : StrAt w a ss) (hc1 : 1 ≤ c) (hc6 : c ≤ 6) (hl : ss.length ≤ 9) :
    Calls Try.prog 18 #[mapV c a ss.length cap] w (PostC (chkM c ss) w) := by
  have HK : Hid (∀ r, (stL c ss ≠ 0 → stL c ss = r) → (stL c ss = 0 → r = if reachM ss (2 ^ ss.length - 1) c 1 = 2 ^ c - 1 then 0 else 5) → chkM c ss = r) := Lib.hid (fun r h1 h2 => by
    unfold chkM
    rw [if_neg (by omega), if_neg (by omega), Int.toNat_natCast]
    by_cases h : stL c ss = 0
    · rw [if_pos h]; exact (h2 h).symm
    · rw [if_neg h]; exact h1 h)
  have HS := Lib.hid hS
  have hcx1 : 1 ≤ (c : Int) := by omega
  have hcx6 : (c : Int) ≤ 6 := by omega
  have hlx : (ss.length : Int) ≤ 9 := by omega
  clear hS
  go_enter Try.func18, Try.ntmps18
  go_wp2_with fail
  have hB := BoxM.new w c a ss.length cap 24
  have hF : Fut w (w.alloc (.cells #[.int .i64 c, .slice a ss.length cap] 24)) := Fut.alloc _ _
  generalize w.alloc (.cells #[.int .i64 c, .slice a ss.length cap] 24) = W1 at *
  generalize w.heap.size = B at *
  have HB := Lib.hid hB
  have HF := Lib.hid hF
  clear hB hF
  go_loopw [20] (fun iv wr => ∃ k : Nat, k ≤ ss.length ∧ iv = .int .i64 k ∧ Hid (stL c (ss.drop k) = stL c ss) ∧ Hid (Fut W1 wr)) (fun iv _ => ss.length - (intOf iv).toNat)
  case atStart => exact ⟨0, Nat.zero_le _, rfl, Lib.hid rfl, Lib.hid Fut.rfl⟩
  case round =>
    obtain ⟨k, hk, rfl, HO, HR⟩ := hrel
    obtain ⟨hb, b0, b1⟩ := HB.out.fut HR.out
    by_cases hlt : k < ss.length
    · have hkx : (k : Int) < ss.length := by omega
      obtain ⟨bb, off, ea, hbb, c1, c2⟩ := ((HS.out.fut HF.out).fut HR.out) k hlt
      subst ea
      have hd := str_drop ss k hlt
      rw [hd] at HO
      have HO1 : Hid (stE c (str ss k) ≠ 0 → stL c ss = stE c (str ss k)) := Lib.hid (fun h => by rw [← HO.out]; unfold stL; rw [if_neg h])
      have HO2 : Hid (stE c (str ss k) = 0 → stL c (ss.drop (k + 1)) = stL c ss) := Lib.hid (fun h => by rw [← HO.out]; conv => rhs; unfold stL; rw [if_pos h])
      clear hd HO
      generalize str ss k = p at *
      obtain ⟨x, y⟩ := p
      dsimp only at *
      have H1 := Lib.hid (fun W => isIndex_any x c W)
      have H2 := Lib.hid (fun W => isIndex_any y c W)
      have hE : Hid (stE c (x, y) = if inB c x && inB c y then (if y ≤ x then 7 else 0) else 2) := Lib.hid rfl
      cases hx : inB c x
      · rw [hx] at H1 hE
        have hR : Hid (stL c ss = 2) := Lib.hid (by rw [HO1.out (by rw [hE.out]; simp), hE.out]; rfl)
        clear hE HO1 HO2
        go_wp2_with (go_at_call 58; refine (H1.out _).mono ?_; rintro _ _ ⟨rfl, rfl⟩)
        go_ret
        exact ⟨reti (HK.out 2 (fun _ => hR.out) (fun h => by rw [hR.out] at h; omega)).symm, (HF.out.trans HR.out).trans (Fut.alloc _ _)⟩
      · cases hy : inB c y
        · rw [hx] at H1 hE
          rw [hy] at H2 hE
          have hR : Hid (stL c ss = 2) := Lib.hid (by rw [HO1.out (by rw [hE.out]; simp), hE.out]; rfl)
          clear hE HO1 HO2
          go_wp2_with (first | (go_at_call 58; (with_reducible refine (H1.out _).mono ?_); rintro _ _ ⟨rfl, rfl⟩) | (go_at_call 58; (with_reducible refine (H2.out _).mono ?_); rintro _ _ ⟨rfl, rfl⟩))
          go_ret
          exact ⟨reti (HK.out 2 (fun _ => hR.out) (fun h => by rw [hR.out] at h; omega)).symm, (HF.out.trans HR.out).trans (Fut.alloc _ _)⟩
        · rw [hx] at H1 hE
          rw [hy] at H2 hE
          by_cases hxy : y ≤ x
          · have hR : Hid (stL c ss = 7) := Lib.hid (by rw [HO1.out (by rw [hE.out]; simp [hxy]), hE.out]; simp [hxy])
            clear hE HO1 HO2
            go_wp2_with (first | (go_at_call 58; (with_reducible refine (H1.out _).mono ?_); rintro _ _ ⟨rfl, rfl⟩) | (go_at_call 58; (with_reducible refine (H2.out _).mono ?_); rintro _ _ ⟨rfl, rfl⟩))
            go_ret
            exact ⟨reti (HK.out 7 (fun _ => hR.out) (fun h => by rw [hR.out] at h; omega)).symm, (HF.out.trans HR.out).trans (Fut.alloc _ _)⟩
          · have hR := Lib.hid (HO2.out (by rw [hE.out]; simp [hxy]))
            clear hE HO1 HO2
            go_wp2_with (first | (go_at_call 58; (with_reducible refine (H1.out _).mono ?_); rintro _ _ ⟨rfl, rfl⟩) | (go_at_call 58; (with_reducible refine (H2.out _).mono ?_); rintro _ _ ⟨rfl, rfl⟩))
            go_roundw
            case rel => exact ⟨k + 1, by omega, by go_num, hR, Lib.hid (HR.out.trans (Fut.alloc _ _))⟩
            case measure => simp [intOf]; omega
    · obtain rfl : k = ss.length := by omega
      have hE0 : stL c ss = 0 := by rw [← HO.out, List.drop_of_length_le (Nat.le_refl _)]; rfl
      have hp := st_small (by omega) hE0
      have HRC : Hid (∀ W, Fut w W → Calls Try.prog 59 #[mapV c a ss.length cap, .int .i64 0, sv (2 ^ ss.length - 1)] W fun e w' => e = .returned (sv (reachM ss (2 ^ ss.length - 1) c 1)) ∧ Fut W w') := Lib.hid (fun W F => reached_any c a cap ss (2 ^ ss.length - 1) 0 W (HS.out.fut F) (by omega) hp (mask_lt (by omega)) (by omega) (by omega))
      have HAL := Lib.hid (fun W => all_any c a ss.length cap W (by omega))
      have HBL := Lib.hid (fun W => below_any c W (by omega))
      have hrl := reachM_lt hp (2 ^ ss.length - 1) c 1 (by decide)
      have HK2 : Hid (∀ r, r = (if reachM ss (2 ^ ss.length - 1) c 1 = 2 ^ c - 1 then 0 else 5) → chkM c ss = r) := Lib.hid (fun r h => HK.out r (fun h0 => absurd hE0 h0) (fun _ => h))
      clear HK hE0 hp HO
      have hbl := mask_lt (n := c) (by omega)
      generalize 2 ^ ss.length - 1 = m at *
      generalize 2 ^ c - 1 = mc at *
      generalize hrr : reachM ss m c 1 = rr at *
      have HRR := Lib.hid hrr
      clear hrr
      have HFR : Hid (Fut w wr) := Lib.hid (HF.out.trans HR.out)
      have HBR : Hid (BoxM wr B c a ss.length cap) := Lib.hid ⟨hb, b0, b1⟩
      have HFD : Hid (Fut w wr.drew) := Lib.hid (HFR.out.trans (Fut.drewN _ 1))
      have HBD : Hid (BoxM wr.drew B c a ss.length cap) := Lib.hid (HBR.out.fut (Fut.drewN _ 1))
      go_wp2_with fail
      go_region_held3 (fun w' => w'.cell? ⟨B, 0, none⟩ = some (.int .i64 c) ∧ w'.cell? ⟨B, 1, none⟩ = some (.slice a ss.length cap)) (first | exact ⟨a0, a1⟩ | exact ⟨b0', b1'⟩ | go_keep)
        (first
          | (go_at_call 55; (with_reducible refine (HAL.out _).mono ?_); rintro _ wa ⟨rfl, Fa⟩; have ga := HBD.out.fut Fa; obtain ⟨ha, a0, a1⟩ := ga)
          | (go_at_call 59; (with_reducible refine (HRC.out _ (HFD.out.trans Fa)).mono ?_); rintro _ wb ⟨rfl, Fb⟩; have gb := BoxM.fut ⟨ha, a0, a1⟩ Fb; obtain ⟨hb', b0', b1'⟩ := gb)
          | (go_at_call 60; (with_reducible refine (HBL.out _).mono ?_); rintro _ _ ⟨rfl, rfl⟩))
      by_cases hq : rr = mc
      · have hq' : ((rr : Int) != mc) = false := by rw [hq]; simp
        have hK := Lib.hid (HK2.out 0 (by rw [if_pos hq]))
        go_wp2
        go_ret
        exact ⟨reti hK.out.symm, ((HFD.out.trans Fa).trans Fb)⟩
      · have hq' : ((rr : Int) != mc) = true := by rw [bne_iff_ne]; omega
        have hK := Lib.hid (HK2.out 5 (by rw [if_neg hq]))
        go_wp2
        go_ret
        exact ⟨reti hK.out.symm, ((HFD.out.trans Fa).trans Fb)⟩

set_option maxRecDepth 100000 in
set_option maxHeartbeats 1000000 in
theorem check_any' (c : Int) (a : Option Addr) (cap : Nat) (ss : List (Int × Int)) (w : World) (hS : StrAt w a ss) :
    Calls Try.prog 18 #[mapV c a ss.length cap] w (PostC (chkM c ss) w) := by
  by_cases hc : c < 1 ∨ 6 < c
  · have e : chkM c ss = 1 := by unfold chkM; rw [if_pos hc]
    rw [e]
    clear hS e
    rcases hc with hc | hc
    · go_enter Try.func18, Try.ntmps18
      go_wp2
      go_ret
      exact ⟨rfl, Fut.alloc _ _⟩
    · have hc' : ¬ c < 1 := by omega
      go_enter Try.func18, Try.ntmps18
      go_wp2
      go_ret
      exact ⟨rfl, Fut.alloc _ _⟩
  · by_cases hl : 9 < ss.length
    · have e : chkM c ss = 3 := by unfold chkM; rw [if_neg hc, if_pos hl]
      rw [e]
      have h1 : 1 ≤ c := by omega
      have h2 : c ≤ 6 := by omega
      have h3 : (9 : Int) < ss.length := by omega
      clear hS e hc
      go_enter Try.func18, Try.ntmps18
      go_wp2
      go_ret
      exact ⟨rfl, Fut.alloc _ _⟩
    · obtain ⟨n, rfl⟩ := Int.eq_ofNat_of_zero_le (show 0 ≤ c by omega)
      exact check_in n a cap ss w hS (by omega) (by omega) (by omega)
end Go.Proofs.Ytimddkofcejijaa
