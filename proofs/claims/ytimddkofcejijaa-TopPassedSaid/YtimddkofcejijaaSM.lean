/- Layer 2: the reference's Check. -/
import Derived.Test.YtimddkofcejijaaRS
import Derived.Test.YtimddkofcejijaaSL
namespace Go.Proofs.Ytimddkofcejijaa
open Go.RowKit Go.Sort
theorem inR_any (x : Int) (c : Int) (w : World) : Calls Try.prog 61 #[.int .i64 x, .int .i64 0, .int .i64 (c - 1)] w fun e w' => e = .returned (.bool (inB c x)) ∧ w = w' := by
  go_enter Try.func61, Try.ntmps61
  go_wp2
  all_goals
    go_ret
    exact ⟨retb (by rw [Bool.eq_iff_iff]; simp [inB]; omega), rfl⟩
theorem inR_lim (x lo hi : Int) (w : World) : Calls Try.prog 61 #[.int .i64 x, .int .i64 lo, .int .i64 hi] w fun e w' => e = .returned (.bool (decide (lo ≤ x) && decide (x ≤ hi))) ∧ w = w' := by
  go_enter Try.func61, Try.ntmps61
  go_wp2
  all_goals
    go_ret
    exact ⟨retb (by simp; omega), rfl⟩
theorem hasR_any (a : Option Addr) (cap : Nat) (zs : List Int) (x : Int) (w : World) (hA : IntsAt w a zs) (hl : zs.length ≤ 1000) :
    Calls Try.prog 62 #[.slice a zs.length cap, .int .i64 x] w fun e w' => e = .returned (.bool (zs.contains x)) ∧ w = w' := by
  have HA := Lib.hid hA
  have hlx : (zs.length : Int) ≤ 1000 := by omega
  clear hA
  generalize hE : zs.contains x = E at *
  have HE := Lib.hid hE
  clear hE
  go_enter Try.func62, Try.ntmps62
  go_wp2_with fail
  go_loop [5] (fun iv => ∃ k : Nat, k ≤ zs.length ∧ iv = .int .i64 k ∧ Hid ((zs.drop k).contains x = E)) (fun iv => zs.length - (intOf iv).toNat)
  case atStart => exact ⟨0, Nat.zero_le _, rfl, HE⟩
  case round =>
    obtain ⟨k, hk, rfl, HO⟩ := hrel
    by_cases hlt : k < zs.length
    · have hkx : (k : Int) < zs.length := by omega
      obtain ⟨b, off, ea, hb, c1⟩ := HA.out k hlt
      subst ea
      have hd := nth_drop zs k hlt
      rw [hd, List.contains_cons] at HO
      generalize nth zs k = z at *
      clear hd HA
      by_cases hq : x = z
      · have hb2 : (x == z) = true := by rw [hq]; simp
        rw [hb2, Bool.true_or] at HO
        have hE : E = true := HO.out.symm
        subst hE
        subst hq
        clear hb2
        go_wp2
        go_ret
        exact ⟨rfl, rfl⟩
      · have hb2 : (x == z) = false := by rw [beq_eq_false_iff_ne]; exact hq
        have hb3 : (z == x) = false := by rw [beq_eq_false_iff_ne]; exact fun h => hq h.symm
        rw [hb2, Bool.false_or] at HO
        go_wp2
        go_round
        case rel => exact ⟨k + 1, by omega, by go_num, HO⟩
        case measure => simp [intOf]; omega
    · obtain rfl : k = zs.length := by omega
      rw [List.drop_of_length_le (Nat.le_refl _)] at HO
      have hE : E = false := HO.out.symm
      subst hE
      go_wp2
      go_ret
      exact ⟨rfl, rfl⟩
/-- the corners met so far, when those before the i-th one are done. -/
def BInv (n : Nat) (ss : List (Int × Int)) (i : Nat) (M : List Int) : Prop :=
  M.Nodup ∧ (0 : Int) ∈ M ∧ (∀ x ∈ M, 0 ≤ x ∧ x < (n : Int)) ∧ (∀ T : Int → Prop, ClosedP ss T → T 0 → ∀ x ∈ M, T x) ∧ (∀ j, j < i → ∀ p ∈ ss, (p.1 = nth M j → p.2 ∈ M) ∧ (p.2 = nth M j → p.1 ∈ M))
/-- a corner's streets that are done. -/
def BPart (r : List (Int × Int)) (x : Int) (M : List Int) : Prop := ∀ p ∈ r, (p.1 = x → p.2 ∈ M) ∧ (p.2 = x → p.1 ∈ M)
theorem nth_app {M : List Int} {j : Nat} (h : j < M.length) (y : Int) : nth (M ++ [y]) j = nth M j := by
  rw [nth_eq, nth_eq, List.getElem?_append_left h]
theorem nth_mem {M : List Int} {j : Nat} (h : j < M.length) : nth M j ∈ M := by
  rw [nth_eq, List.getElem?_eq_getElem h]; exact List.getElem_mem h
theorem BInv.app {n : Nat} {ss : List (Int × Int)} {i : Nat} {M : List Int} (h : BInv n ss i M) (hi : i ≤ M.length) {y : Int} (hy : y ∉ M) (h0 : 0 ≤ y ∧ y < (n : Int)) (hT : ∀ T : Int → Prop, ClosedP ss T → T 0 → T y) : BInv n ss i (M ++ [y]) := by
  obtain ⟨a, b, c, d, e⟩ := h
  refine ⟨?_, List.mem_append_left _ b, fun x hx => ?_, fun T h1 h2 x hx => ?_, fun j hj p hp => ?_⟩
  · rw [List.nodup_append]
    exact ⟨a, by simp, fun u hu v hv => by simp at hv; subst hv; exact fun e => hy (e ▸ hu)⟩
  · rcases List.mem_append.1 hx with hx | hx
    · exact c x hx
    · simp at hx; subst hx; exact h0
  · rcases List.mem_append.1 hx with hx | hx
    · exact d T h1 h2 x hx
    · simp at hx; subst hx; exact hT T h1 h2
  · rw [nth_app (by omega)]
    have := e j hj p hp
    exact ⟨fun h => List.mem_append_left _ (this.1 h), fun h => List.mem_append_left _ (this.2 h)⟩
theorem BPart.app {r : List (Int × Int)} {x : Int} {M : List Int} (h : BPart r x M) (y : Int) : BPart r x (M ++ [y]) := fun p hp =>
  ⟨fun e => List.mem_append_left _ ((h p hp).1 e), fun e => List.mem_append_left _ ((h p hp).2 e)⟩
theorem BPart.next {r : List (Int × Int)} {x : Int} {M : List Int} (h : BPart r x M) {p : Int × Int} (h1 : p.1 = x → p.2 ∈ M) (h2 : p.2 = x → p.1 ∈ M) : BPart (r ++ [p]) x M := fun q hq => by
  rcases List.mem_append.1 hq with hq | hq
  · exact h q hq
  · simp at hq; subst hq; exact ⟨h1, h2⟩
theorem BInv.next {n : Nat} {ss : List (Int × Int)} {i : Nat} {M : List Int} (h : BInv n ss i M) (hp : BPart ss (nth M i) M) : BInv n ss (i + 1) M := by
  obtain ⟨a, b, c, d, e⟩ := h
  refine ⟨a, b, c, d, fun j hj p hq => ?_⟩
  rcases Nat.lt_or_ge j i with h | h
  · exact e j h p hq
  · obtain rfl : j = i := by omega
    exact hp p hq
theorem BInv.one (n : Nat) (ss : List (Int × Int)) (hn : 1 ≤ n) : BInv n ss 0 [0] :=
  ⟨by simp, by simp, fun x hx => by simp at hx; subst hx; omega, fun T _ h x hx => by simp at hx; subst hx; exact h, fun j hj => absurd hj (by omega)⟩
theorem BInv.len {n : Nat} {ss : List (Int × Int)} {i : Nat} {M : List Int} (h : BInv n ss i M) : M.length ≤ n := by
  have h := List.Nodup.length_le_of_subset (l₁ := M) (l₂ := (List.range n).map fun (k : Nat) => (k : Int)) h.1 fun x hx => by
    have := h.2.2.1 x hx
    exact List.mem_map.2 ⟨x.toNat, List.mem_range.2 (by omega), by omega⟩
  simpa using h
theorem BInv.done {n : Nat} {ss : List (Int × Int)} {M : List Int} (hp : ∀ p ∈ ss, 0 ≤ p.1 ∧ p.1 < p.2 ∧ p.2 < (n : Int)) (hn : 1 ≤ n) (h : BInv n ss M.length M) : (reachM ss (2 ^ ss.length - 1) n 1 = 2 ^ n - 1) ↔ ¬ M.length < n := by
  obtain ⟨a, b, c, d, e⟩ := h
  refine reach_list hp hn a b c (fun p hq => ?_) d
  have idx : ∀ x ∈ M, ∃ j, j < M.length ∧ x = nth M j := fun x hx => by
    obtain ⟨j, hj, rfl⟩ := List.getElem_of_mem hx
    exact ⟨j, hj, by rw [nth_eq, List.getElem?_eq_getElem hj]; rfl⟩
  constructor
  · intro hx
    obtain ⟨j, hj, ex⟩ := idx _ hx
    exact (e j hj p hq).1 ex
  · intro hx
    obtain ⟨j, hj, ex⟩ := idx _ hx
    exact (e j hj p hq).2 ex
theorem take_str (ss : List (Int × Int)) (k : Nat) (h : k < ss.length) : ss.take (k + 1) = ss.take k ++ [str ss k] := by
  rw [List.take_add_one, str_eq, List.getElem?_eq_getElem h]; rfl
theorem str_mem (ss : List (Int × Int)) (k : Nat) (h : k < ss.length) : str ss k ∈ ss := by
  rw [str_eq, List.getElem?_eq_getElem h]; exact List.getElem_mem h
theorem drewN_cell {w : World} {p : Addr} {v : Value} (h : w.cell? p = some v) (n : Nat) : (w.drewN n).cell? p = some v := by simpa [go_sem] using h
theorem Fut.grown' {W w1 : World} {G : Nat} {v : Value} {zs : List Int} {o : Obj} {x : World} (h : Fut W (x.alloc o)) (hg : (x.alloc o).grownBy w1 v.ownBlock) (hO : Owns x G v zs) (hG : W.heap.size ≤ G) : Fut W w1 :=
  RowKit.Below.grown h hg (RowKit.Below.size h) fun i hi => Nat.le_trans hG (World.ownsRow.lt hO i hi).1
set_option maxRecDepth 100000 in
set_option maxHeartbeats 4000000 in
theorem checkR_in (c : Nat) (a : Option Addr) (cap : Nat) (ss : List (Int × Int)) (w : World) (hS : StrAt w a ss) (hc1 : 1 ≤ c) (hc6 : c ≤ 6) (hl : ss.length ≤ 9) :
    Calls Try.prog 19 #[mapV c a ss.length cap] w (PostC (chkM c ss) w) := by
  have HK : Hid (∀ r, (stL c ss ≠ 0 → stL c ss = r) → (stL c ss = 0 → r = if reachM ss (2 ^ ss.length - 1) c 1 = 2 ^ c - 1 then 0 else 5) → chkM c ss = r) := Lib.hid (fun r h1 h2 => by
    unfold chkM
    rw [if_neg (by omega), if_neg (by omega), Int.toNat_natCast]
    by_cases h : stL c ss = 0
    · rw [if_pos h]; exact (h2 h).symm
    · rw [if_neg h]; exact h1 h)
  have HS := Lib.hid hS
  have hcx1 : 1 ≤ (c : Int) := by omega
  have hcx6 : (c : Int) ≤ 6 := by omega
  have hlx : (ss.length : Int) ≤ 9 := by omega
  clear hS
  obtain ⟨i0, hi0, hz0, hz1, hz2⟩ := info_parts info3
  go_enter Try.func19, Try.ntmps19
  go_wp2_with fail
  have hB := BoxM.new w c a ss.length cap 28
  have hF : Fut w (w.alloc (.cells #[.int .i64 c, .slice a ss.length cap] 28)) := Fut.alloc _ _
  generalize w.alloc (.cells #[.int .i64 c, .slice a ss.length cap] 28) = W1 at *
  generalize w.heap.size = B at *
  have HB := Lib.hid hB
  have HF := Lib.hid hF
  obtain ⟨hb, b0, b1⟩ := hB
  clear hF
  have HL1 := Lib.hid (fun W => inR_lim (c : Int) 1 6 W)
  have hdec : (decide ((1 : Int) ≤ c) && decide ((c : Int) ≤ 6)) = true := by simp; omega
  rw [hdec] at HL1
  clear hdec
  go_wp2_with (go_at_call 61; refine (HL1.out _).mono ?_; rintro _ _ ⟨rfl, rfl⟩)
  clear HL1 hb b0 b1
  go_loopw [3] (fun iv wr => ∃ k : Nat, k ≤ ss.length ∧ iv = .int .i64 k ∧ Hid (stL c (ss.drop k) = stL c ss) ∧ Hid (Fut W1 wr)) (fun iv _ => ss.length - (intOf iv).toNat)
  case atStart => exact ⟨0, Nat.zero_le _, rfl, Lib.hid rfl, Lib.hid Fut.rfl⟩
  case round =>
    obtain ⟨k, hk, rfl, HO, HR⟩ := hrel
    obtain ⟨hb, b0, b1⟩ := HB.out.fut HR.out
    by_cases hlt : k < ss.length
    · have hkx : (k : Int) < ss.length := by omega
      obtain ⟨bb, off, ea, hbb, c1, c2⟩ := ((HS.out.fut HF.out).fut HR.out) k hlt
      subst ea
      have hd := str_drop ss k hlt
      rw [hd] at HO
      have HO1 : Hid (stE c (str ss k) ≠ 0 → stL c ss = stE c (str ss k)) := Lib.hid (fun h => by rw [← HO.out]; unfold stL; rw [if_neg h])
      have HO2 : Hid (stE c (str ss k) = 0 → stL c (ss.drop (k + 1)) = stL c ss) := Lib.hid (fun h => by rw [← HO.out]; conv => rhs; unfold stL; rw [if_pos h])
      clear hd HO
      generalize str ss k = p at *
      obtain ⟨x, y⟩ := p
      dsimp only at *
      have H1 := Lib.hid (fun W => inR_any x c W)
      have H2 := Lib.hid (fun W => inR_any y c W)
      have hE : Hid (stE c (x, y) = if inB c x && inB c y then (if y ≤ x then 7 else 0) else 2) := Lib.hid rfl
      cases hx : inB c x
      · rw [hx] at H1 hE
        have hR : Hid (stL c ss = 2) := Lib.hid (by rw [HO1.out (by rw [hE.out]; simp), hE.out]; rfl)
        clear hE HO1 HO2
        go_wp2_with (go_at_call 61; refine (H1.out _).mono ?_; rintro _ _ ⟨rfl, rfl⟩)
        go_ret
        exact ⟨reti (HK.out 2 (fun _ => hR.out) (fun h => by rw [hR.out] at h; omega)).symm, (HF.out.trans HR.out).trans (Fut.alloc _ _)⟩
      · cases hy : inB c y
        · rw [hx] at H1 hE
          rw [hy] at H2 hE
          have hR : Hid (stL c ss = 2) := Lib.hid (by rw [HO1.out (by rw [hE.out]; simp), hE.out]; rfl)
          clear hE HO1 HO2
          go_wp2_with (first | (go_at_call 61; (with_reducible refine (H1.out _).mono ?_); rintro _ _ ⟨rfl, rfl⟩) | (go_at_call 61; (with_reducible refine (H2.out _).mono ?_); rintro _ _ ⟨rfl, rfl⟩))
          go_ret
          exact ⟨reti (HK.out 2 (fun _ => hR.out) (fun h => by rw [hR.out] at h; omega)).symm, (HF.out.trans HR.out).trans (Fut.alloc _ _)⟩
        · rw [hx] at H1 hE
          rw [hy] at H2 hE
          by_cases hxy : y ≤ x
          · have hR : Hid (stL c ss = 7) := Lib.hid (by rw [HO1.out (by rw [hE.out]; simp [hxy]), hE.out]; simp [hxy])
            clear hE HO1 HO2
            go_wp2_with (first | (go_at_call 61; (with_reducible refine (H1.out _).mono ?_); rintro _ _ ⟨rfl, rfl⟩) | (go_at_call 61; (with_reducible refine (H2.out _).mono ?_); rintro _ _ ⟨rfl, rfl⟩))
            go_ret
            exact ⟨reti (HK.out 7 (fun _ => hR.out) (fun h => by rw [hR.out] at h; omega)).symm, (HF.out.trans HR.out).trans (Fut.alloc _ _)⟩
          · have hR := Lib.hid (HO2.out (by rw [hE.out]; simp [hxy]))
            clear hE HO1 HO2
            go_wp2_with (first | (go_at_call 61; (with_reducible refine (H1.out _).mono ?_); rintro _ _ ⟨rfl, rfl⟩) | (go_at_call 61; (with_reducible refine (H2.out _).mono ?_); rintro _ _ ⟨rfl, rfl⟩))
            go_roundw
            case rel => exact ⟨k + 1, by omega, by go_num, hR, Lib.hid (HR.out.trans (Fut.alloc _ _))⟩
            case measure => simp [intOf]; omega
    · obtain rfl : k = ss.length := by omega
      have hE0 : stL c ss = 0 := by rw [← HO.out, List.drop_of_length_le (Nat.le_refl _)]; rfl
      have hp : ∀ p ∈ ss, 0 ≤ p.1 ∧ p.1 < p.2 ∧ p.2 < (c : Int) := fun p h => stE_ok (stL_ok hE0 p h)
      have HP := Lib.hid hp
      have HK2 : Hid (∀ r, r = (if reachM ss (2 ^ ss.length - 1) c 1 = 2 ^ c - 1 then 0 else 5) → chkM c ss = r) := Lib.hid (fun r h => HK.out r (fun h0 => absurd hE0 h0) (fun _ => h))
      clear HK hE0 hp HO
      go_wp2_with fail
      have hO : Owns (wr.alloc (.cells #[.int .i64 0] 3)) wr.heap.size (.slice (some ⟨wr.heap.size, 0, none⟩) 1 1) [0] :=
        World.ownsRow_lit (base := wr.heap.size) (e := 3) (size := 1) wr #[.int .i64 0] 1 (Nat.le_refl _) (by unfold maxLen; omega) rfl
      have hF2 : Fut W1 (wr.alloc (.cells #[.int .i64 0] 3)) := HR.out.trans (Fut.alloc _ _)
      have hG : W1.heap.size ≤ wr.heap.size := RowKit.Below.size HR.out
      have hG2 : wr.heap.size ≤ (wr.alloc (.cells #[.int .i64 0] 3)).heap.size := by simp
      generalize wr.alloc (.cells #[.int .i64 0] 3) = w2 at *
      generalize wr.heap.size = G at *
      have HO := Lib.hid hO
      have HF2 : Hid (Fut W1 w2 ∧ G ≤ w2.heap.size) := Lib.hid ⟨hF2, hG2⟩
      have HGW := Lib.hid hG
      clear hO hF2 hG hG2 hb b0 b1 HR
      go_loopw [5, 6] (fun mv iv wx => ∃ (i : Nat) (M : List Int), i ≤ M.length ∧ iv = .int .i64 i ∧ Hid (BInv c ss i M) ∧ Hid (Owns wx G mv M) ∧ Hid (Fut W1 wx ∧ G ≤ wx.heap.size)) (fun _ iv _ => c - (intOf iv).toNat)
      case atStart => exact ⟨0, [0], Nat.zero_le _, rfl, Lib.hid (BInv.one c ss hc1), HO, HF2⟩
      case round =>
        clear HO HF2
        obtain ⟨i, M, hi, rfl, HI, HOW, HFX⟩ := hrel
        have hMc := HI.out.len
        have hMx : (M.length : Int) ≤ 6 := by omega
        by_cases hlt : i < M.length
        · have hix : (i : Int) < M.length := by omega
          have HX0 : Hid (nth M i = nth M i) := Lib.hid rfl
          obtain ⟨ma0, mc0, rfl, _⟩ := HOW.out.ints
          generalize hx : nth M i = x at HX0
          go_wp2_with fail
          go_loopw [5, 7] (fun mv kv wy => ∃ (k : Nat) (M2 : List Int), k ≤ ss.length ∧ kv = .int .i64 k ∧ i < M2.length ∧ Hid (nth M2 i = x) ∧ Hid (BInv c ss i M2) ∧ Hid (BPart (ss.take k) x M2) ∧ Hid (Owns wy G mv M2) ∧ Hid (Fut W1 wy ∧ G ≤ wy.heap.size)) (fun _ kv _ => ss.length - (intOf kv).toNat)
          case atStart => exact ⟨0, M, Nat.zero_le _, rfl, hlt, Lib.hid hx, HI, Lib.hid (fun p hp => by simp at hp), HOW, HFX⟩
          case round =>
            clear HI HOW HFX hMc hMx hlt hix HX0
            clear hi hx
            obtain ⟨k, M2, hk, rfl, hil, HX, HI, HPT, HOW, HFX⟩ := hrel
            obtain ⟨hb, b0, b1⟩ := HB.out.fut HFX.out.1
            have hMc := HI.out.len
            have hMx : (M2.length : Int) ≤ 6 := by omega
            have hix : (i : Int) < M2.length := by omega
            by_cases hlt : k < ss.length
            · have hkx : (k : Int) < ss.length := by omega
              obtain ⟨bb, off, ea, hbb, c1, c2⟩ := ((HS.out.fut HF.out).fut HFX.out.1) k hlt
              subst ea
              have HPK := Lib.hid (HP.out _ (str_mem ss k hlt))
              have HSM := Lib.hid (str_mem ss k hlt)
              have HTK := Lib.hid (take_str ss k hlt)
              generalize str ss k = p at *
              obtain ⟨y, z⟩ := p
              dsimp only at c1 c2
              go_upto_region 21 with fail
              have F5 : Fut wr (wr.alloc (.cells #[.int .i64 y, .int .i64 z] 65)) := Fut.alloc _ _
              have l0 : (wr.alloc (.cells #[.int .i64 y, .int .i64 z] 65)).cell? ⟨wr.heap.size, 0, none⟩ = some (.int .i64 y) := by simp [go_sem]
              have l1 : (wr.alloc (.cells #[.int .i64 y, .int .i64 z] 65)).cell? ⟨wr.heap.size, 1, none⟩ = some (.int .i64 z) := by simp [go_sem]
              have HG5 : Hid (Fut W1 (wr.alloc (.cells #[.int .i64 y, .int .i64 z] 65)) ∧ G ≤ (wr.alloc (.cells #[.int .i64 y, .int .i64 z] 65)).heap.size) := Lib.hid ⟨HFX.out.1.trans F5, Nat.le_trans HFX.out.2 (RowKit.Below.size F5)⟩
              generalize wr.alloc (.cells #[.int .i64 y, .int .i64 z] 65) = w5 at *
              generalize wr.heap.size = L at *
              have HOW5 := Lib.hid (HOW.out.fut F5)
              clear hb b0 b1 c1 c2 F5 HOW HFX
              obtain ⟨ma, mc, hmv, hI5⟩ := HOW5.out.ints
              subst hmv
              have HZ1 : Hid (∀ W, Fut w5 W → Calls Try.prog 62 #[.slice ma M2.length mc, .int .i64 z] W fun e w' => e = .returned (.bool (M2.contains z)) ∧ w' = W) := Lib.hid (fun W F => (hasR_any ma mc M2 z W (hI5.fut F) (by omega)).mono fun _ _ h => ⟨h.1, h.2.symm⟩)
              have HZ2 : Hid (∀ W, Fut w5 W → Calls Try.prog 62 #[.slice ma M2.length mc, .int .i64 y] W fun e w' => e = .returned (.bool (M2.contains y)) ∧ w' = W) := Lib.hid (fun W F => (hasR_any ma mc M2 y W (hI5.fut F) (by omega)).mono fun _ _ h => ⟨h.1, h.2.symm⟩)
              obtain ⟨mb, moff, ea2, hmb, m1⟩ := hI5 i hil
              clear hI5
              subst ea2
              rw [HX.out] at m1
              have HOW_w5 := HOW5
              have HG_w5 := HG5
              have F5_w5 : Fut w5 w5 := Fut.rfl
              clear HOW5 HG5
              have hyz : y < z := HPK.out.2.1
              by_cases hyx : y = x
              · subst hyx
                have hq1 : (y == y) = true := by simp
                have hq2 : (z == y) = false := by rw [beq_eq_false_iff_ne]; omega
                cases hc : M2.contains z
                · rw [hc] at HZ1
                  go_quiet (first | (go_at_call 62; exact Calls.quiet_of_same (HZ1.out _ (Fut.drewN _ _))))
                  have HOW_w6 : Hid (Owns (w5.drewN nq) G (.slice (some ⟨mb, moff, none⟩) M2.length mc) M2) := Lib.hid (HOW_w5.out.fut (Fut.drewN _ _))
                  have HG_w6 : Hid (Fut W1 (w5.drewN nq) ∧ G ≤ (w5.drewN nq).heap.size) := Lib.hid ⟨HG_w5.out.1.trans (Fut.drewN _ _), Nat.le_trans HG_w5.out.2 (RowKit.Below.size (Fut.drewN _ _))⟩
                  have F5_w6 : Fut w5 (w5.drewN nq) := F5_w5.trans (Fut.drewN _ _)
                  have k0 := drewN_cell l0 nq
                  have k1 := drewN_cell l1 nq
                  have k2 := drewN_cell m1 nq
                  clear l0 l1 m1
                  generalize w5.drewN nq = w6 at *
                  have l0 := k0
                  have l1 := k1
                  have m1 := k2
                  clear k0 k1 k2
                  go_wp2_with (at_builtin; refine wpList_append_own _ rfl _ _ 25 rfl G 3 i0 (.int .i64 0) 1 8 Try.underlying25 hi0 hz0 hz1 hz2 rfl (by decide) _ _ _ rfl (HOW_w6.out.alloc _) ⟨w6.heap.size, 0, none⟩ 1 1 [.int .i64 z] rfl rfl ?c1z ?c2z ?c3z ?c4z ?c5z ?_)
                  try case c1z => exact World.news_of_block (cs := #[.int .i64 z]) (t := 3) (fr := (0, 0)) (heap_alloc_new _ _)
                  case c2z => first | rfl | (intro u hu; simp at hu; subst hu; rfl)
                  case c3z => unfold maxLen; omega
                  case c4z => omega
                  case c5z => have := HG_w6.out.2; simp; omega
                  · intro v' w9 hown' hgrow _
                    have hO9 : Owns w9 G v' (M2 ++ [z]) := by unfold Owns; simpa using hown'
                    have HO9 := Lib.hid hO9
                    have HF9 : Hid (Fut W1 w9 ∧ G ≤ w9.heap.size) := Lib.hid ⟨(HG_w6.out.1.trans (Fut.alloc _ _)).grown' hgrow HOW_w6.out HGW.out, by have := hgrow.size; have := HG_w6.out.2; simp at *; omega⟩
                    clear hown' hgrow hO9
                    go_wp2
                    go_roundw
                    case rel => exact ⟨k + 1, M2 ++ [z], by omega, by go_num, by simp; omega, Lib.hid (by rw [nth_app hil]; exact HX.out), Lib.hid (HI.out.app (by omega) (by simpa using hc) (by have := HPK.out; omega) fun T h1 h2 => (h1 _ HSM.out).1 (by rw [← HX.out]; exact HI.out.2.2.2.1 T h1 h2 _ (nth_mem hil))), Lib.hid (by rw [HTK.out]; exact (HPT.out.app z).next (fun _ => List.mem_append_right _ (by simp)) (fun e => by have e' : z = y := e; omega)), HO9, HF9⟩
                    case measure => simp [intOf]; omega
                · rw [hc] at HZ1
                  go_quiet (first | (go_at_call 62; exact Calls.quiet_of_same (HZ1.out _ (Fut.drewN _ _))))
                  have HOW_w6 : Hid (Owns (w5.drewN nq) G (.slice (some ⟨mb, moff, none⟩) M2.length mc) M2) := Lib.hid (HOW_w5.out.fut (Fut.drewN _ _))
                  have HG_w6 : Hid (Fut W1 (w5.drewN nq) ∧ G ≤ (w5.drewN nq).heap.size) := Lib.hid ⟨HG_w5.out.1.trans (Fut.drewN _ _), Nat.le_trans HG_w5.out.2 (RowKit.Below.size (Fut.drewN _ _))⟩
                  have F5_w6 : Fut w5 (w5.drewN nq) := F5_w5.trans (Fut.drewN _ _)
                  have k0 := drewN_cell l0 nq
                  have k1 := drewN_cell l1 nq
                  have k2 := drewN_cell m1 nq
                  clear l0 l1 m1
                  generalize w5.drewN nq = w6 at *
                  have l0 := k0
                  have l1 := k1
                  have m1 := k2
                  clear k0 k1 k2
                  go_wp2_with fail
                  go_quiet (fail)
                  have HOW_w7 : Hid (Owns (w6.drewN nq) G (.slice (some ⟨mb, moff, none⟩) M2.length mc) M2) := Lib.hid (HOW_w6.out.fut (Fut.drewN _ _))
                  have HG_w7 : Hid (Fut W1 (w6.drewN nq) ∧ G ≤ (w6.drewN nq).heap.size) := Lib.hid ⟨HG_w6.out.1.trans (Fut.drewN _ _), Nat.le_trans HG_w6.out.2 (RowKit.Below.size (Fut.drewN _ _))⟩
                  have F5_w7 : Fut w5 (w6.drewN nq) := F5_w6.trans (Fut.drewN _ _)
                  have k0 := drewN_cell l0 nq
                  have k1 := drewN_cell l1 nq
                  have k2 := drewN_cell m1 nq
                  clear l0 l1 m1
                  generalize w6.drewN nq = w7 at *
                  have l0 := k0
                  have l1 := k1
                  have m1 := k2
                  clear k0 k1 k2
                  go_wp2
                  go_roundw
                  case rel => exact ⟨k + 1, M2, by omega, by go_num, hil, HX, HI, Lib.hid (by rw [HTK.out]; exact HPT.out.next (fun _ => by simpa using hc) (fun e => by have e' : z = y := e; omega)), HOW_w7, HG_w7⟩
                  case measure => simp [intOf]; omega
              · have hq1 : (y == x) = false := by rw [beq_eq_false_iff_ne]; exact hyx
                go_quiet (fail)
                have HOW_w6 : Hid (Owns (w5.drewN nq) G (.slice (some ⟨mb, moff, none⟩) M2.length mc) M2) := Lib.hid (HOW_w5.out.fut (Fut.drewN _ _))
                have HG_w6 : Hid (Fut W1 (w5.drewN nq) ∧ G ≤ (w5.drewN nq).heap.size) := Lib.hid ⟨HG_w5.out.1.trans (Fut.drewN _ _), Nat.le_trans HG_w5.out.2 (RowKit.Below.size (Fut.drewN _ _))⟩
                have F5_w6 : Fut w5 (w5.drewN nq) := F5_w5.trans (Fut.drewN _ _)
                have k0 := drewN_cell l0 nq
                have k1 := drewN_cell l1 nq
                have k2 := drewN_cell m1 nq
                clear l0 l1 m1
                generalize w5.drewN nq = w6 at *
                have l0 := k0
                have l1 := k1
                have m1 := k2
                clear k0 k1 k2
                by_cases hzx : z = x
                · subst hzx
                  have hq2 : (z == z) = true := by simp
                  cases hc : M2.contains y
                  · rw [hc] at HZ2
                    go_wp2_with fail
                    go_quiet (first | (go_at_call 62; exact Calls.quiet_of_same (HZ2.out _ (F5_w6.trans (Fut.drewN _ _)))))
                    have HOW_w7 : Hid (Owns (w6.drewN nq) G (.slice (some ⟨mb, moff, none⟩) M2.length mc) M2) := Lib.hid (HOW_w6.out.fut (Fut.drewN _ _))
                    have HG_w7 : Hid (Fut W1 (w6.drewN nq) ∧ G ≤ (w6.drewN nq).heap.size) := Lib.hid ⟨HG_w6.out.1.trans (Fut.drewN _ _), Nat.le_trans HG_w6.out.2 (RowKit.Below.size (Fut.drewN _ _))⟩
                    have F5_w7 : Fut w5 (w6.drewN nq) := F5_w6.trans (Fut.drewN _ _)
                    have k0 := drewN_cell l0 nq
                    have k1 := drewN_cell l1 nq
                    have k2 := drewN_cell m1 nq
                    clear l0 l1 m1
                    generalize w6.drewN nq = w7 at *
                    have l0 := k0
                    have l1 := k1
                    have m1 := k2
                    clear k0 k1 k2
                    go_wp2_with (at_builtin; refine wpList_append_own _ rfl _ _ 25 rfl G 3 i0 (.int .i64 0) 1 8 Try.underlying25 hi0 hz0 hz1 hz2 rfl (by decide) _ _ _ rfl (HOW_w7.out.alloc _) ⟨w7.heap.size, 0, none⟩ 1 1 [.int .i64 y] rfl rfl ?c1y ?c2y ?c3y ?c4y ?c5y ?_)
                    try case c1y => exact World.news_of_block (cs := #[.int .i64 y]) (t := 3) (fr := (0, 0)) (heap_alloc_new _ _)
                    case c2y => first | rfl | (intro u hu; simp at hu; subst hu; rfl)
                    case c3y => unfold maxLen; omega
                    case c4y => omega
                    case c5y => have := HG_w7.out.2; simp; omega
                    · intro v' w9 hown' hgrow _
                      have hO9 : Owns w9 G v' (M2 ++ [y]) := by unfold Owns; simpa using hown'
                      have HO9 := Lib.hid hO9
                      have HF9 : Hid (Fut W1 w9 ∧ G ≤ w9.heap.size) := Lib.hid ⟨(HG_w7.out.1.trans (Fut.alloc _ _)).grown' hgrow HOW_w7.out HGW.out, by have := hgrow.size; have := HG_w7.out.2; simp at *; omega⟩
                      clear hown' hgrow hO9
                      go_wp2
                      go_roundw
                      case rel => exact ⟨k + 1, M2 ++ [y], by omega, by go_num, by simp; omega, Lib.hid (by rw [nth_app hil]; exact HX.out), Lib.hid (HI.out.app (by omega) (by simpa using hc) (by have := HPK.out; omega) fun T h1 h2 => (h1 _ HSM.out).2 (by rw [← HX.out]; exact HI.out.2.2.2.1 T h1 h2 _ (nth_mem hil))), Lib.hid (by rw [HTK.out]; exact (HPT.out.app y).next (fun e => by have e' : y = z := e; omega) (fun _ => List.mem_append_right _ (by simp))), HO9, HF9⟩
                      case measure => simp [intOf]; omega
                  · rw [hc] at HZ2
                    go_wp2_with fail
                    go_quiet (first | (go_at_call 62; exact Calls.quiet_of_same (HZ2.out _ (F5_w6.trans (Fut.drewN _ _)))))
                    have HOW_w7 : Hid (Owns (w6.drewN nq) G (.slice (some ⟨mb, moff, none⟩) M2.length mc) M2) := Lib.hid (HOW_w6.out.fut (Fut.drewN _ _))
                    have HG_w7 : Hid (Fut W1 (w6.drewN nq) ∧ G ≤ (w6.drewN nq).heap.size) := Lib.hid ⟨HG_w6.out.1.trans (Fut.drewN _ _), Nat.le_trans HG_w6.out.2 (RowKit.Below.size (Fut.drewN _ _))⟩
                    have F5_w7 : Fut w5 (w6.drewN nq) := F5_w6.trans (Fut.drewN _ _)
                    have k0 := drewN_cell l0 nq
                    have k1 := drewN_cell l1 nq
                    have k2 := drewN_cell m1 nq
                    clear l0 l1 m1
                    generalize w6.drewN nq = w7 at *
                    have l0 := k0
                    have l1 := k1
                    have m1 := k2
                    clear k0 k1 k2
                    go_wp2
                    go_roundw
                    case rel => exact ⟨k + 1, M2, by omega, by go_num, hil, HX, HI, Lib.hid (by rw [HTK.out]; exact HPT.out.next (fun e => by have e' : y = z := e; omega) (fun _ => by simpa using hc)), HOW_w7, HG_w7⟩
                    case measure => simp [intOf]; omega
                · have hq2 : (z == x) = false := by rw [beq_eq_false_iff_ne]; exact hzx
                  go_wp2_with fail
                  go_quiet (fail)
                  have HOW_w7 : Hid (Owns (w6.drewN nq) G (.slice (some ⟨mb, moff, none⟩) M2.length mc) M2) := Lib.hid (HOW_w6.out.fut (Fut.drewN _ _))
                  have HG_w7 : Hid (Fut W1 (w6.drewN nq) ∧ G ≤ (w6.drewN nq).heap.size) := Lib.hid ⟨HG_w6.out.1.trans (Fut.drewN _ _), Nat.le_trans HG_w6.out.2 (RowKit.Below.size (Fut.drewN _ _))⟩
                  have F5_w7 : Fut w5 (w6.drewN nq) := F5_w6.trans (Fut.drewN _ _)
                  have k0 := drewN_cell l0 nq
                  have k1 := drewN_cell l1 nq
                  have k2 := drewN_cell m1 nq
                  clear l0 l1 m1
                  generalize w6.drewN nq = w7 at *
                  have l0 := k0
                  have l1 := k1
                  have m1 := k2
                  clear k0 k1 k2
                  go_wp2
                  go_roundw
                  case rel => exact ⟨k + 1, M2, by omega, by go_num, hil, HX, HI, Lib.hid (by rw [HTK.out]; exact HPT.out.next (fun e => absurd e hyx) (fun e => absurd e hzx)), HOW_w7, HG_w7⟩
                  case measure => simp [intOf]; omega
            · obtain rfl : k = ss.length := by omega
              rw [List.take_length] at HPT
              have HIN := Lib.hid (HI.out.next (by rw [HX.out]; exact HPT.out))
              clear HI HPT HX
              obtain ⟨ma, mc, rfl, _⟩ := HOW.out.ints
              go_wp2_with fail
              go_roundw
              case rel => exact ⟨i + 1, M2, by omega, by go_num, HIN, HOW, HFX⟩
              case measure => simp [intOf]; omega
        · obtain rfl : i = M.length := by omega
          have HDN := Lib.hid (HI.out.done HP.out hc1)
          obtain ⟨ma, mc, rfl, _⟩ := HOW.out.ints
          obtain ⟨hb, b0, b1⟩ := HB.out.fut HFX.out.1
          by_cases hq : M.length < c
          · have hqx : (M.length : Int) < c := by omega
            have hK := Lib.hid (HK2.out 5 (by rw [if_neg (fun h => HDN.out.1 h hq)]))
            clear HDN HK2
            go_wp2
            go_ret
            exact ⟨reti hK.out.symm, HF.out.trans HFX.out.1⟩
          · have hqx : ¬ (M.length : Int) < c := by omega
            have hK := Lib.hid (HK2.out 0 (by rw [if_pos (HDN.out.2 hq)]))
            clear HDN HK2
            go_wp2
            go_ret
            exact ⟨reti hK.out.symm, HF.out.trans HFX.out.1⟩
set_option maxRecDepth 100000 in
set_option maxHeartbeats 1000000 in
theorem checkR_any (c : Int) (a : Option Addr) (cap : Nat) (ss : List (Int × Int)) (w : World) (hS : StrAt w a ss) :
    Calls Try.prog 19 #[mapV c a ss.length cap] w (PostC (chkM c ss) w) := by
  by_cases hc : c < 1 ∨ 6 < c
  · have e : chkM c ss = 1 := by unfold chkM; rw [if_pos hc]
    rw [e]
    have HL1 := Lib.hid (fun W => inR_lim c 1 6 W)
    have hdec : (decide ((1 : Int) ≤ c) && decide (c ≤ 6)) = false := by rw [Bool.and_eq_false_iff, decide_eq_false_iff_not, decide_eq_false_iff_not]; omega
    rw [hdec] at HL1
    clear hS e hc hdec
    go_enter Try.func19, Try.ntmps19
    go_wp2_with (go_at_call 61; refine (HL1.out _).mono ?_; rintro _ _ ⟨rfl, rfl⟩)
    go_ret
    exact ⟨rfl, Fut.alloc _ _⟩
  · by_cases hl : 9 < ss.length
    · have e : chkM c ss = 3 := by unfold chkM; rw [if_neg hc, if_pos hl]
      rw [e]
      have h3 : (9 : Int) < ss.length := by omega
      have HL1 := Lib.hid (fun W => inR_lim c 1 6 W)
      have hdec : (decide ((1 : Int) ≤ c) && decide (c ≤ 6)) = true := by simp; omega
      rw [hdec] at HL1
      clear hS e hc hdec
      go_enter Try.func19, Try.ntmps19
      go_wp2_with (go_at_call 61; refine (HL1.out _).mono ?_; rintro _ _ ⟨rfl, rfl⟩)
      go_ret
      exact ⟨rfl, Fut.alloc _ _⟩
    · obtain ⟨n, rfl⟩ := Int.eq_ofNat_of_zero_le (show 0 ≤ c by omega)
      exact checkR_in n a cap ss w hS (by omega) (by omega) (by omega)
end Go.Proofs.Ytimddkofcejijaa
