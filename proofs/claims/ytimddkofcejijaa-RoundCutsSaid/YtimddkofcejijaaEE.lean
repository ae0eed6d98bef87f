/- Layer 2: the reference's Goes. -/
import Derived.Test.YtimddkofcejijaaED
import Derived.Test.YtimddkofcejijaaRT
namespace Go.Proofs.Ytimddkofcejijaa
open Go.RowKit Go.Sort
theorem oft_zero {m : Nat} {zs : List Int} : (oftL m zs).contains 0 = true ↔ ∃ i, i < m ∧ zs.contains ((i : Nat) : Int) = false := by
  unfold oftL
  rw [List.contains_iff_mem, List.mem_map]
  constructor
  · rintro ⟨i, hi, h⟩
    refine ⟨i, List.mem_range.1 hi, ?_⟩
    have h0 : zs.count (i : Int) = 0 := by omega
    cases hc : zs.contains (i : Int)
    · rfl
    · rw [List.contains_iff_mem, ← List.count_pos_iff] at hc; omega
  · rintro ⟨i, hi, h⟩
    refine ⟨i, List.mem_range.2 hi, ?_⟩
    have h0 : zs.count (i : Int) = 0 := by
      refine Nat.eq_zero_of_not_pos fun hp => ?_
      rw [List.count_pos_iff, ← List.contains_iff_mem, h] at hp; cases hp
    rw [h0]; rfl
theorem take_nth (zs : List Int) (k : Nat) (h : k < zs.length) : zs.take (k + 1) = zs.take k ++ [nth zs k] := by
  rw [List.take_add_one, nth_eq, List.getElem?_eq_getElem h]; rfl
theorem oft_next (zs : List Int) (k : Nat) : oftL (k + 1) zs = oftL k zs ++ [((zs.count (k : Int) : Nat) : Int)] := by
  unfold oftL; rw [List.range_succ, List.map_append]; rfl
def GoS (ss : List (Int × Int)) (zs : List Int) (G : Int × Int) (k x : Nat) (e : Int) : Prop := (e = 0 ∧ goE ss (zs.drop k) x = G) ∨ (e ≠ 0 ∧ G.1 = e)
def GoT (zs : List Int) (m j : Nat) (e : Int) : Prop := (e = 0 ∧ ∀ i : Nat, i < j → zs.contains (i : Int) = true) ∨ (e = 4 ∧ ∃ i : Nat, i < m ∧ zs.contains (i : Int) = false)
set_option maxRecDepth 100000 in
set_option maxHeartbeats 8000000 in
/-- the reference's Goes. -/
theorem goesR_any (c : Int) (a : Option Addr) (cap : Nat) (ss : List (Int × Int)) (d : Option Addr) (dap : Nat) (zs : List Int) (w : World) (hS : StrAt w a ss) (hZ : IntsAt w d zs) (hlz : zs.length ≤ 1000) :
    Calls Try.prog 29 #[mapV c a ss.length cap, .slice d zs.length dap] w (TupL (goesE c ss zs) (goesR c ss zs) w) := by
  have HC := Lib.hid (fun W (F : Fut w W) => checkR_any c a cap ss W (hS.fut F))
  have hzx : (zs.length : Int) ≤ 1000 := by omega
  by_cases hc : chkM c ss = 0
  · obtain ⟨hc1, hc6, h9, _, hp, _⟩ := chk_good hc
    obtain ⟨cn, rfl⟩ := Int.eq_ofNat_of_zero_le (show 0 ≤ c by omega)
    have hg : GoodS ss cn := hp
    have HGE : Hid (goesE cn ss zs = if (goE ss zs 0).1 = 0 then (if (goE ss zs 0).2 = 0 then (if (oftL ss.length zs).contains 0 then 4 else 0) else 21) else (goE ss zs 0).1) := Lib.hid (by unfold goesE; rw [if_pos hc])
    have HGR : Hid (goesR cn ss zs = if goesE cn ss zs = 0 then oftL ss.length zs else []) := Lib.hid rfl
    rw [hc] at HC
    have HS := Lib.hid hS
    have HG := Lib.hid hg
    have HZ := Lib.hid hZ
    have hlx : (ss.length : Int) ≤ 9 := by omega
    have HH := Lib.hid (fun (k : Nat) W (F : Fut w W) => hasR_any d dap zs (k : Int) W (hZ.fut F) hlz)
    obtain ⟨i0, hi0, hz0, hz1, hz2⟩ := info_parts info3
    clear hS hZ hc hp hg
    generalize goesR cn ss zs = R at *
    generalize goesE cn ss zs = E at *
    generalize hGG : goE ss zs 0 = G at *
    have HGG := Lib.hid hGG
    clear hGG
    go_enter Try.func29, Try.ntmps29
    go_wp2_with fail
    have hB := BoxM.new w cn a ss.length cap 28
    have hF : Fut w (w.alloc (.cells #[.int .i64 cn, .slice a ss.length cap] 28)) := Fut.alloc _ _
    generalize w.alloc (.cells #[.int .i64 cn, .slice a ss.length cap] 28) = W1 at *
    generalize w.heap.size = B at *
    refine (HC.out _ hF).mono ?_
    rintro _ w2 ⟨rfl, F2⟩
    have HF2 := Lib.hid (hF.trans F2)
    have HB2 := Lib.hid (hB.fut F2)
    clear hB hF F2 HC
    go_wp2_with fail
    go_loopw [6, 7, 8] (fun ev av iv wr => ∃ (k x : Nat) (e : Int), k ≤ zs.length ∧ iv = .int .i64 k ∧ ev = .int .i64 e ∧ av = .int .i64 x ∧ x ≤ 15 ∧ Hid (GoS ss zs G k x e) ∧ Hid (Fut w2 wr)) (fun _ _ iv _ => zs.length - (intOf iv).toNat)
    case atStart => exact ⟨0, 0, 0, Nat.zero_le _, rfl, rfl, rfl, by omega, Lib.hid (Or.inl ⟨rfl, HGG.out⟩), Lib.hid Fut.rfl⟩
    case round =>
      obtain ⟨k, x, e, hk, rfl, rfl, rfl, hx, HO, HR⟩ := hrel
      by_cases hgo : k < zs.length ∧ e = 0
      · obtain ⟨hlt, rfl⟩ := hgo
        have hkx : (k : Int) < zs.length := by omega
        have hO : goE ss (zs.drop k) x = G := by
          rcases HO.out with h | h
          · exact h.2
          · exact absurd rfl h.1
        obtain ⟨bb, off, ea, hbb, d1⟩ := (HZ.out.fut (HF2.out.trans HR.out)) k hlt
        subst ea
        obtain ⟨hb, b0, b1⟩ := HB2.out.fut HR.out
        rw [nth_drop zs k hlt] at hO
        unfold goE at hO
        have HO := Lib.hid hO
        have HI : Hid (∀ q, Calls Try.prog 61 #[.int .i64 (nth zs k), .int .i64 0, .int .i64 ((ss.length : Int) - 1)] (wr.drewN q) fun e w' => e = .returned (.bool (inB ss.length (nth zs k))) ∧ w' = wr.drewN q) := Lib.hid (fun q => (inR_any (nth zs k) ss.length (wr.drewN q)).mono fun _ _ h => ⟨h.1, h.2.symm⟩)
        have hw1 : IntKind.i64.wrap ((ss.length : Int) - 1) = (ss.length : Int) - 1 := IntWalk.i64_in _ ⟨by omega, by omega⟩
        clear hO
        cases hz : inB ss.length (nth zs k)
        · rw [hz] at HI HO
          simp only [Bool.false_eq_true, if_false] at HO
          clear hz
          generalize nth zs k = z at *
          go_upto_region 6 with fail
          go_quiet (first | (go_at_call 61; exact Calls.quiet_of_same (HI.out _)))
          have HR6 := Lib.hid (HR.out.trans (Fut.drewN wr nq))
          have HN : Hid (GoS ss zs G (k + 1) x 2) := Lib.hid (Or.inr ⟨by decide, by rw [← HO.out]⟩)
          clear hb b0 b1 d1 HI HO
          generalize wr.drewN nq = w6 at *
          go_wp2
          go_roundw
          case rel => exact ⟨k + 1, x, 2, by omega, by go_num, rfl, rfl, hx, HN, HR6⟩
          case measure => simp [intOf]; omega
        · have hzz : 0 ≤ nth zs k ∧ nth zs k < ss.length := by simpa [inB] using hz
          rw [hz] at HI HO
          simp only [if_true] at HO
          obtain ⟨z, hzn⟩ := Int.eq_ofNat_of_zero_le hzz.1
          have hzl : z < ss.length := by omega
          have hzlx : (z : Int) < ss.length := by omega
          rw [hzn] at d1 HI
          rw [hzn, Int.toNat_natCast, Int.toNat_natCast] at HO
          clear hz hzz hzn
          obtain ⟨sb, soff, ea, hsb, s1, s2⟩ := (HS.out.fut (HF2.out.trans HR.out)) z hzl
          subst ea
          obtain ⟨g1, g2, g3, g4⟩ := good_str HG.out hzl
          have hTB := touch_bit (ss := ss) (i := z) (x := x)
          rw [g3] at s1
          rw [g4] at s2
          rw [g3, g4] at HO
          unfold touches at hTB
          generalize en1 ss z = y1 at *
          generalize en2 ss z = y2 at *
          go_upto_region 6 with fail
          go_quiet (first | (go_at_call 61; exact Calls.quiet_of_same (HI.out _)))
          have HR6 := Lib.hid (HR.out.trans (Fut.drewN wr nq))
          have k1 := drewN_cell s1 nq
          have k2 := drewN_cell s2 nq
          have k3 := drewN_cell d1 nq
          have hb6 := HB2.out.fut HR6.out
          clear hb b0 b1 d1 HI s1 s2
          generalize wr.drewN nq = w6 at *
          obtain ⟨hb, b0, b1⟩ := hb6
          by_cases hy1 : y1 = x
          · subst hy1
            have hq1 : ((y1 : Int) == y1) = true := by simp
            rw [if_pos (hTB.2 (Or.inl rfl))] at HO
            have hN : goE ss (zs.drop (k + 1)) (y2 : Nat) = G := by
              have := HO.out
              rw [show ((y1 : Int) + y2 - y1) = (y2 : Int) by omega] at this
              exact this
            have HN : Hid (GoS ss zs G (k + 1) y2 0) := Lib.hid (Or.inl ⟨rfl, hN⟩)
            clear hN HO hTB
            go_wp2_with fail
            go_quiet (fail)
            have HR7 := Lib.hid (HR6.out.trans (Fut.drewN w6 nq))
            have m1 := drewN_cell k1 nq
            have m2 := drewN_cell k2 nq
            have m3 := drewN_cell k3 nq
            have hb7 := HB2.out.fut HR7.out
            clear hb b0 b1 k1 k2 k3
            generalize w6.drewN nq = w7 at *
            obtain ⟨hb, b0, b1⟩ := hb7
            go_wp2_with fail
            go_quiet (fail)
            have HR8 := Lib.hid (HR7.out.trans (Fut.drewN w7 nq))
            clear hb b0 b1 m1 m2 m3
            generalize w7.drewN nq = w8 at *
            go_wp2
            go_roundw
            case rel => exact ⟨k + 1, y2, 0, by omega, by go_num, rfl, rfl, by omega, HN, HR8⟩
            case measure => simp [intOf]; omega
          · have hq1 : ((y1 : Int) == x) = false := by rw [beq_eq_false_iff_ne]; omega
            by_cases hy2 : y2 = x
            · subst hy2
              have hq2 : ((y2 : Int) == y2) = true := by simp
              rw [if_pos (hTB.2 (Or.inr rfl))] at HO
              have hN : goE ss (zs.drop (k + 1)) (y1 : Nat) = G := by
                have := HO.out
                rw [show ((y1 : Int) + y2 - y2) = (y1 : Int) by omega] at this
                exact this
              have HN : Hid (GoS ss zs G (k + 1) y1 0) := Lib.hid (Or.inl ⟨rfl, hN⟩)
              clear hN HO hTB
              go_wp2_with fail
              go_quiet (fail)
              have HR7 := Lib.hid (HR6.out.trans (Fut.drewN w6 nq))
              have m1 := drewN_cell k1 nq
              have m2 := drewN_cell k2 nq
              have m3 := drewN_cell k3 nq
              have hb7 := HB2.out.fut HR7.out
              clear hb b0 b1 k1 k2 k3
              generalize w6.drewN nq = w7 at *
              obtain ⟨hb, b0, b1⟩ := hb7
              go_wp2_with fail
              go_quiet (fail)
              have HR8 := Lib.hid (HR7.out.trans (Fut.drewN w7 nq))
              have n1 := drewN_cell m1 nq
              have n2 := drewN_cell m2 nq
              have n3 := drewN_cell m3 nq
              have hb8 := HB2.out.fut HR8.out
              clear hb b0 b1 m1 m2 m3
              generalize w7.drewN nq = w8 at *
              obtain ⟨hb, b0, b1⟩ := hb8
              go_wp2_with fail
              go_quiet (fail)
              have HR9 := Lib.hid (HR8.out.trans (Fut.drewN w8 nq))
              clear hb b0 b1 n1 n2 n3
              generalize w8.drewN nq = w9 at *
              go_wp2
              go_roundw
              case rel => exact ⟨k + 1, y1, 0, by omega, by go_num, rfl, rfl, by omega, HN, HR9⟩
              case measure => simp [intOf]; omega
            · have hq2 : ((y2 : Int) == x) = false := by rw [beq_eq_false_iff_ne]; omega
              rw [if_neg (fun h => (hTB.1 h).elim hy1 hy2)] at HO
              have HN : Hid (GoS ss zs G (k + 1) x 12) := Lib.hid (Or.inr ⟨by decide, by rw [← HO.out]⟩)
              clear HO hTB
              go_wp2_with fail
              go_quiet (fail)
              have HR7 := Lib.hid (HR6.out.trans (Fut.drewN w6 nq))
              have m1 := drewN_cell k1 nq
              have m2 := drewN_cell k2 nq
              have m3 := drewN_cell k3 nq
              have hb7 := HB2.out.fut HR7.out
              clear hb b0 b1 k1 k2 k3
              generalize w6.drewN nq = w7 at *
              obtain ⟨hb, b0, b1⟩ := hb7
              go_wp2_with fail
              go_quiet (fail)
              have HR8 := Lib.hid (HR7.out.trans (Fut.drewN w7 nq))
              clear hb b0 b1 m1 m2 m3
              generalize w7.drewN nq = w8 at *
              go_wp2
              go_roundw
              case rel => exact ⟨k + 1, x, 12, by omega, by go_num, rfl, rfl, hx, HN, HR8⟩
              case measure => simp [intOf]; omega
      · obtain ⟨hb, b0, b1⟩ := HB2.out.fut HR.out
        -- how the first walk ends
        have hE0 : (e = 0 ∧ G = (0, (x : Int))) ∨ (e ≠ 0 ∧ G.1 = e) := by
          rcases HO.out with h | h
          · refine Or.inl ⟨h.1, ?_⟩
            have hk' : k = zs.length := by
              rcases Nat.lt_or_ge k zs.length with h1 | h1
              · exact absurd ⟨h1, h.1⟩ hgo
              · omega
            have := h.2
            rw [hk', List.drop_of_length_le (Nat.le_refl _)] at this
            exact this.symm
          · exact Or.inr h
        by_cases hez : e = 0
        · obtain hG : G = (0, (x : Int)) := by
            rcases hE0 with h | h
            · exact h.2
            · exact absurd hez h.1
          have hkl : ¬ k < zs.length := fun h => hgo ⟨h, hez⟩
          have hkx : ¬ (k : Int) < zs.length := by omega
          subst hez
          by_cases hx0 : x = 0
          · have hGv : G = (0, 0) := by rw [hG, hx0]; rfl
            have hxb : ((x : Int) != 0) = false := by rw [hx0]; rfl
            clear hG hkl hgo
            have hEQ : E = if (oftL ss.length zs).contains 0 then 4 else 0 := by rw [HGE.out, hGv, if_pos rfl, if_pos rfl]
            have HEQ := Lib.hid hEQ
            clear hEQ hE0 HO HGE hGv
            have HHW := Lib.hid (fun (j : Nat) => HH.out j wr (HF2.out.trans HR.out))
            go_wp2_with fail
            go_loop [6, 9] (fun ev iv => ∃ (j : Nat) (e : Int), j ≤ ss.length ∧ iv = .int .i64 j ∧ ev = .int .i64 e ∧ Hid (GoT zs ss.length j e)) (fun _ iv => ss.length - (intOf iv).toNat)
            case atStart => exact ⟨0, 0, Nat.zero_le _, rfl, rfl, Lib.hid (Or.inl ⟨rfl, fun i hi => absurd hi (by omega)⟩)⟩
            case round =>
              obtain ⟨j, e, hj, rfl, rfl, HT⟩ := hrel
              by_cases hgo2 : j < ss.length ∧ e = 0
              · obtain ⟨hjl, rfl⟩ := hgo2
                have hjx : (j : Int) < ss.length := by omega
                have hall : ∀ i : Nat, i < j → zs.contains (i : Int) = true := by
                  rcases HT.out with h | h
                  · exact h.2
                  · exact absurd h.1 (by decide)
                have HHJ := Lib.hid (HHW.out j)
                cases hcz : zs.contains (j : Int)
                · rw [hcz] at HHJ
                  have HT2 : Hid (GoT zs ss.length (j + 1) 4) := Lib.hid (Or.inr ⟨rfl, j, hjl, hcz⟩)
                  clear hall hcz
                  go_wp2_with (go_at_call 62; refine HHJ.out.mono ?_; rintro _ _ ⟨rfl, rfl⟩)
                  go_round
                  case rel => exact ⟨j + 1, 4, by omega, by go_num, rfl, HT2⟩
                  case measure => simp [intOf]; omega
                · rw [hcz] at HHJ
                  have HT2 : Hid (GoT zs ss.length (j + 1) 0) := Lib.hid (Or.inl ⟨rfl, fun i hi => by
                    rcases Nat.lt_or_ge i j with h | h
                    · exact hall i h
                    · obtain rfl : i = j := by omega
                      exact hcz⟩)
                  clear hall hcz
                  go_wp2_with (go_at_call 62; refine HHJ.out.mono ?_; rintro _ _ ⟨rfl, rfl⟩)
                  go_round
                  case rel => exact ⟨j + 1, 0, by omega, by go_num, rfl, HT2⟩
                  case measure => simp [intOf]; omega
              · have HRN := Lib.hid (HF2.out.trans HR.out)
                by_cases hez : e = 0
                · subst hez
                  have hjl : ¬ j < ss.length := fun h => hgo2 ⟨h, rfl⟩
                  obtain rfl : j = ss.length := by omega
                  have hE0' : E = 0 := by
                    rcases HT.out with h | h
                    · rw [HEQ.out, if_neg (fun hc => by obtain ⟨i, hi, h0⟩ := oft_zero.1 hc; rw [h.2 i hi] at h0; cases h0)]
                    · exact absurd h.1 (by decide)
                  have hRR : R = oftL ss.length zs := by rw [HGR.out, hE0', if_pos rfl]
                  subst hE0'
                  subst hRR
                  clear HGR HEQ HT hgo2
                  go_wp2_with fail
                  obtain ⟨wq, hwq⟩ : ∃ wq, wq = wr := ⟨_, rfl⟩
                  subst hwq
                  go_loopw [10, 11] (fun ov iv wx => ∃ (i : Nat), i ≤ ss.length ∧ iv = .int .i64 i ∧ Hid (Owns wx wq.heap.size ov (oftL i zs)) ∧ Hid (Fut wq wx)) (fun _ iv _ => ss.length - (intOf iv).toNat)
                  case atStart => exact ⟨0, Nat.zero_le _, rfl, Lib.hid (Owns.nil _ _), Lib.hid Fut.rfl⟩
                  case round =>
                    clear hb b0 b1
                    obtain ⟨i, hi, rfl, HOW, HRX⟩ := hrel
                    obtain ⟨hb, b0, b1⟩ := HB2.out.fut (HR.out.trans HRX.out)
                    by_cases hil : i < ss.length
                    · have hix : (i : Int) < ss.length := by omega
                      have HZX := Lib.hid (HZ.out.fut (HRN.out.trans HRX.out))
                      have HOF := Lib.hid (oft_next zs i)
                      have hoi : (oftL i zs).length ≤ 9 := by rw [oft_len]; omega
                      have hcz : zs.count (i : Int) ≤ 1000 := Nat.le_trans List.count_le_length hlz
                      go_wp2_with fail
                      go_loop [12, 13] (fun nv kv => ∃ (k q : Nat), k ≤ zs.length ∧ kv = .int .i64 k ∧ nv = .int .i64 q ∧ q ≤ k ∧ Hid ((zs.take k).count (i : Int) = q)) (fun _ kv => zs.length - (intOf kv).toNat)
                      case atStart => exact ⟨0, 0, Nat.zero_le _, rfl, rfl, Nat.le_refl _, Lib.hid rfl⟩
                      case round =>
                        obtain ⟨k, q, hk2, rfl, rfl, hq, HQ⟩ := hrel
                        by_cases hkl : k < zs.length
                        · have hkx2 : (k : Int) < zs.length := by omega
                          obtain ⟨zb, zoff, ea, hzb, z1⟩ := HZX.out k hkl
                          subst ea
                          have hTK := take_nth zs k hkl
                          by_cases hzi : nth zs k = (i : Int)
                          · rw [hzi] at hTK z1
                            have HQ2 : Hid ((zs.take (k + 1)).count (i : Int) = q + 1) := Lib.hid (by rw [hTK, List.count_append, HQ.out]; simp)
                            have hzb2 : ((i : Int) == i) = true := by simp
                            clear hTK hzi
                            go_wp2
                            go_round
                            case rel => exact ⟨k + 1, q + 1, by omega, by go_num, by go_num, by omega, HQ2⟩
                            case measure => simp [intOf]; omega
                          · have HQ2 : Hid ((zs.take (k + 1)).count (i : Int) = q) := Lib.hid (by rw [hTK, List.count_append, HQ.out, List.count_singleton, if_neg (by simpa using hzi)]; omega)
                            have hzb2 : (nth zs k == (i : Int)) = false := by rw [beq_eq_false_iff_ne]; exact hzi
                            clear hTK hzi
                            generalize nth zs k = zk at *
                            go_wp2
                            go_round
                            case rel => exact ⟨k + 1, q, by omega, by go_num, by go_num, by omega, HQ2⟩
                            case measure => simp [intOf]; omega
                        · obtain rfl : k = zs.length := by omega
                          have hq2 : zs.count (i : Int) = q := by have := HQ.out; rwa [List.take_length] at this
                          rw [hq2] at HOF
                          clear hq2 HQ hcz
                          generalize hp1 : oftL i zs = pk at *
                          generalize hp2 : oftL (i + 1) zs = pn at *
                          have HP2 := Lib.hid hp2
                          clear hp1 hp2
                          go_wp2_with (at_builtin; refine wpList_append_own _ rfl _ _ 25 rfl wq.heap.size 3 i0 (.int .i64 0) 1 8 Try.underlying25 hi0 hz0 hz1 hz2 rfl (by decide) _ _ _ rfl (HOW.out.alloc _) ⟨wr.heap.size, 0, none⟩ 1 1 [.int .i64 (q : Int)] rfl rfl (cell_one (by simp [go_sem])) (by simp [Value.oneCell']) (by unfold maxLen; omega) (by omega) (by have := RowKit.Below.size HRX.out; simp; omega) ?_)
                          intro v' w7 hown' hgrow _
                          have HO7 : Hid (Owns w7 wq.heap.size v' pn) := Lib.hid (by rw [HOF.out]; unfold Owns; simpa using hown')
                          have HF7 : Hid (Fut wq w7) := Lib.hid ((HRX.out.trans (Fut.alloc _ _)).grown' hgrow HOW.out (Nat.le_refl _))
                          clear hown' hgrow
                          go_wp2
                          go_roundw
                          case rel => exact ⟨i + 1, by omega, by go_num, by rw [HP2.out]; exact HO7, HF7⟩
                          case measure => simp [intOf]; omega
                    · obtain rfl : i = ss.length := by omega
                      obtain ⟨lv, lc, rfl, hLI⟩ := HOW.out.ints
                      have HLI := Lib.hid hLI
                      have HEND := Lib.hid (HRN.out.trans HRX.out)
                      clear hLI
                      go_wp2
                      go_ret2
                      exact ⟨lv, lc, rfl, HLI.out, HEND.out⟩
                · have hE4 : e = 4 ∧ E = 4 := by
                    rcases HT.out with h | h
                    · exact absurd h.1 hez
                    · exact ⟨h.1, by rw [HEQ.out, if_pos (oft_zero.2 h.2)]⟩
                  obtain ⟨rfl, hE4⟩ := hE4
                  have hRn : R = [] := by rw [HGR.out, hE4, if_neg (by decide)]
                  subst hE4
                  subst hRn
                  clear HGR HEQ HT hgo2 hez
                  by_cases hm : j < ss.length
                  · have hmx : (j : Int) < ss.length := by omega
                    go_wp2
                    go_ret2
                    exact ⟨none, 0, rfl, nil_ints _ _, HRN.out⟩
                  · have hmx : ¬ (j : Int) < ss.length := by omega
                    go_wp2
                    go_ret2
                    exact ⟨none, 0, rfl, nil_ints _ _, HRN.out⟩
          · have hxb : ((x : Int) != 0) = true := by rw [bne_iff_ne]; omega
            have hE1 : (21 : Int) ≠ 0 := by decide
            have hEE : E = 21 := by rw [HGE.out, hG, if_pos rfl, if_neg (by show ¬ (x : Int) = 0; omega)]
            clear hG hkl hgo
            have he2 : ((21 : Int) == 0) = false := by rw [beq_eq_false_iff_ne]; exact hE1
            have he3 : ((21 : Int) != 0) = true := by rw [bne_iff_ne]; exact hE1
            have hRn : R = [] := by rw [HGR.out, hEE, if_neg hE1]
            have HRN := Lib.hid (HF2.out.trans HR.out)
            have hEE := hEE.symm
            subst hEE
            subst hRn
            clear hE0 HO HGE HGR
            go_wp2_with fail
            go_loop [6, 9] (fun ev iv => ev = .int .i64 21 ∧ iv = .int .i64 0) (fun _ _ => 0)
            case atStart => exact ⟨rfl, rfl⟩
            case round =>
              obtain ⟨rfl, rfl⟩ := hrel
              by_cases hm : 0 < ss.length
              · have hmx : (0 : Int) < ss.length := by omega
                go_wp2
                go_ret2
                exact ⟨none, 0, rfl, nil_ints _ _, HRN.out⟩
              · have hmx : ¬ (0 : Int) < ss.length := by omega
                go_wp2
                go_ret2
                exact ⟨none, 0, rfl, nil_ints _ _, HRN.out⟩
        · have hE1 : e ≠ 0 := hez
          have heb : (e == 0) = false := by rw [beq_eq_false_iff_ne]; exact hez
          have hEE : E = e := by
            rcases hE0 with h | h
            · exact absurd h.1 hez
            · rw [HGE.out, if_neg (by rw [h.2]; exact hez), h.2]
          by_cases hkl : k < zs.length
          · have hkx : (k : Int) < zs.length := by omega
            clear hgo hez
            have he2 : (e == 0) = false := by rw [beq_eq_false_iff_ne]; exact hE1
            have he3 : (e != 0) = true := by rw [bne_iff_ne]; exact hE1
            have hRn : R = [] := by rw [HGR.out, hEE, if_neg hE1]
            have HRN := Lib.hid (HF2.out.trans HR.out)
            have hEE := hEE.symm
            subst hEE
            subst hRn
            clear hE0 HO HGE HGR
            go_wp2_with fail
            go_loop [6, 9] (fun ev iv => ev = .int .i64 e ∧ iv = .int .i64 0) (fun _ _ => 0)
            case atStart => exact ⟨rfl, rfl⟩
            case round =>
              obtain ⟨rfl, rfl⟩ := hrel
              by_cases hm : 0 < ss.length
              · have hmx : (0 : Int) < ss.length := by omega
                go_wp2
                go_ret2
                exact ⟨none, 0, rfl, nil_ints _ _, HRN.out⟩
              · have hmx : ¬ (0 : Int) < ss.length := by omega
                go_wp2
                go_ret2
                exact ⟨none, 0, rfl, nil_ints _ _, HRN.out⟩
          · have hkx : ¬ (k : Int) < zs.length := by omega
            clear hgo hez
            have he2 : (e == 0) = false := by rw [beq_eq_false_iff_ne]; exact hE1
            have he3 : (e != 0) = true := by rw [bne_iff_ne]; exact hE1
            have hRn : R = [] := by rw [HGR.out, hEE, if_neg hE1]
            have HRN := Lib.hid (HF2.out.trans HR.out)
            have hEE := hEE.symm
            subst hEE
            subst hRn
            clear hE0 HO HGE HGR
            go_wp2_with fail
            go_loop [6, 9] (fun ev iv => ev = .int .i64 e ∧ iv = .int .i64 0) (fun _ _ => 0)
            case atStart => exact ⟨rfl, rfl⟩
            case round =>
              obtain ⟨rfl, rfl⟩ := hrel
              by_cases hm : 0 < ss.length
              · have hmx : (0 : Int) < ss.length := by omega
                go_wp2
                go_ret2
                exact ⟨none, 0, rfl, nil_ints _ _, HRN.out⟩
              · have hmx : ¬ (0 : Int) < ss.length := by omega
                go_wp2
                go_ret2
                exact ⟨none, 0, rfl, nil_ints _ _, HRN.out⟩
  · have hge : goesE c ss zs = chkM c ss := by unfold goesE; rw [if_neg hc]
    have hgr : goesR c ss zs = [] := by unfold goesR; rw [hge, if_neg hc]
    rw [hge, hgr]
    have hne : (chkM c ss == 0) = false := beq_eq_false_iff_ne.2 hc
    have hne2 : (chkM c ss != 0) = true := bne_iff_ne.2 hc
    clear hge hgr hS hZ hc
    generalize chkM c ss = r at *
    go_enter Try.func29, Try.ntmps29
    go_wp2_with fail
    have hF : Fut w (w.alloc (.cells #[.int .i64 c, .slice a ss.length cap] 28)) := Fut.alloc _ _
    have hB := BoxM.new w c a ss.length cap 28
    generalize w.alloc (.cells #[.int .i64 c, .slice a ss.length cap] 28) = W1 at *
    generalize w.heap.size = B at *
    refine (HC.out _ hF).mono ?_
    rintro _ w2 ⟨rfl, F2⟩
    have HF2 := Lib.hid (hF.trans F2)
    have hB2 := hB.fut F2
    obtain ⟨hb, b0, b1⟩ := hB2
    clear hF F2 hB
    go_wp2_with fail
    go_loop [6, 7, 8] (fun ev av iv => ev = .int .i64 r ∧ av = .int .i64 0 ∧ iv = .int .i64 0) (fun _ _ _ => 0)
    case atStart => exact ⟨rfl, rfl, rfl⟩
    case round =>
      obtain ⟨rfl, rfl, rfl⟩ := hrel
      by_cases hz : 0 < zs.length
      · have hzz : (0 : Int) < zs.length := by omega
        go_wp2_with fail
        go_loop [6, 9] (fun ev iv => ev = .int .i64 r ∧ iv = .int .i64 0) (fun _ _ => 0)
        case atStart => exact ⟨rfl, rfl⟩
        case round =>
          obtain ⟨rfl, rfl⟩ := hrel
          by_cases hm : 0 < ss.length
          · have hmx : (0 : Int) < ss.length := by omega
            go_wp2
            go_ret2
            exact ⟨none, 0, rfl, nil_ints _ _, HF2.out⟩
          · have hmx : ¬ (0 : Int) < ss.length := by omega
            go_wp2
            go_ret2
            exact ⟨none, 0, rfl, nil_ints _ _, HF2.out⟩
      · have hzz : ¬ (0 : Int) < zs.length := by omega
        go_wp2_with fail
        go_loop [6, 9] (fun ev iv => ev = .int .i64 r ∧ iv = .int .i64 0) (fun _ _ => 0)
        case atStart => exact ⟨rfl, rfl⟩
        case round =>
          obtain ⟨rfl, rfl⟩ := hrel
          by_cases hm : 0 < ss.length
          · have hmx : (0 : Int) < ss.length := by omega
            go_wp2
            go_ret2
            exact ⟨none, 0, rfl, nil_ints _ _, HF2.out⟩
          · have hmx : ¬ (0 : Int) < ss.length := by omega
            go_wp2
            go_ret2
            exact ⟨none, 0, rfl, nil_ints _ _, HF2.out⟩
end Go.Proofs.Ytimddkofcejijaa
