/- LaneChecks: the reference's index, Order and Apart (rindex_any, crowded_any, rorder_any, rapart_any) -/
import Derived.Test.YtflllkamdihfaaaLCD
import Derived.Test.YtflllkamdihfaaaLCG
import Derived.Test.YtflllkamdihfaaaLMB
namespace Go.Proofs.Ytflllkamdihfaaa
open Go.RowKit Go.Sort
section
set_option maxRecDepth 100000 in
theorem rindex_any (a : Option Addr) (cap : Nat) (zs : List Int) (x : Int) (w : World) (hA : IntsAt w a zs) (hl : zs.length ≤ 1000) :
    Calls Try.prog 89 #[.slice a zs.length cap, .int .i64 x] w fun e w' => e = .returned (.int .i64 (idxE zs x)) ∧ w = w' := by
  have HA := Lib.hid hA
  have hlx : (zs.length : Int) ≤ 1000 := by omega
  obtain ⟨E, HE⟩ : ∃ E, Hid (idxE zs x = E) := ⟨_, Lib.hid rfl⟩
  rw [HE.out]
  have HE0 : Hid (idxF x (zs.drop 0) 0 = E) := HE
  clear hA HE
  go_enter Try.func89, Try.ntmps89
  go_wp2_with fail
  go_loop [5] (fun iv => ∃ k : Nat, k ≤ zs.length ∧ iv = .int .i64 k ∧ Hid (idxF x (zs.drop k) k = E)) (fun iv => zs.length - (intOf iv).toNat)
  case atStart => exact ⟨0, Nat.zero_le _, rfl, HE0⟩
  case round =>
    obtain ⟨k, hk, rfl, HO⟩ := hrel
    by_cases hlt : k < zs.length
    · have hkx : (k : Int) < zs.length := by omega
      obtain ⟨b, off, ea, hb, c1⟩ := HA.out k hlt
      subst ea
      rw [nth_drop zs k hlt, idxF] at HO
      generalize nth zs k = y at *
      by_cases he : y = x
      · subst he
        rw [if_pos rfl] at HO
        have hyy : (y == y) = true := by simp
        go_wp2_with fail
        go_ret
        exact ⟨ret_int HO.out, rfl⟩
      · rw [if_neg he] at HO
        have hyy : (y == x) = false := by simpa using he
        go_wp2_with fail
        go_round
        case rel => exact ⟨k + 1, by omega, by go_num, HO⟩
        case measure => simp [intOf]; omega
    · obtain rfl : zs.length = k := by omega
      rw [List.drop_of_length_le (Nat.le_refl _), idxF] at HO
      go_wp2_with fail
      go_ret
      exact ⟨ret_int HO.out, rfl⟩
/-- is a family too large? -/
def crwB (F : List (List Int)) : Bool := decide (20 < F.length) || (List.range F.length).any fun j => decide (40 < (lth F j).length)
theorem crw_off {F : List (List Int)} (h : crwB F = false) : F.length ≤ 20 ∧ ∀ k, k < F.length → (lth F k).length ≤ 40 := by
  unfold crwB at h
  rw [Bool.or_eq_false_iff] at h
  refine ⟨by simpa using h.1, fun k hk => ?_⟩
  have h2 := h.2
  rw [List.any_eq_false] at h2
  have := h2 k (List.mem_range.2 hk)
  simpa using this
set_option maxRecDepth 100000 in
theorem crowded_any (fa : Option Addr) (fc : Nat) (F : List (List Int)) (w : World) (hF : LstC w fa F) :
    Calls Try.prog 29 #[.slice fa F.length fc] w fun e w' => e = .returned (.bool (crwB F)) ∧ w = w' := by
  have HA := Lib.hid hF
  have HT : Hid ((20 < F.length ∨ ∃ j, j < F.length ∧ 40 < (lth F j).length) → crwB F = true) := Lib.hid (fun h => by
    unfold crwB
    rw [Bool.or_eq_true]
    rcases h with h | ⟨j, h1, h2⟩
    · exact .inl (by simpa using h)
    · exact .inr (List.any_eq_true.2 ⟨j, List.mem_range.2 h1, by simpa using h2⟩))
  have HN : Hid (F.length ≤ 20 → (∀ j, j < F.length → ¬ 40 < (lth F j).length) → crwB F = false) := Lib.hid (fun h1 h2 => by
    unfold crwB
    rw [Bool.or_eq_false_iff]
    refine ⟨by simpa using h1, ?_⟩
    rw [List.any_eq_false]
    intro j hj
    simpa using h2 j (List.mem_range.1 hj))
  generalize crwB F = E at *
  clear hF
  by_cases hb : 20 < F.length
  · have hbx : (20 : Int) < F.length := by omega
    clear HN HA
    go_enter Try.func29, Try.ntmps29
    go_wp2_with fail
    go_ret
    exact ⟨retb (HT.out (.inl hb)).symm, rfl⟩
  · have hbx : ¬ (20 : Int) < F.length := by omega
    have hfx : (F.length : Int) ≤ 20 := by omega
    go_enter Try.func29, Try.ntmps29
    go_wp2_with fail
    go_loop [3] (fun iv => ∃ k : Nat, k ≤ F.length ∧ iv = .int .i64 k ∧ Hid (∀ j, j < k → ¬ 40 < (lth F j).length)) (fun iv => F.length - (intOf iv).toNat)
    case atStart => exact ⟨0, Nat.zero_le _, rfl, Lib.hid (fun j hj => by omega)⟩
    case round =>
      obtain ⟨k, hk, rfl, HO⟩ := hrel
      by_cases hlt : k < F.length
      · have hkx : (k : Int) < F.length := by omega
        obtain ⟨b, off, l, lc, ea, _, c1, _⟩ := HA.out k hlt
        subst ea
        by_cases he : 40 < (lth F k).length
        · have HE2 : Hid (true = E) := Lib.hid (HT.out (.inr ⟨k, hlt, he⟩)).symm
          clear HT HN
          generalize (lth F k).length = n at *
          have hnx : (40 : Int) < n := by omega
          go_wp2_with fail
          go_ret
          exact ⟨retb HE2.out, rfl⟩
        · have HO2 : Hid (∀ j, j < k + 1 → ¬ 40 < (lth F j).length) := Lib.hid (fun j hj => by
            rcases Nat.lt_or_ge j k with q | q
            · exact HO.out j q
            · obtain rfl : j = k := by omega
              exact he)
          generalize hgn : (lth F k).length = n at *
          have hnx : ¬ (40 : Int) < n := by omega
          go_wp2_with fail
          go_round
          case rel => exact ⟨k + 1, by omega, by go_num, HO2⟩
          case measure => simp [intOf]; omega
      · obtain rfl : F.length = k := by omega
        have HE2 : Hid (false = E) := Lib.hid (HN.out (by omega) HO.out).symm
        clear HT HN
        go_wp2_with fail
        go_ret
        exact ⟨retb HE2.out, rfl⟩
end
section
theorem st_step {r c m : Int} (hs : Side r c m) (S : List Int) (x y : Int) (_hx : 0 ≤ x) (hy : 0 ≤ y ∧ y < m ∧ y ∉ S) : (stL c m S x).contains y = rstE c x y := by
  obtain ⟨_, _, h3, _, _⟩ := hs
  have hnn := Int.emod_nonneg (x + 1) (show c ≠ 0 by omega)
  rw [Bool.eq_iff_iff, List.contains_iff_mem, mem_stL]
  unfold rstE
  simp only [Bool.or_eq_true, Bool.and_eq_true, decide_eq_true_eq]
  constructor
  · rintro ⟨⟨rfl, h⟩ | h, _⟩
    · exact .inl ⟨rfl, by omega⟩
    · exact .inr h
  · rintro (⟨rfl, h⟩ | h)
    · exact ⟨.inl ⟨rfl, by omega⟩, hy⟩
    · exact ⟨.inr h, hy⟩
set_option maxRecDepth 100000 in
set_option maxHeartbeats 16000000 in
theorem rorder_any (r c : Int) (a : Option Addr) (cap : Nat) (S : List Int) (ya : Option Addr) (yc : Nat) (Y : List Int) (ta : Option Addr) (tc : Nat) (T : List Int) (fa : Option Addr) (fc : Nat) (F : List (List Int)) (w : World) (h : InPQ w a S ya yc Y ta tc T) (hF : LstAt w fa F) (hFl : F.length ≤ 1000) (hFk : ∀ k, k < F.length → (lth F k).length ≤ 1000) :
    Calls Try.prog 31 #[parV r c a S.length cap, plaV ya Y.length yc ta T.length tc, .slice fa F.length fc] w (TupL (ordP r c S Y T F).1 (ordP r c S Y T F).2 w) := by
  obtain ⟨i0, hi0, hz0, hz1, hz2⟩ := info_parts info3
  have hA : Fut w ((w.alloc (.cells #[.int .i64 r, .int .i64 c, .slice a S.length cap] 29)).alloc (.cells #[.slice ya Y.length yc, .slice ta T.length tc] 30)) := (Fut.alloc _ _).trans (Fut.alloc _ _)
  have hBP := (BoxR.new w r c a S.length cap).fut (Fut.alloc _ (.cells #[.slice ya Y.length yc, .slice ta T.length tc] 30))
  have hBQ := BoxT.new (w.alloc (.cells #[.int .i64 r, .int .i64 c, .slice a S.length cap] 29)) ya Y.length yc ta T.length tc
  rw [World.size_alloc] at hBQ
  have HCK := Lib.hid (fun W (G : Fut w W) => rchk_any r c a cap S ya yc Y ta tc T W (h.fut G))
  have HA := Lib.hid hA
  have HBP := Lib.hid hBP
  have HBQ := Lib.hid hBQ
  obtain ⟨_, p0, p1, p2⟩ := hBP
  obtain ⟨_, q0, q1⟩ := hBQ
  unfold ordP
  by_cases hc : chkP r c S Y T = 0
  · rw [if_pos hc]
    rw [hc] at HCK
    have hs := (chk_side hc).1
    have hy3 := (chk_side hc).2.2.2.2.1
    have hm16 := (side_m hs).2
    generalize r * c = m at *
    have HCR := Lib.hid (fun x W => rcorner_any r c m hs a S.length cap x W)
    have HHS := Lib.hid (fun x W (G : Fut w W) => rhas_any a cap S x W (h.s.fut G) h.sl)
    have HST := Lib.hid (fun x y (hx : 0 ≤ x ∧ x < m) (hy : 0 ≤ y ∧ y < m) W => rstep_any r c m hs a S.length cap x y (by omega) (by omega) W)
    have HSS := Lib.hid (fun x y => st_step hs S x y)
    have HT := Lib.hid (And.intro h.t h.tl)
    have HY := Lib.hid h.y
    have HFA := Lib.hid hF
    have HFK := Lib.hid hFk
    have hyx : (Y.length : Int) ≤ 3 := by omega
    have hfx : (F.length : Int) ≤ 1000 := by omega
    clear hc hs h hF hFk hA
    by_cases hl : F.length = Y.length
    · rw [if_pos hl]
      have hlx : ((F.length : Int) != (Y.length : Int)) = false := by rw [bne_eq_false_iff_eq]; omega
      have hlx2 : ¬ ((F.length : Int) ≠ (Y.length : Int)) := by omega
      have HFY := Lib.hid hl
      obtain ⟨E, hE⟩ : ∃ E, E = orG c m S Y T F F.length 0 [] := ⟨_, rfl⟩
      rw [← hE]
      have HE := Lib.hid hE
      clear hE hl
      go_enter Try.func31, Try.ntmps31
      go_wp2_with fail
      refine (HCK.out _ HA.out).mono ?_
      rintro _ w2 ⟨rfl, F2⟩
      have HF2 := Lib.hid (HA.out.trans F2)
      have HBP2 := Lib.hid (HBP.out.fut F2)
      have HBQ2 := Lib.hid (HBQ.out.fut F2)
      clear p0 p1 p2 q0 q1 F2 HBP HBQ HA HCK
      obtain ⟨_, q0, q1⟩ := HBQ2.out
      go_wp2_with fail
      clear q0 q1
      go_loopw [9, 10] (fun ov iv wr => ∃ (i : Nat) (o : List Int) (l : Option Addr) (cc : Nat), i ≤ F.length ∧ ov = .slice l o.length cc ∧ iv = .int .i64 i ∧ Hid (Owns wr w2.heap.size (.slice l o.length cc) o) ∧ Hid (E = orG c m S Y T F (F.length - i) i o) ∧ Hid (o.length = i) ∧ Hid (Fut w2 wr)) (fun _ iv _ => F.length - (intOf iv).toNat)
      case atStart => exact ⟨0, [], none, 0, Nat.zero_le _, rfl, rfl, Lib.hid (World.ownsRow_nil _ _ _ _), HE, Lib.hid rfl, Lib.hid Fut.rfl⟩
      case round =>
        obtain ⟨i, o, l, cc, hi, rfl, rfl, HO, HG, HOL, HFX⟩ := hrel
        obtain ⟨wo, hwo⟩ : ∃ wo, wo = wr := ⟨_, rfl⟩
        subst hwo
        have HFW := Lib.hid (HF2.out.trans HFX.out)
        by_cases hil : i < F.length
        · have hix : (i : Int) < F.length := by omega
          have hiy : (i : Int) < Y.length := by have := HFY.out; omega
          have hg := HG.out
          obtain ⟨n, hn⟩ : ∃ n, F.length - i = n + 1 := ⟨F.length - i - 1, by omega⟩
          rw [hn, orG] at hg
          have HGG := Lib.hid hg
          obtain ⟨fb, fo, wl, wlc, rfl, _, d1, hI⟩ := (HFA.out.fut HFW.out) i hil
          have HI := Lib.hid hI
          have HWK := Lib.hid (HFK.out i hil)
          generalize lth F i = way at *
          clear hI hg HG
          by_cases hwn : way.length = 0
          · have hw0 : way = [] := List.length_eq_zero_iff.1 hwn
            subst hw0
            have HG2 : Hid (E = (4, [])) := Lib.hid (by rw [HGG.out, show cwE c m S [] = 4 from rfl]; rfl)
            clear HGG
            go_wp2_with fail
            go_ret2
            rw [HG2.out]
            exact ⟨none, 0, rfl, nil_ints _ _, HFW.out⟩
          · have hwx0 : ((way.length : Int) == 0) = false := by rw [beq_eq_false_iff_ne]; omega
            have hwl : 0 < way.length := by omega
            have HCW : Hid (cwE c m S way = cwF c m S way (way.drop 0) 0) := Lib.hid (by
              unfold cwE
              rw [if_neg (fun e => hwn (by rw [e]; rfl))]; rfl)
            have hwlx2 : (way.length : Int) ≤ 1000 := by have := HWK.out; omega
            go_wp2_with fail
            clear d1
            go_loopw [12] (fun kv wr => ∃ k : Nat, k ≤ way.length ∧ kv = .int .i64 k ∧ Hid (cwE c m S way = cwF c m S way (way.drop k) k) ∧ Hid (k = 0 ∨ (0 ≤ nth way (k - 1) ∧ nth way (k - 1) < m)) ∧ Hid (Fut wo wr)) (fun kv _ => way.length - (intOf kv).toNat)
            case atStart => exact ⟨0, Nat.zero_le _, rfl, HCW, Lib.hid (.inl rfl), Lib.hid Fut.rfl⟩
            case round =>
              obtain ⟨k, hk, rfl, HK, HPV, HFi⟩ := hrel
              clear HCW
              have HFo := Lib.hid (HFX.out.trans HFi.out)
              have HFa := Lib.hid (HFW.out.trans HFi.out)
              by_cases hkl : k < way.length
              · have hkx : (k : Int) < way.length := by omega
                have hkk := HK.out
                rw [nth_drop way k hkl, cwF] at hkk
                obtain ⟨bb, ofs, rfl, _, c1⟩ := (HI.out.fut HFi.out) k hkl
                have HCV : Hid (∀ j, j < way.length → ∀ W, Fut wo W → W.cell? ⟨bb, ofs + j, none⟩ = some (.int .i64 (nth way j))) := Lib.hid (fun j hj W G => by
                  obtain ⟨b1, o1, e1, hb1, c2⟩ := (HI.out.fut G) j hj
                  simp only [Option.some.injEq, Addr.mk.injEq, and_true] at e1
                  obtain ⟨rfl, rfl⟩ := e1
                  exact c2)
                have HCX := Lib.hid (HCR.out (nth way k))
                have HHX := Lib.hid (HHS.out (nth way k))
                have HAT : Hid (inB m (nth way k) = true → 0 ≤ nth way k ∧ nth way k < m) := Lib.hid (fun q => by unfold inB at q; simpa using q)
                have HMS : Hid (S.contains (nth way k) = false → nth way k ∉ S) := Lib.hid (fun q => by simpa using q)
                have HKK := Lib.hid hkk
                obtain ⟨_, p0, p1, p2⟩ := HBP2.out.fut HFo.out
                have hlp := World.block_lt_of_cell? _ _ p0
                have HXE := Lib.hid (show nth way k = nth way k from rfl)
                obtain ⟨x, hx⟩ : ∃ x, x = nth way k := ⟨_, rfl⟩
                rw [← hx] at HKK HCX HHX HAT HMS c1
                have HXX := Lib.hid hx
                clear hkk HK hx HXE
                have HCK1 : Hid (∀ W, Fut wo W → W.cell? ⟨bb, ofs + k, none⟩ = some (.int .i64 x)) := Lib.hid (fun W G => by rw [HXX.out]; exact HCV.out k hkl W G)
                go_upto_region 16 with fail
                go_region_held3 (fun w' => w'.cell? ⟨w.heap.size, 0, none⟩ = some (.int .i64 r) ∧ w'.cell? ⟨w.heap.size, 1, none⟩ = some (.int .i64 c) ∧ w'.cell? ⟨w.heap.size, 2, none⟩ = some (.slice a S.length cap) ∧ w'.cell? ⟨bb, ofs + k, none⟩ = some (.int .i64 x)) (first | exact hS5 | exact ⟨p0, p1, p2, c1⟩)
                  (first
                    | (go_at_call 71; refine (HCX.out _).mono ?_; rintro _ w5 ⟨rfl, F5⟩; have FA5 : Fut wr w5 := Fut.trans (Fut.drewN wr 1) F5; have hS5 : w5.cell? ⟨w.heap.size, 0, none⟩ = some (.int .i64 r) ∧ w5.cell? ⟨w.heap.size, 1, none⟩ = some (.int .i64 c) ∧ w5.cell? ⟨w.heap.size, 2, none⟩ = some (.slice a S.length cap) ∧ w5.cell? ⟨bb, ofs + k, none⟩ = some (.int .i64 x) := ⟨(RowKit.Below.cell FA5 (p := ⟨w.heap.size, 0, none⟩) hlp).trans p0, (RowKit.Below.cell FA5 (p := ⟨w.heap.size, 1, none⟩) hlp).trans p1, (RowKit.Below.cell FA5 (p := ⟨w.heap.size, 2, none⟩) hlp).trans p2, HCK1.out w5 (HFi.out.trans FA5)⟩))
                have HF5 := Lib.hid (HFi.out.trans FA5)
                clear F5 FA5 hS5 p0 p1 p2 c1 hlp HFi HFo HFa
                unfold atE at HKK
                generalize hbi : inB m x = bi at *
                generalize hbs : S.contains x = bs at *
                cases bi
                · have HE2 : Hid (E = (2, [])) := Lib.hid (by rw [HGG.out, show cwE c m S way = 2 from HKK.out]; rfl)
                  clear HKK HGG
                  go_wp2_with fail
                  go_ret2
                  rw [HE2.out]
                  exact ⟨none, 0, rfl, nil_ints _ _, HFW.out.trans HF5.out⟩
                · have HXR := Lib.hid (HAT.out rfl)
                  obtain ⟨_, p0, p1, p2⟩ := HBP2.out.fut (HFX.out.trans HF5.out)
                  have c1 := HCK1.out w5 HF5.out
                  have HQ := Lib.hid (fun n => HHX.out (w5.drewN n) ((HFW.out.trans HF5.out).trans (Fut.drewN _ n)))
                  go_upto_region 18 with fail
                  go_quiet (first | (with_reducible (go_at_call 87; exact Calls.quiet_of_same ((HQ.out _).mono fun _ _ ⟨h, h'⟩ => ⟨h, h'.symm⟩))))
                  have HF6 := Lib.hid (HF5.out.trans (Fut.drewN w5 nq))
                  clear HF5 HQ c1 p0 p1 p2 HAT
                  generalize w5.drewN nq = w6 at *
                  cases bs
                  · have HNS := Lib.hid (HMS.out rfl)
                    have hkk := HKK.out
                    simp only [if_true, if_false, Bool.false_eq_true] at hkk
                    have HK3 := Lib.hid hkk
                    clear hkk HKK HMS
                    by_cases hk0 : k = 0
                    · have HK4 : Hid (cwE c m S way = cwF c m S way (way.drop (k + 1)) (k + 1)) := Lib.hid (by rw [HK3.out, if_pos (.inl hk0)])
                      have HPN : Hid (k + 1 = 0 ∨ (0 ≤ nth way (k + 1 - 1) ∧ nth way (k + 1 - 1) < m)) := Lib.hid (.inr (by rw [Nat.add_sub_cancel, ← HXX.out]; exact HXR.out))
                      subst hk0
                      clear HK3
                      go_upto_region 20 with fail
                      go_quiet (fail)
                      have HF7 := Lib.hid (HF6.out.trans (Fut.drewN w6 nq))
                      generalize w6.drewN nq = w7 at *
                      go_wp2_with fail
                      go_roundw
                      all_goals first
                        | exact ⟨0 + 1, by omega, by go_num, HK4, HPN, HF7⟩
                        | ((repeat apply Exists.intro); exact ⟨⟨0 + 1, by omega, by go_num, HK4, HPN, HF7⟩, rfl⟩)
                        | (simp [intOf]; omega)
                    · have hkp : (0 : Int) < k := by omega
                      have hgd : decide ((0 : Int) < (k : Int)) = true := decide_eq_true hkp
                      have hgd2 : decide (0 < k) = true := decide_eq_true (by omega)
                      have hw1 : IntKind.i64.wrap ((k : Int) - 1) = ((k - 1 : Nat) : Int) := by rw [IntWalk.i64_in _ ⟨by omega, by omega⟩]; omega
                      have hk1x : ((k - 1 : Nat) : Int) < way.length := by omega
                      have HPR := Lib.hid (HPV.out.resolve_left hk0)
                      have HKX := HCV.out (k - 1) (by omega)
                      have HRS := Lib.hid (fun W => HST.out (nth way (k - 1)) x HPR.out HXR.out W)
                      have HSX := Lib.hid (HSS.out (nth way (k - 1)) x HPR.out.1 ⟨HXR.out.1, HXR.out.2, HNS.out⟩)
                      have HPN : Hid (k + 1 = 0 ∨ (0 ≤ nth way (k + 1 - 1) ∧ nth way (k + 1 - 1) < m)) := Lib.hid (.inr (by rw [Nat.add_sub_cancel, ← HXX.out]; exact HXR.out))
                      have hkk := HK3.out
                      rw [HSX.out] at hkk
                      have HK5 := Lib.hid hkk
                      obtain ⟨px, hpx⟩ : ∃ px, px = nth way (k - 1) := ⟨_, rfl⟩
                      rw [← hpx] at HRS HK5 HKX
                      obtain ⟨k1, hk1⟩ : ∃ k1, k1 = k - 1 := ⟨_, rfl⟩
                      rw [← hk1] at hw1 hk1x HKX
                      have HKY := Lib.hid HKX
                      clear hkk HK3 HKX hpx hk1 HPR HSX
                      obtain ⟨_, p0, p1, p2⟩ := HBP2.out.fut (HFX.out.trans HF6.out)
                      have hlp := World.block_lt_of_cell? _ _ p0
                      have c1 := HCK1.out w6 HF6.out
                      have c2 := HKY.out w6 HF6.out
                      generalize rstE c px x = bst at *
                      go_upto_region 20 with fail
                      go_region_held3 (fun w' => w'.cell? ⟨w.heap.size, 0, none⟩ = some (.int .i64 r) ∧ w'.cell? ⟨w.heap.size, 1, none⟩ = some (.int .i64 c) ∧ w'.cell? ⟨w.heap.size, 2, none⟩ = some (.slice a S.length cap) ∧ w'.cell? ⟨bb, ofs + k, none⟩ = some (.int .i64 x) ∧ w'.cell? ⟨bb, ofs + k1, none⟩ = some (.int .i64 px)) (first | exact hS7 | exact ⟨p0, p1, p2, c1, c2⟩)
                        (first
                          | (go_at_call 88; refine (HRS.out _).mono ?_; rintro _ w7 ⟨rfl, F7⟩; have FA7 : Fut w6 w7 := Fut.trans (Fut.drewN w6 1) F7; have hS7 : w7.cell? ⟨w.heap.size, 0, none⟩ = some (.int .i64 r) ∧ w7.cell? ⟨w.heap.size, 1, none⟩ = some (.int .i64 c) ∧ w7.cell? ⟨w.heap.size, 2, none⟩ = some (.slice a S.length cap) ∧ w7.cell? ⟨bb, ofs + k, none⟩ = some (.int .i64 x) ∧ w7.cell? ⟨bb, ofs + k1, none⟩ = some (.int .i64 px) := ⟨(RowKit.Below.cell FA7 (p := ⟨w.heap.size, 0, none⟩) hlp).trans p0, (RowKit.Below.cell FA7 (p := ⟨w.heap.size, 1, none⟩) hlp).trans p1, (RowKit.Below.cell FA7 (p := ⟨w.heap.size, 2, none⟩) hlp).trans p2, HCK1.out w7 (HF6.out.trans FA7), HKY.out w7 (HF6.out.trans FA7)⟩))
                      have HF7 := Lib.hid (HF6.out.trans FA7)
                      clear F7 FA7 hS7 p0 p1 p2 c1 c2 hlp HRS HKY hgd hgd2
                      cases bst
                      · have HE2 : Hid (E = (7, [])) := Lib.hid (by rw [HGG.out, show cwE c m S way = 7 from by rw [HK5.out, if_neg (fun q => q.elim hk0 (by decide))]]; rfl)
                        clear HK5 HGG
                        go_wp2_with fail
                        go_ret2
                        rw [HE2.out]
                        exact ⟨none, 0, rfl, nil_ints _ _, HFW.out.trans HF7.out⟩
                      · have HK4 : Hid (cwE c m S way = cwF c m S way (way.drop (k + 1)) (k + 1)) := Lib.hid (by rw [HK5.out, if_pos (.inr rfl)])
                        clear HK5 hw1
                        go_wp2_with fail
                        go_roundw
                        all_goals first
                          | exact ⟨k + 1, by omega, by go_num, HK4, HPN, HF7⟩
                          | ((repeat apply Exists.intro); exact ⟨⟨k + 1, by omega, by go_num, HK4, HPN, HF7⟩, rfl⟩)
                          | (simp [intOf]; omega)
                  · have HE2 : Hid (E = (20, [])) := Lib.hid (by rw [HGG.out, show cwE c m S way = 20 from HKK.out]; rfl)
                    clear HKK HGG
                    go_wp2_with fail
                    go_ret2
                    rw [HE2.out]
                    exact ⟨none, 0, rfl, nil_ints _ _, HFW.out.trans HF6.out⟩
              · obtain rfl : way.length = k := by omega
                have hg := HGG.out
                have hce : cwE c m S way = 0 := by rw [HK.out, List.drop_of_length_le (Nat.le_refl _)]; rfl
                rw [if_pos hce] at hg
                clear hce HK HPV HGG
                obtain ⟨w3, hw3⟩ : ∃ w3, w3 = wr := ⟨_, rfl⟩
                subst hw3
                have HF3 := HFo
                have HFW3 := HFa
                have HO3 := Lib.hid (HO.out.fut HFi.out)
                have HBQ3 := Lib.hid (HBQ2.out.fut HFo.out)
                have HI3 := Lib.hid (HI.out.fut HFi.out)
                have hw1 : IntKind.i64.wrap ((way.length : Int) - 1) = ((way.length - 1 : Nat) : Int) := by rw [IntWalk.i64_in _ ⟨by omega, by omega⟩]; omega
                have hwlx : ((way.length - 1 : Nat) : Int) < way.length := by omega
                have hwln : (0 : Int) ≤ ((way.length - 1 : Nat) : Int) := by omega
                have hw0x : (0 : Int) < way.length := by omega
                clear HFo HFa HFi
                obtain ⟨_, q0, q1⟩ := HBQ3.out
                obtain ⟨wb, wof, rfl, _, e1⟩ := HI3.out (way.length - 1) (by omega)
                obtain ⟨wb2, wof2, ee, _, e2⟩ := HI3.out 0 (by omega)
                simp only [Option.some.injEq, Addr.mk.injEq, and_true] at ee
                obtain ⟨rfl, rfl⟩ := ee
                rw [Nat.add_zero] at e2
                obtain ⟨yb, yo, rfl, _, e3⟩ := (HY.out.fut HFW3.out) i (by have := HFY.out; omega)
                have HIX := Lib.hid (fun q => rindex_any ta tc T (nth way (way.length - 1)) (w3.drewN q) (HT.out.1.fut (HFW3.out.trans (Fut.drewN w3 q))) HT.out.2)
                generalize nth way (way.length - 1) = z at *
                generalize nth way 0 = z0 at *
                generalize nth Y i = yk at *
                generalize hwl1 : way.length - 1 = wl1 at *
                have htb := idx_in z T 0
                have htl : idxE T z < T.length := by have := htb.2.1; unfold idxE; omega
                have htg : -1 ≤ idxE T z := htb.1
                generalize idxE T z = tip at *
                clear htb hwl1
                go_upto_region 22 with fail
                go_quiet (first | (go_at_call 89; exact Calls.quiet_of_same ((HIX.out _).mono fun _ _ ⟨h, h'⟩ => ⟨h, h'.symm⟩)))
                have hq4 : Fut w3 (w3.drewN nq) := Fut.drewN _ _
                have HF4 := Lib.hid (HF3.out.trans hq4)
                have HFW4 := Lib.hid (HFW3.out.trans hq4)
                have HO4 := Lib.hid (HO3.out.fut hq4)
                have HBQ4 := Lib.hid (HBQ3.out.fut hq4)
                replace e2 := (RowKit.Below.cell hq4 (World.block_lt_of_cell? _ _ e2)).trans e2
                replace e3 := (RowKit.Below.cell hq4 (World.block_lt_of_cell? _ _ e3)).trans e3
                clear q0 q1 e1 hq4 HF3 HFW3 HO3 HBQ3 HIX hw1 hwlx hwln
                generalize w3.drewN nq = w4 at *
                obtain ⟨_, q0, q1⟩ := HBQ4.out
                by_cases hz : z0 = yk
                · have hzb : (z0 != yk) = false := by rw [bne_eq_false_iff_eq]; exact hz
                  by_cases ht : 0 ≤ tip
                  · have htn : ¬ tip < 0 := by omega
                    rw [if_pos ⟨hz, ht⟩] at hg
                    have HCN := Lib.hid (fun W (hW : Owns W w2.heap.size (.slice l o.length cc) o) => by
                      obtain ⟨l', cc', e, hI⟩ := hW.ints
                      simp only [Value.slice.injEq, true_and] at e
                      obtain ⟨rfl, rfl⟩ := e
                      exact rhas_any l cc o tip W hI (by have := HOL.out; omega))
                    go_upto_region 23 with fail
                    go_quiet (fail)
                    have hq5 : Fut w4 (w4.drewN nq) := Fut.drewN _ _
                    have HF5 := Lib.hid (HF4.out.trans hq5)
                    have HO5 := Lib.hid (HO4.out.fut hq5)
                    clear q0 q1 e2 e3 hq5 hzb htn
                    generalize w4.drewN nq = w5 at *
                    have HC5 := Lib.hid (HCN.out w5 HO5.out)
                    cases hct : o.contains tip
                    · rw [hct] at HC5 hg
                      rw [if_neg (by decide)] at hg
                      have HG2 := Lib.hid hg
                      clear hct hg
                      have hok : o.length ≤ 1000 := by have := HOL.out; omega
                      have HR : Hid ((w5.alloc (.cells #[.int .i64 tip] 3)).ownsRow w2.heap.size 3 1 (.slice l o.length cc) o.length (o.map (Value.int .i64))) := Lib.hid (HO5.out.fut (Fut.alloc _ _))
                      have hFa : Fut w2 (w5.alloc (.cells #[.int .i64 tip] 3)) := HF5.out.trans (Fut.alloc _ _)
                      have HZ := Lib.hid (RowKit.Below.size hFa)
                      go_wp2_with fail
                      refine HC5.out.mono ?_
                      rintro _ _ ⟨rfl, rfl⟩
                      go_wp2_with (at_builtin; refine wpList_append_lies _ rfl _ _ 22 rfl w2.heap.size 3 i0 (.int .i64 0) 1 8 Try.underlying22 hi0 hz0 hz1 hz2 rfl (by decide) _ o.length (o.map (Value.int .i64)) rfl HR.out ⟨w5.heap.size, 0, none⟩ 1 1 [.int .i64 tip] rfl rfl (cell_one (by simp [go_sem])) (by simp [Value.oneCell']) (by omega) (by unfold maxLen; omega) (by omega) HZ.out _ rfl ?_)
                      intro g8 c8 w8 hown8 hgrow8 _ _
                      have HO8 : Hid (Owns w8 w2.heap.size (.slice (some ⟨g8, 0, none⟩) (o.length + 1) c8) (o ++ [tip])) := Lib.hid (by
                        unfold Owns
                        rw [List.length_append, List.length_singleton, List.map_append]
                        exact hown8)
                      have HF8 : Hid (Fut w2 w8) := Lib.hid (RowKit.Below.grown hFa hgrow8 HZ.out fun q hq => (World.ownsRow.lt HR.out q hq).1)
                      have HOL8 : Hid ((o ++ [tip]).length = i + 1) := Lib.hid (by rw [List.length_append, HOL.out]; rfl)
                      have hnk : F.length - (i + 1) = n := by omega
                      clear hown8 hgrow8 hFa
                      go_wp2_with fail
                      go_roundw
                      case rel =>
                        have HO9 : Hid (Owns w8 w2.heap.size (.slice (some ⟨g8, 0, none⟩) (o ++ [tip]).length c8) (o ++ [tip])) := Lib.hid (by rw [List.length_append]; exact HO8.out)
                        first
                        | exact ⟨i + 1, o ++ [tip], some ⟨g8, 0, none⟩, c8, by omega, by rw [List.length_append]; rfl, by go_num, HO9, by rw [hnk]; exact HG2, HOL8, HF8⟩
                        | ((repeat apply Exists.intro); exact ⟨⟨i + 1, o ++ [tip], some ⟨g8, 0, none⟩, c8, by omega, by rw [List.length_append]; rfl, by go_num, HO9, by rw [hnk]; exact HG2, HOL8, HF8⟩, rfl⟩)
                      case measure => simp [intOf]; omega
                    · rw [hct] at HC5 hg
                      rw [if_pos rfl] at hg
                      have HG2 := Lib.hid hg
                      clear hct hg
                      go_wp2_with fail
                      refine HC5.out.mono ?_
                      rintro _ _ ⟨rfl, rfl⟩
                      go_wp2_with fail
                      go_ret2
                      rw [HG2.out]
                      exact ⟨none, 0, rfl, nil_ints _ _, HF2.out.trans HF5.out⟩
                  · have htn : tip < 0 := by omega
                    rw [if_neg (fun q => ht q.2)] at hg
                    have HG2 := Lib.hid hg
                    clear hg
                    go_upto_region 23 with fail
                    go_quiet (fail)
                    have HF5 := Lib.hid (HF4.out.trans (Fut.drewN w4 nq))
                    clear q0 q1 e2 e3
                    go_wp2
                    go_ret2
                    rw [HG2.out]
                    exact ⟨none, 0, rfl, nil_ints _ _, HF2.out.trans HF5.out⟩
                · have hzb : (z0 != yk) = true := by rw [bne_iff_ne]; exact hz
                  rw [if_neg (fun q => hz q.1)] at hg
                  have HG2 := Lib.hid hg
                  clear hg
                  go_upto_region 23 with fail
                  go_quiet (fail)
                  have HF5 := Lib.hid (HF4.out.trans (Fut.drewN w4 nq))
                  clear q0 q1 e2 e3
                  go_wp2
                  go_ret2
                  rw [HG2.out]
                  exact ⟨none, 0, rfl, nil_ints _ _, HF2.out.trans HF5.out⟩
        · obtain rfl : F.length = i := by omega
          have hg := HG.out
          rw [Nat.sub_self, orG] at hg
          have HG2 := Lib.hid hg
          clear hg
          obtain ⟨l', cc', e, hI⟩ := HO.out.ints
          simp only [Value.slice.injEq, true_and] at e
          obtain ⟨rfl, rfl⟩ := e
          have HI := Lib.hid hI
          clear hI
          go_wp2_with fail
          go_ret2
          rw [HG2.out]
          exact ⟨l, cc, rfl, HI.out, HFW.out⟩
    · rw [if_neg hl]
      have hlx : ((F.length : Int) != (Y.length : Int)) = true := by rw [bne_iff_ne]; omega
      have hlx2 : (F.length : Int) ≠ (Y.length : Int) := by omega
      go_enter Try.func31, Try.ntmps31
      go_wp2_with fail
      refine (HCK.out _ HA.out).mono ?_
      rintro _ w2 ⟨rfl, F2⟩
      have HF2 := Lib.hid (HA.out.trans F2)
      have HBQ2 := Lib.hid (HBQ.out.fut F2)
      clear p0 p1 p2 q0 q1 F2
      obtain ⟨_, q0, q1⟩ := HBQ2.out
      go_wp2_with fail
      go_ret2
      exact ⟨none, 0, rfl, nil_ints _ _, HF2.out⟩
  · rw [if_neg hc]
    generalize chkP r c S Y T = ce at *
    clear hA h hF hFk
    have hcn : (ce != 0) = true := by simpa using hc
    have hcn2 : (ce == 0) = false := by simpa using hc
    go_enter Try.func31, Try.ntmps31
    go_wp2_with fail
    refine (HCK.out _ HA.out).mono ?_
    rintro _ w2 ⟨rfl, F2⟩
    have HF2 := Lib.hid (HA.out.trans F2)
    clear p0 p1 p2 q0 q1 F2
    go_wp2_with fail
    go_ret2
    exact ⟨none, 0, rfl, nil_ints _ _, HF2.out⟩
end
section
theorem metW_iff {xs ys : List Int} : metW xs ys = true ↔ ∃ x, x ∈ xs ∧ x ∈ ys := by
  unfold metW
  rw [List.any_eq_true]
  constructor
  · rintro ⟨x, h1, h2⟩; exact ⟨x, h1, by simpa using h2⟩
  · rintro ⟨x, h1, h2⟩; exact ⟨x, h1, by simpa using h2⟩
theorem metW_not {xs ys : List Int} (h : metW xs ys = false) {x : Int} (h1 : x ∈ xs) (h2 : x ∈ ys) : False := by
  have := metW_iff.2 ⟨x, h1, h2⟩
  rw [h] at this; cases this
theorem fm3_none {F : List (List Int)} {i : Nat} {x : Int} : ∀ (f j : Nat), (∀ k, j ≤ k → k < j + f → k ≠ i → (lth F k).contains x = false) → fm3 F i x f j = none
  | 0, _, _ => rfl
  | f + 1, j, h => by
    rw [fm3, if_neg (fun q => by have := h j (Nat.le_refl _) (by omega) q.1; rw [this] at q; cases q.2)]
    exact fm3_none f (j + 1) fun k h1 h2 => h k (by omega) (by omega)
theorem fm3_some {F : List (List Int)} {i : Nat} {x : Int} : ∀ (f j k : Nat), j ≤ k → k < j + f → k ≠ i → (lth F k).contains x = true → (fm3 F i x f j).isSome = true
  | 0, _, _, h1, h2, _, _ => by omega
  | f + 1, j, k, h1, h2, h3, h4 => by
    rw [fm3]
    split
    · rfl
    · rename_i hn
      refine fm3_some f (j + 1) k ?_ (by omega) h3 h4
      rcases Nat.lt_or_ge j k with q | q
      · omega
      · obtain rfl : j = k := by omega
        exact absurd ⟨h3, h4⟩ hn
theorem fm2_none {F : List (List Int)} {i : Nat} : ∀ (l : List Int), (∀ x ∈ l, fm3 F i x F.length 0 = none) → fm2 F i l = none
  | [], _ => rfl
  | x :: t, h => by
    rw [fm2, h x (by simp)]
    exact fm2_none t fun y hy => h y (by simp [hy])
theorem fm2_some {F : List (List Int)} {i : Nat} : ∀ (l : List Int) (x : Int), x ∈ l → (fm3 F i x F.length 0).isSome = true → (fm2 F i l).isSome = true
  | y :: t, x, h, hs => by
    rw [fm2]
    cases h3 : fm3 F i y F.length 0 with
    | some r => rfl
    | none =>
      rcases List.mem_cons.1 h with rfl | q
      · rw [h3] at hs; cases hs
      · exact fm2_some t x q hs
theorem fm1_none {F : List (List Int)} : ∀ (f i : Nat), (∀ k, i ≤ k → k < i + f → fm2 F k (lth F k) = none) → fm1 F f i = none
  | 0, _, _ => rfl
  | f + 1, i, h => by
    rw [fm1, h i (Nat.le_refl _) (by omega)]
    exact fm1_none f (i + 1) fun k h1 h2 => h k (by omega) (by omega)
theorem fm1_some {F : List (List Int)} : ∀ (f i k : Nat), i ≤ k → k < i + f → (fm2 F k (lth F k)).isSome = true → (fm1 F f i).isSome = true
  | 0, _, _, h1, h2, _ => by omega
  | f + 1, i, k, h1, h2, h3 => by
    rw [fm1]
    cases h4 : fm2 F i (lth F i) with
    | some r => rfl
    | none =>
      refine fm1_some f (i + 1) k ?_ (by omega) h3
      rcases Nat.lt_or_ge i k with q | q
      · omega
      · obtain rfl : i = k := by omega
        rw [h4] at h3; cases h3
theorem fmE_off {F : List (List Int)} (h : ∀ i, i < F.length → ∀ k, k < i → metW (lth F i) (lth F k) = false) : fmE F = none :=
  fm1_none _ _ fun i _ hi => fm2_none _ fun x hx => fm3_none _ _ fun k _ hk hne => by
    rw [Nat.zero_add] at hi hk
    rw [Bool.eq_false_iff]
    intro hc
    have hc2 : x ∈ lth F k := by simpa using hc
    rcases Nat.lt_or_gt_of_ne hne with q | q
    · exact metW_not (h i hi k q) hx hc2
    · exact metW_not (h k hk i q) hc2 hx
theorem fmE_on {F : List (List Int)} {i k : Nat} (hi : i < F.length) (hk : k < i) (h : metW (lth F i) (lth F k) = true) : (fmE F).isSome = true := by
  obtain ⟨x, h1, h2⟩ := metW_iff.1 h
  exact fm1_some _ _ i (Nat.zero_le _) (by omega) (fm2_some _ x h1 (fm3_some _ _ k (Nat.zero_le _) (by omega) (by omega) (by simpa using h2)))
set_option maxRecDepth 100000 in
set_option maxHeartbeats 8000000 in
theorem rapart_any (r c : Int) (a : Option Addr) (cap : Nat) (S : List Int) (ya : Option Addr) (yc : Nat) (Y : List Int) (ta : Option Addr) (tc : Nat) (T : List Int) (fa : Option Addr) (fc : Nat) (F : List (List Int)) (w : World) (h : InPQ w a S ya yc Y ta tc T) (hF : LstAt w fa F) (hFl : F.length ≤ 1000) (hFk : ∀ k, k < F.length → (lth F k).length ≤ 1000) :
    Calls Try.prog 36 #[parV r c a S.length cap, plaV ya Y.length yc ta T.length tc, .slice fa F.length fc] w fun e w' => e = .returned (.int .i64 (aptE r c S Y T F)) ∧ Fut w w' := by
  have hA : Fut w ((w.alloc (.cells #[.int .i64 r, .int .i64 c, .slice a S.length cap] 29)).alloc (.cells #[.slice ya Y.length yc, .slice ta T.length tc] 30)) := (Fut.alloc _ _).trans (Fut.alloc _ _)
  have hBP := (BoxR.new w r c a S.length cap).fut (Fut.alloc _ (.cells #[.slice ya Y.length yc, .slice ta T.length tc] 30))
  have hBQ := BoxT.new (w.alloc (.cells #[.int .i64 r, .int .i64 c, .slice a S.length cap] 29)) ya Y.length yc ta T.length tc
  rw [World.size_alloc] at hBQ
  have HOR := Lib.hid (fun W (G : Fut w W) => rorder_any r c a cap S ya yc Y ta tc T fa fc F W (h.fut G) (hF.fut G) hFl hFk)
  have HFA := Lib.hid hF
  have HFK := Lib.hid hFk
  have hfx : (F.length : Int) ≤ 1000 := by omega
  have HA := Lib.hid hA
  obtain ⟨_, p0, p1, p2⟩ := hBP
  obtain ⟨_, q0, q1⟩ := hBQ
  have HOF : Hid ((∀ i, i < F.length → ∀ k, k < i → metW (lth F i) (lth F k) = false) → (ordP r c S Y T F).1 = 0 → aptE r c S Y T F = 0) := Lib.hid (fun q e => by unfold aptE; rw [if_pos e, fmE_off q]; rfl)
  have HON : Hid (∀ i k, i < F.length → k < i → metW (lth F i) (lth F k) = true → (ordP r c S Y T F).1 = 0 → aptE r c S Y T F = 13) := Lib.hid (fun i k hi hk q e => by unfold aptE; rw [if_pos e, fmE_on hi hk q]; rfl)
  have HOE : Hid ((ordP r c S Y T F).1 ≠ 0 → aptE r c S Y T F = (ordP r c S Y T F).1) := Lib.hid (fun e => by unfold aptE; rw [if_neg e])
  clear hA h hF hFk hFl
  generalize (ordP r c S Y T F).2 = ol at *
  generalize (ordP r c S Y T F).1 = oe at *
  generalize aptE r c S Y T F = E at *
  by_cases hc : oe = 0
  · subst hc
    clear HOE
    go_enter Try.func36, Try.ntmps36
    go_wp2_with fail
    refine (HOR.out _ HA.out).mono ?_
    rintro _ w2 ⟨l, lc, rfl, _, G⟩
    have HF2 := Lib.hid (HA.out.trans G)
    clear p0 p1 p2 q0 q1 G
    go_wp2_with fail
    go_loopw [8, 9] (fun ev iv wr => ∃ (i : Nat) (e : Int), i ≤ F.length ∧ ev = .int .i64 e ∧ iv = .int .i64 i ∧ Hid ((e = 0 ∧ ∀ a, a < i → ∀ k, k < a → metW (lth F a) (lth F k) = false) ∨ (e = 13 ∧ E = 13)) ∧ Hid (Fut w wr)) (fun _ iv _ => F.length - (intOf iv).toNat)
    case atStart => exact ⟨0, 0, Nat.zero_le _, rfl, rfl, Lib.hid (.inl ⟨rfl, fun a ha => by omega⟩), HF2⟩
    case round =>
      obtain ⟨i, e, hi, rfl, rfl, HV, HFX⟩ := hrel
      obtain ⟨wo, hwo⟩ : ∃ wo, wo = wr := ⟨_, rfl⟩
      subst hwo
      by_cases hil : i < F.length
      · have hix : (i : Int) < F.length := by omega
        by_cases he : e = 0
        · subst he
          have HV0 : Hid (∀ a, a < i → ∀ k, k < a → metW (lth F a) (lth F k) = false) := Lib.hid (HV.out.elim (fun q => q.2) (fun q => absurd q.1 (by decide)))
          clear HV
          go_wp2_with fail
          go_loopw [8, 10] (fun ev kv wr => ∃ (k : Nat) (e : Int), k ≤ i ∧ ev = .int .i64 e ∧ kv = .int .i64 k ∧ Hid ((e = 0 ∧ ∀ b, b < k → metW (lth F i) (lth F b) = false) ∨ (e = 13 ∧ E = 13)) ∧ Hid (Fut w wr)) (fun _ kv _ => i - (intOf kv).toNat)
          case atStart => exact ⟨0, 0, Nat.zero_le _, rfl, rfl, Lib.hid (.inl ⟨rfl, fun b hb => by omega⟩), HFX⟩
          case round =>
            obtain ⟨k, e, hk, rfl, rfl, HK, HFi⟩ := hrel
            by_cases hki : k < i
            · have hkx : (k : Int) < i := by omega
              have hkf : (k : Int) < F.length := by omega
              obtain ⟨fb, fo, l1, c1, rfl, _, d1, hI1⟩ := (HFA.out.fut HFi.out) i hil
              obtain ⟨fb2, fo2, l2, c2, ee, _, d2, hI2⟩ := (HFA.out.fut HFi.out) k (by omega)
              simp only [Option.some.injEq, Addr.mk.injEq, and_true] at ee
              obtain ⟨rfl, rfl⟩ := ee
              have HQ := Lib.hid (fun n => meet_any l1 l2 c1 c2 (lth F i) (lth F k) (wr.drewN n) (hI1.fut (Fut.drewN _ n)) (hI2.fut (Fut.drewN _ n)) (HFK.out i hil) (HFK.out k (by omega)))
              have HKN : Hid (metW (lth F i) (lth F k) = false → (e = 0 ∧ ∀ b, b < k + 1 → metW (lth F i) (lth F b) = false) ∨ (e = 13 ∧ E = 13)) := Lib.hid (fun q => by
                rcases HK.out with ⟨h1, h2⟩ | h1
                · refine .inl ⟨h1, fun b hb => ?_⟩
                  rcases Nat.lt_or_ge b k with q2 | q2
                  · exact h2 b q2
                  · obtain rfl : b = k := by omega
                    exact q
                · exact .inr h1)
              have HKT : Hid (metW (lth F i) (lth F k) = true → ((13 : Int) = 0 ∧ ∀ b, b < k + 1 → metW (lth F i) (lth F b) = false) ∨ ((13 : Int) = 13 ∧ E = 13)) := Lib.hid (fun q => .inr ⟨rfl, HON.out i k hil hki q trivial⟩)
              clear hI1 hI2 HK
              generalize (lth F i).length = n1 at *
              generalize (lth F k).length = n2 at *
              generalize metW (lth F i) (lth F k) = bm at *
              go_upto_region 8 with fail
              go_quiet (first | (with_reducible (go_at_call 92; exact Calls.quiet_of_same ((HQ.out _).mono fun _ _ ⟨h, h'⟩ => ⟨h, h'.symm⟩))))
              have HF5 := Lib.hid (HFi.out.trans (Fut.drewN wr nq))
              clear HQ d1 d2 HFi
              generalize wr.drewN nq = w5 at *
              cases bm
              · have HK2 := Lib.hid (HKN.out rfl)
                clear HKN HKT
                go_wp2_with fail
                go_roundw
                case rel => first
                  | exact ⟨k + 1, e, by omega, rfl, by go_num, HK2, HF5⟩
                  | ((repeat apply Exists.intro); exact ⟨⟨k + 1, e, by omega, rfl, by go_num, HK2, HF5⟩, rfl⟩)
                case measure => simp [intOf]; omega
              · have HK2 := Lib.hid (HKT.out rfl)
                clear HKN HKT
                go_wp2_with fail
                go_roundw
                case rel => first
                  | exact ⟨k + 1, 13, by omega, rfl, by go_num, HK2, HF5⟩
                  | ((repeat apply Exists.intro); exact ⟨⟨k + 1, 13, by omega, rfl, by go_num, HK2, HF5⟩, rfl⟩)
                case measure => simp [intOf]; omega
            · obtain rfl : k = i := by omega
              have HV2 : Hid ((e = 0 ∧ ∀ a, a < k + 1 → ∀ b, b < a → metW (lth F a) (lth F b) = false) ∨ (e = 13 ∧ E = 13)) := Lib.hid (by
                rcases HK.out with ⟨h1, h2⟩ | h1
                · refine .inl ⟨h1, fun a ha b hb => ?_⟩
                  rcases Nat.lt_or_ge a k with q2 | q2
                  · exact HV0.out a q2 b hb
                  · obtain rfl : a = k := by omega
                    exact h2 b hb
                · exact .inr h1)
              clear HK
              go_wp2_with fail
              go_roundw
              case rel => first
                | exact ⟨k + 1, e, by omega, rfl, by go_num, HV2, HFi⟩
                | ((repeat apply Exists.intro); exact ⟨⟨k + 1, e, by omega, rfl, by go_num, HV2, HFi⟩, rfl⟩)
              case measure => simp [intOf]; omega
        · have hen : (e == 0) = false := by simpa using he
          have HE2 : Hid (e = E) := Lib.hid (HV.out.elim (fun q => absurd q.1 he) (fun q => q.1.trans q.2.symm))
          clear HV
          go_wp2_with fail
          go_ret
          exact ⟨ret_int HE2.out, HFX.out⟩
      · obtain rfl : F.length = i := by omega
        have HE2 : Hid (e = E) := Lib.hid (HV.out.elim (fun q => q.1.trans (HOF.out q.2 trivial).symm) (fun q => q.1.trans q.2.symm))
        clear HV
        go_wp2_with fail
        go_ret
        exact ⟨ret_int HE2.out, HFX.out⟩
  · have HE2 : Hid (oe = E) := Lib.hid (HOE.out hc).symm
    clear HOF HON HOE
    have hon : (oe == 0) = false := by simpa using hc
    go_enter Try.func36, Try.ntmps36
    go_wp2_with fail
    refine (HOR.out _ HA.out).mono ?_
    rintro _ w2 ⟨l, lc, rfl, _, G⟩
    have HF2 := Lib.hid (HA.out.trans G)
    clear p0 p1 p2 q0 q1 G
    go_wp2_with fail
    go_loopw [8, 9] (fun ev iv wr => ev = .int .i64 oe ∧ iv = .int .i64 0 ∧ wr = w2) (fun _ _ _ => 0)
    case atStart => exact ⟨rfl, rfl, rfl⟩
    case round =>
      obtain ⟨rfl, rfl, rfl⟩ := hrel
      by_cases hfl : 0 < F.length
      · have h0 : (0 : Int) < F.length := by omega
        go_wp2_with fail
        go_ret
        exact ⟨ret_int HE2.out, HF2.out⟩
      · have h0 : ¬ (0 : Int) < F.length := by omega
        go_wp2_with fail
        go_ret
        exact ⟨ret_int HE2.out, HF2.out⟩
end
end Go.Proofs.Ytflllkamdihfaaa
