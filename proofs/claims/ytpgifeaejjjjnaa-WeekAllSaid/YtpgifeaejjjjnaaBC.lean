/- Layer 3: Check and Corner. -/
import Derived.Test.YtpgifeaejjjjnaaBB
namespace Go.Proofs.Ytpgifeaejjjjnaa
open Go.RowKit Go.Sort
/-- the rows of a plan, one behind another. -/
def chG (c : Int) (all : List (List Int)) : List (List Int) → Nat → Int
  | [], _ => 0
  | l :: t, k => if (l.length : Int) = c then (if amE c (all.take k) l = 0 then chG c all t (k + 1) else amE c (all.take k) l) else 5
def chkE (c : Int) (zss : List (List Int)) : Int := if sizeE c zss.length = 0 then chG c zss zss 0 else sizeE c zss.length
/-- the lists of a corner, one behind another. -/
def coG (c : Int) (all : List (List Int)) : List (List Int) → Nat → Int
  | [], _ => 0
  | l :: t, k => if l.length = (lth all 0).length ∧ (l.length : Int) ≤ c then (if amE c (all.take k) l = 0 then coG c all t (k + 1) else amE c (all.take k) l) else 5
def corE (c : Int) (zss : List (List Int)) : Int := if sizeE c zss.length = 0 then coG c zss zss 0 else sizeE c zss.length
theorem size_good {c : Int} {n : Nat} (h : sizeE c n = 0) : 1 ≤ c ∧ c ≤ 5 ∧ (n : Int) ≤ c := by
  unfold sizeE at h
  split at h
  · cases h
  · split at h
    · cases h
    · omega
theorem among_take (c : Int) (bb off cap : Nat) (zss : List (List Int)) (k : Nat) (hk : k < zss.length) (hl : zss.length ≤ 1000) (b : Option Addr) (bap : Nat) (zs : List Int) (w : World) (hL : LstC w (some ⟨bb, off, none⟩) zss) (hI : IntsAt w b zs)
    (hd : ∀ j, j < k → zs.length ≤ (lth zss j).length) (hz : zs.length ≤ 1000) (hcap : zs.length ≤ bap) (hcm : bap ≤ 9223372036854775807) :
    Calls Try.prog 77 #[.int .i64 c, .slice (some ⟨bb, off, none⟩) k cap, .slice b zs.length bap] w fun e w' => e = .returned (.int .i64 (amE c (zss.take k) zs)) ∧ Fut w w' := by
  have hn : (zss.take k).length = k := by rw [List.length_take]; omega
  have := among_any c (some ⟨bb, off, none⟩) cap (zss.take k) b bap zs w (hL.take k).lst hI (fun j hj => by rw [hn] at hj; rw [lth_take _ _ _ hj]; exact hd j hj) (by omega) hz hcap hcm
  rw [hn] at this
  exact this
theorem check_any (c : Int) (a : Option Addr) (cap : Nat) (zss : List (List Int)) (w : World) (hL : LstC w a zss) (hcap : zss.length ≤ cap) (hcm : cap ≤ 9223372036854775807) :
    Calls Try.prog 24 #[.int .i64 c, .slice a zss.length cap] w fun e w' => e = .returned (.int .i64 (chkE c zss)) ∧ Fut w w' := by
  have HS := Lib.hid (size_any c a zss.length cap w)
  unfold chkE
  by_cases hs : sizeE c zss.length = 0
  · rw [if_pos hs]
    rw [hs] at HS
    obtain ⟨c1, c5, hn⟩ := size_good hs
    have hlx : (zss.length : Int) ≤ 5 := by omega
    have HA := Lib.hid (fun (bb off k : Nat) (hk : k < zss.length) b bap zs W hC hI hd hz hcap hcm => among_take c bb off cap zss k hk (by omega) b bap zs W hC hI hd hz hcap hcm)
    have HL := Lib.hid hL
    clear hL hs
    generalize hE : chG c zss zss 0 = E at *
    have HE := Lib.hid hE
    clear hE
    go_enter Try.func24, Try.ntmps24
    go_wp2_with fail
    refine HS.out.mono ?_
    rintro _ _ ⟨rfl, rfl⟩
    go_wp2_with fail
    go_loopw [17] (fun iv wr => ∃ k : Nat, k ≤ zss.length ∧ iv = .int .i64 k ∧ Hid (chG c zss (zss.drop k) k = E) ∧ Hid (∀ j, j < k → ((lth zss j).length : Int) = c) ∧ Hid (Fut w wr)) (fun iv _ => zss.length - (intOf iv).toNat)
    case atStart => exact ⟨0, Nat.zero_le _, rfl, HE, Lib.hid (fun j hj => absurd hj (by omega)), Lib.hid Fut.rfl⟩
    case round =>
      obtain ⟨k, hk, rfl, HO, HB, HF⟩ := hrel
      by_cases hlt : k < zss.length
      · have hkx : (k : Int) < zss.length := by omega
        have hC := HL.out.fut HF.out
        obtain ⟨bb, off, l, lc, ea, hbb, d1, hlc, hcc, hI⟩ := hC k hlt
        subst ea
        have hd := lth_drop zss k hlt
        rw [hd] at HO
        have hsl := fun W => slice_to22 bb off zss.length cap k (by omega) W
        unfold chG at HO
        by_cases hlen : ((lth zss k).length : Int) = c
        · have HAA := Lib.hid (HA.out bb off k hlt l lc (lth zss k) wr hC hI (fun j hj => by have := HB.out j hj; omega) (by omega) hlc hcc)
          have HB2 : Hid (∀ j, j < k + 1 → ((lth zss j).length : Int) = c) := Lib.hid (fun j hj => by
            rcases Nat.lt_or_ge j k with h | h
            · exact HB.out j h
            · obtain rfl : j = k := by omega
              exact hlen)
          rw [if_pos hlen] at HO
          generalize lth zss k = zs at *
          clear hd hI hC
          by_cases he : amE c (zss.take k) zs = 0
          · rw [if_pos he] at HO
            rw [he] at HAA
            clear he
            go_wp2_with fail
            refine HAA.out.mono ?_
            rintro _ w3 ⟨rfl, F⟩
            have HF3 := Lib.hid (HF.out.trans F)
            clear F hsl
            go_wp2
            go_round
            case rel => exact ⟨k + 1, by omega, by go_num, HO, HB2, HF3⟩
            case measure => simp [intOf]; omega
          · rw [if_neg he] at HO
            have hE : amE c (zss.take k) zs = E := HO.out
            rw [hE] at HAA he
            go_wp2_with fail
            refine HAA.out.mono ?_
            rintro _ w3 ⟨rfl, F⟩
            have HF3 := Lib.hid (HF.out.trans F)
            clear F hsl
            go_wp2
            go_ret
            exact ⟨rfl, HF3.out⟩
        · rw [if_neg hlen] at HO
          have hE : E = 5 := HO.out.symm
          subst hE
          generalize lth zss k = zs at *
          clear hd hI hC hsl
          go_wp2
          go_ret
          exact ⟨rfl, HF.out⟩
      · obtain rfl : k = zss.length := by omega
        rw [List.drop_of_length_le (Nat.le_refl _)] at HO
        have hE : E = 0 := HO.out.symm
        subst hE
        go_wp2
        go_ret
        exact ⟨rfl, HF.out⟩
  · rw [if_neg hs]
    clear hL
    generalize sizeE c zss.length = E at *
    go_enter Try.func24, Try.ntmps24
    go_wp2_with fail
    refine HS.out.mono ?_
    rintro _ _ ⟨rfl, rfl⟩
    go_wp2
    go_ret
    exact ⟨rfl, Fut.rfl⟩
theorem corner_any (c : Int) (a : Option Addr) (cap : Nat) (zss : List (List Int)) (w : World) (hL : LstC w a zss) (hcap : zss.length ≤ cap) (hcm : cap ≤ 9223372036854775807) :
    Calls Try.prog 42 #[.int .i64 c, .slice a zss.length cap] w fun e w' => e = .returned (.int .i64 (corE c zss)) ∧ Fut w w' := by
  have HS := Lib.hid (size_any c a zss.length cap w)
  unfold corE
  by_cases hs : sizeE c zss.length = 0
  · rw [if_pos hs]
    rw [hs] at HS
    obtain ⟨c1, c5, hn⟩ := size_good hs
    have hlx : (zss.length : Int) ≤ 5 := by omega
    have HA := Lib.hid (fun (bb off k : Nat) (hk : k < zss.length) b bap zs W hC hI hd hz hcap hcm => among_take c bb off cap zss k hk (by omega) b bap zs W hC hI hd hz hcap hcm)
    have HL := Lib.hid hL
    clear hL hs
    generalize hE : coG c zss zss 0 = E at *
    have HE := Lib.hid hE
    clear hE
    go_enter Try.func42, Try.ntmps42
    go_wp2_with fail
    refine HS.out.mono ?_
    rintro _ _ ⟨rfl, rfl⟩
    go_wp2_with fail
    go_loopw [17] (fun iv wr => ∃ k : Nat, k ≤ zss.length ∧ iv = .int .i64 k ∧ Hid (coG c zss (zss.drop k) k = E) ∧ Hid (∀ j, j < k → (lth zss j).length = (lth zss 0).length) ∧ Hid (Fut w wr)) (fun iv _ => zss.length - (intOf iv).toNat)
    case atStart => exact ⟨0, Nat.zero_le _, rfl, HE, Lib.hid (fun j hj => absurd hj (by omega)), Lib.hid Fut.rfl⟩
    case round =>
      obtain ⟨k, hk, rfl, HO, HB, HF⟩ := hrel
      by_cases hlt : k < zss.length
      · have hkx : (k : Int) < zss.length := by omega
        have hC := HL.out.fut HF.out
        obtain ⟨bb, off, l, lc, ea, hbb, d1, hlc, hcc, hI⟩ := hC k hlt
        subst ea
        have hd := lth_drop zss k hlt
        rw [hd] at HO
        obtain ⟨b0, o0, l0, lc0, e0, _, d0, _, _, _⟩ := hC 0 (by omega)
        cases e0
        rw [Nat.add_zero] at d0
        have hsl := fun W => slice_to22 bb off zss.length cap k (by omega) W
        unfold coG at HO
        by_cases hlen : (lth zss k).length = (lth zss 0).length ∧ ((lth zss k).length : Int) ≤ c
        · have HAA := Lib.hid (HA.out bb off k hlt l lc (lth zss k) wr hC hI (fun j hj => by have := HB.out j hj; omega) (by omega) hlc hcc)
          have HB2 : Hid (∀ j, j < k + 1 → (lth zss j).length = (lth zss 0).length) := Lib.hid (fun j hj => by
            rcases Nat.lt_or_ge j k with h | h
            · exact HB.out j h
            · obtain rfl : j = k := by omega
              exact hlen.1)
          rw [if_pos hlen] at HO
          obtain ⟨hq1, hq2⟩ := hlen
          generalize (lth zss 0).length = n0 at *
          generalize lth zss k = zs at *
          subst hq1
          clear hd hI hC
          by_cases he : amE c (zss.take k) zs = 0
          · rw [if_pos he] at HO
            rw [he] at HAA
            clear he
            go_wp2_with fail
            refine HAA.out.mono ?_
            rintro _ w3 ⟨rfl, F⟩
            have HF3 := Lib.hid (HF.out.trans F)
            clear F hsl
            go_wp2
            go_round
            case rel => exact ⟨k + 1, by omega, by go_num, HO, HB2, HF3⟩
            case measure => simp [intOf]; omega
          · rw [if_neg he] at HO
            have hE : amE c (zss.take k) zs = E := HO.out
            rw [hE] at HAA he
            go_wp2_with fail
            refine HAA.out.mono ?_
            rintro _ w3 ⟨rfl, F⟩
            have HF3 := Lib.hid (HF.out.trans F)
            clear F hsl
            go_wp2
            go_ret
            exact ⟨rfl, HF3.out⟩
        · rw [if_neg hlen] at HO
          have hE : E = 5 := HO.out.symm
          subst hE
          generalize (lth zss 0).length = n0 at *
          generalize lth zss k = zs at *
          clear hd hI hC hsl HB
          by_cases hq : zs.length = n0
          · have hq' : ¬ ((zs.length : Int) ≤ c) := fun h => hlen ⟨hq, h⟩
            subst hq
            clear hlen
            go_wp2
            go_ret
            exact ⟨rfl, HF.out⟩
          · clear hlen
            go_wp2
            go_ret
            exact ⟨rfl, HF.out⟩
      · obtain rfl : k = zss.length := by omega
        rw [List.drop_of_length_le (Nat.le_refl _)] at HO
        have hE : E = 0 := HO.out.symm
        subst hE
        go_wp2
        go_ret
        exact ⟨rfl, HF.out⟩
  · rw [if_neg hs]
    clear hL
    generalize sizeE c zss.length = E at *
    go_enter Try.func42, Try.ntmps42
    go_wp2_with fail
    refine HS.out.mono ?_
    rintro _ _ ⟨rfl, rfl⟩
    go_wp2
    go_ret
    exact ⟨rfl, Fut.rfl⟩
end Go.Proofs.Ytpgifeaejjjjnaa
