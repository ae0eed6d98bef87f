/- LaneTurned: law11_any -/
import Derived.Test.YtflllkamdihfaaaLHC
import Derived.Test.YtflllkamdihfaaaLHB
import Derived.Test.YtflllkamdihfaaaLHA
import Derived.Test.YtflllkamdihfaaaLGS
import Derived.Test.YtflllkamdihfaaaLGD
import Derived.Test.YtflllkamdihfaaaLGE
import Derived.Test.YtflllkamdihfaaaLGC
import Derived.Test.YtflllkamdihfaaaLGA
import Derived.Test.YtflllkamdihfaaaLBJ
import Derived.Test.YtflllkamdihfaaaLCD
import Derived.Test.YtflllkamdihfaaaLMC
import Derived.Test.YtflllkamdihfaaaLMB
import Derived.Test.YtflllkamdihfaaaLMA
import Derived.Test.YtflllkamdihfaaaLBG
import Derived.Shelf.Slices.Reverse
import Derived.Deep.DeepCutAuto
namespace Go.Proofs.Ytflllkamdihfaaa
open Go.RowKit Go.Sort
theorem tau_good {r c : Int} {S Y T : List Int} (hg : ChkG r c S Y T) (h1 : ∀ x ∈ S, 0 ≤ x ∧ x < r * c) (h2 : S.Pairwise (· < ·)) :
    (∀ x, 0 ≤ x → x < r * c → (tauI r c (r * c) x ∈ srtI (S.map (tauI r c (r * c))) ↔ x ∈ S)) ∧ chkP c r (srtI (S.map (tauI r c (r * c)))) (Y.map (tauI r c (r * c))) (T.map (tauI r c (r * c))) = 0 := by
  have inj : ∀ a b, tauI r c (r * c) a = tauI r c (r * c) b → a = b := fun a b h => tau_inj hg.side h
  have hmem : ∀ x, tauI r c (r * c) x ∈ srtI (S.map (tauI r c (r * c))) ↔ x ∈ S := fun x => by
    rw [srt_mem, List.mem_map]
    exact ⟨fun ⟨y, hy, e⟩ => inj _ _ e ▸ hy, fun h => ⟨x, h, rfl⟩⟩
  have hcr : c * r = r * c := Int.mul_comm _ _
  have nd : ∀ {l : List Int}, l.Nodup → (l.map (tauI r c (r * c))).Nodup := fun h => nodup_map h (fun a _ b _ e => inj a b e)
  have hin : ∀ {l : List Int}, (∀ x ∈ l, 0 ≤ x ∧ x < r * c ∧ x ∉ S) → ∀ x ∈ l.map (tauI r c (r * c)), 0 ≤ x ∧ x < c * r ∧ x ∉ srtI (S.map (tauI r c (r * c))) := fun h x hx => by
    obtain ⟨y, hy, rfl⟩ := List.mem_map.1 hx
    obtain ⟨a1, a2, a3⟩ := h y hy
    have b := tau_in hg.side ⟨a1, a2⟩
    exact ⟨b.1, by rw [hcr]; exact b.2.1, fun q => a3 ((hmem y).1 q)⟩
  obtain ⟨s1, s2, s3, s4, _⟩ := id hg.side
  have hSn : S.Nodup := h2.imp (fun h => by omega)
  refine ⟨fun x _ _ => hmem x, chk_good ⟨⟨s3, s4, s1, s2, rfl⟩, by rw [List.length_map, List.length_map]; exact hg.len, by rw [List.length_map]; exact hg.one, by rw [List.length_map]; exact hg.three, hin hg.y, hin hg.t, nd hg.yd, nd hg.td⟩ (fun x hx => ?_) (srt_lt (nd hSn))⟩
  rw [srt_mem] at hx
  obtain ⟨y, hy, rfl⟩ := List.mem_map.1 hx
  have b := tau_in hg.side (h1 y hy)
  exact ⟨b.1, by rw [hcr]; exact b.2.1⟩
theorem tab_tau {r c : Int} {S Y T : List Int} (hc : chkP r c S Y T = 0) {S' : List Int} (hS : ∀ x, 0 ≤ x → x < r * c → (tauI r c (r * c) x ∈ S' ↔ x ∈ S)) (hc' : chkP c r S' (Y.map (tauI r c (r * c))) (T.map (tauI r c (r * c))) = 0) :
    tabL c r S' (Y.map (tauI r c (r * c))) (T.map (tauI r c (r * c))) = tabL r c S Y T ∧ sgnV c r S' (Y.map (tauI r c (r * c))) (T.map (tauI r c (r * c))) = sgnV r c S Y T ∧ (famL r (c * r) S' (Y.map (tauI r c (r * c))) (T.map (tauI r c (r * c)))).length = (famL c (r * c) S Y T).length := by
  have hg := chk_all hc
  have hcr : c * r = r * c := Int.mul_comm _ _
  have h1 : tabL c r S' (Y.map (tauI r c (r * c))) (T.map (tauI r c (r * c))) = tabL r c S Y T := by
    rw [tab_tb hc, tab_tb hc']
    unfold tbF
    rw [List.map_map]
    refine List.map_congr_left fun y hy => ?_
    show (T.map (tauI r c (r * c))).map (fun t => ((wayN r (c * r) S' (tauI r c (r * c) y) t : Nat) : Int)) = _
    rw [List.map_map]
    refine List.map_congr_left fun t _ => ?_
    show ((wayN r (c * r) S' (tauI r c (r * c) y) (tauI r c (r * c) t) : Nat) : Int) = _
    rw [hcr, way_tau hg.side hS y t ⟨(hg.y y hy).1, (hg.y y hy).2.1⟩]
  refine ⟨h1, ?_, ?_⟩
  · unfold sgnV
    rw [if_pos hc, if_pos hc', h1, List.length_map]
  · rw [hcr]
    exact fam_tau hg.side hS Y T (fun y hy => ⟨(hg.y y hy).1, (hg.y y hy).2.1⟩)
theorem rev_good {r c : Int} {S Y T : List Int} (hc : chkP r c S Y T = 0) (h1 : ∀ x ∈ S, 0 ≤ x ∧ x < r * c) (h2 : S.Pairwise (· < ·)) : chkP r c S Y.reverse T = 0 := by
  have hg := chk_all hc
  exact chk_good ⟨hg.side, by rw [List.length_reverse]; exact hg.len, by rw [List.length_reverse]; exact hg.one, by rw [List.length_reverse]; exact hg.three, fun x hx => hg.y x (by simpa using hx), hg.t, (List.reverse_perm Y).nodup_iff.2 hg.yd, hg.td⟩ h1 h2
theorem sgn_le {r c : Int} {S Y T : List Int} (hc : chkP r c S Y T = 0) : -1688849860263936 ≤ sgnV r c S Y T ∧ sgnV r c S Y T ≤ 1688849860263936 := by
  have hg := chk_all hc
  have h := (det_le Y.length (tabL r c S Y T) (tab_good hc).2.2.2).1
  have hk : detK Y.length ≤ 1688849860263936 := by
    have h1 := hg.one
    have h3 := hg.three
    rcases (by omega : Y.length = 1 ∨ Y.length = 2 ∨ Y.length = 3) with e | e | e <;> rw [e] <;> decide
  unfold sgnV
  rw [if_pos hc]
  omega
theorem sort_own {w : World} {B n : Nat} {a : Option Addr} {cap : Nat} {L : List Int} (h : Owns w B (.slice a n cap) L) (hn : n = L.length) (hl : L.length ≤ 1000) :
    Calls Try.prog 56 #[.slice a n cap] w fun e w' => e = .returned (.tuple #[]) ∧ IntsAt w' a (srtI L) ∧ RowKit.Below B w w' ∧ ∀ k, k < w.heap.size → (Value.slice a n cap).ownBlock ≠ some k → w'.heap[k]? = w.heap[k]? := by
  subst hn
  rcases Nat.eq_zero_or_pos L.length with q | q
  · have e : L = [] := List.eq_nil_of_length_eq_zero q
    subst e
    refine (sort_none a cap w).mono ?_
    rintro e w' ⟨rfl, rfl⟩
    exact ⟨rfl, fun j hj => absurd hj (by rw [srt_len]; simp), RowKit.Below.refl _ _, fun _ _ _ => rfl⟩
  · obtain ⟨g, c, e, hg1, hg2, hR, _, _⟩ := row_ints h rfl q
    cases e
    refine (sort_any g cap L w hR hg2 (by omega)).mono ?_
    rintro e w' ⟨rfl, h1, h2, h3, h4⟩
    exact ⟨rfl, fun j hj => ⟨g, 0, rfl, by omega, by rw [Nat.zero_add]; exact h1.1 j hj⟩, h2 B hg1, fun k hk hne => h4 k hk (fun e => hne (by rw [e]; rfl))⟩
theorem rev_own {w : World} {B n : Nat} {a : Option Addr} {cap : Nat} {L : List Int} (h : Owns w B (.slice a n cap) L) (hn : n = L.length) (hl : L.length ≤ 1000) (q : 0 < L.length) :
    Calls Try.prog 60 #[.slice a n cap] w fun e w' => e = .returned (.tuple #[]) ∧ IntsAt w' a L.reverse ∧ RowKit.Below B w w' ∧ ∀ k, k < w.heap.size → (Value.slice a n cap).ownBlock ≠ some k → w'.heap[k]? = w.heap[k]? := by
  subst hn
  obtain ⟨g, c, e, hg1, hg2, hR, _, _⟩ := row_ints h rfl q
  cases e
  refine (rev_any g cap L w hR (by omega)).mono ?_
  rintro e w' ⟨rfl, h1, h2, h3, h4⟩
  exact ⟨rfl, fun j hj => ⟨g, 0, rfl, by omega, by rw [Nat.zero_add]; exact h1.1 j hj⟩, h2 B hg1, fun k hk hne => h4 k hk (fun e => hne (by rw [e]; rfl))⟩
theorem box_sorted {w w' : World} {A : Nat} {cs : Array Value} {v : Value} {t : TypeId} {L : List Int} {B : Nat} (h : w.heap[A]? = some (.cells cs t)) (hO : Owns w B v L) (ht : t ≠ 3) (hk : ∀ k, k < w.heap.size → v.ownBlock ≠ some k → w'.heap[k]? = w.heap[k]?) : w'.heap[A]? = some (.cells cs t) := by
  rw [hk A (Array.getElem?_eq_some_iff.1 h).1 (own_ty hO h ht)]; exact h
theorem table_ok2 {r c : Int} {a : Option Addr} {cap : Nat} {S : List Int} {ya : Option Addr} {yc : Nat} {Y : List Int} {ta : Option Addr} {tc : Nat} {T : List Int} {w : World} (h : InPQ w a S ya yc Y ta tc T) (hc : chkP r c S Y T = 0) {n p q : Nat} (hn : S.length = n) (hp : Y.length = p) (hq : T.length = q) {tb : List (List Int)} (hk : tabL r c S Y T = tb) :
    Calls Try.prog 18 #[parV r c a n cap, plaV ya p yc ta q tc] w (TupLC 0 tb w) := by
  subst hn hp hq hk
  have := table_any r c a cap S ya yc Y ta tc T w h
  rw [hc] at this
  exact this
set_option maxRecDepth 100000 in
set_option maxHeartbeats 16000000 in
theorem law11_any (t : Nat → Nat) (ht : t 3 ≤ 65535 ∧ ∀ j, j ≠ 3 → t j ≤ 255) (w : World) :
    Calls Try.prog 11 #[planV t] w fun e w' => e = .returned (.bool true) ∧ Fut w w' := by
  have HMD := Lib.hid (fun W => made_any t ht W)
  have HF0 : Hid (Fut w (w.alloc (.cells #[.int .u8 (t 0 : Nat), .int .u8 (t 1 : Nat), .int .u8 (t 2 : Nat), .int .u16 (t 3 : Nat), .int .u8 (t 4 : Nat), .int .u8 (t 5 : Nat), .int .u8 (t 6 : Nat), .int .u8 (t 7 : Nat), .int .u8 (t 8 : Nat), .int .u8 (t 9 : Nat)] 63))) := Lib.hid (Fut.alloc _ _)
  unfold planV at *
  go_enter Try.func11, Try.ntmps11
  go_wp2_with fail
  refine (HMD.out _).mono ?_
  rintro _ w1 ⟨sa, sc, ya, yc, ta, tc, rfl, hS, hY, hT, F1⟩
  have HF1 := Lib.hid (HF0.out.trans F1)
  have hA : Fut w1 ((w1.alloc (.cells #[.int .i64 (mR t : Nat), .int .i64 (mC t : Nat), .slice sa (mS t).length sc] 24)).alloc (.cells #[.slice ya (mY t).length yc, .slice ta (mT t).length tc] 26)) := (Fut.alloc _ _).trans (Fut.alloc _ _)
  have hBP := (BoxP.new w1 (mR t : Nat) (mC t : Nat) sa (mS t).length sc).fut (Fut.alloc _ (.cells #[.slice ya (mY t).length yc, .slice ta (mT t).length tc] 26))
  have hBQ := BoxQ.new (w1.alloc (.cells #[.int .i64 (mR t : Nat), .int .i64 (mC t : Nat), .slice sa (mS t).length sc] 24)) ya (mY t).length yc ta (mT t).length tc
  rw [World.size_alloc] at hBQ
  have HF2 := Lib.hid (HF1.out.trans hA)
  have HBP := Lib.hid hBP
  have HBQ := Lib.hid hBQ
  have hS2 := hS.fut hA
  have hY2 := hY.fut hA
  have hT2 := hT.fut hA
  clear HMD HF0 HF1 hBP hBQ hA hS hY hT F1
  cases hok : mOk t
  · clear hS2 hY2 hT2 HBP HBQ hok
    go_wp2_with fail
    refine (works_any _).mono ?_
    rintro _ w3 ⟨rfl, F⟩
    have HF3 := Lib.hid (HF2.out.trans F)
    clear F
    go_wp2_with fail
    go_ret
    exact ⟨rfl, HF3.out⟩
  · have hck := made_chk hok
    have hg := made_g hok
    have hsin := made_sin t
    have hsl : (mS t).length ≤ 16 := Nat.le_trans (shL_len _ _) (by unfold mR mC; exact Nat.mul_le_mul (show 1 + t 0 % 4 ≤ 4 by omega) (show 1 + t 1 % 4 ≤ 4 by omega))
    have HSA : Hid ((mS t).Pairwise (· < ·)) := Lib.hid (sh_asc _ _)
    have h : InPQ _ sa (mS t) ya yc (mY t) ta tc (mT t) := inpq_made hS2 hY2 hT2 (by omega) (by have := hg.three; omega) (by have := hg.three; have := hg.len; omega)
    have HIN := Lib.hid h
    have HOS := Lib.hid hS2
    have HCK := Lib.hid hck
    have HGG := Lib.hid hg
    have HSIN := Lib.hid hsin
    obtain ⟨M, hM⟩ : ∃ M, M = mR t * mC t := ⟨_, rfl⟩
    have HMI : Hid (((mR t : Nat) : Int) * ((mC t : Nat) : Int) = (M : Int)) := Lib.hid (by rw [hM, Int.natCast_mul])
    have hM16 : 1 ≤ M ∧ M ≤ 16 := by have := side_m hg.side; rw [HMI.out] at this; omega
    have HRC : Hid (1 ≤ mR t ∧ mR t ≤ 4 ∧ 1 ≤ mC t ∧ mC t ≤ 4) := Lib.hid (by unfold mR mC; omega)
    clear hS2 hY2 hT2 hok hck hg hsin h hM
    generalize mR t = r at *
    generalize mC t = c at *
    generalize mS t = S at *
    generalize mY t = Y at *
    generalize mT t = T at *
    obtain ⟨hM1, hM2⟩ := hM16
    have hwM : IntKind.i64.wrap ((r : Int) * (c : Int)) = (M : Int) := by rw [HMI.out]; exact IntWalk.i64_in _ ⟨by omega, by omega⟩
    have hsl2 := hsl
    have hg := HGG.out
    obtain ⟨htS, hck'⟩ := tau_good hg HSIN.out HSA.out
    obtain ⟨htab, hsgn, hfam⟩ := tab_tau HCK.out htS hck'
    have hrv := rev_good HCK.out HSIN.out HSA.out
    have hsr := sgn_rev HCK.out hrv
    have hfr := fam_perm (c : Int) ((r : Int) * (c : Int)) S T (List.reverse_perm Y)
    have hsb := sgn_le HCK.out
    have hcr : ((c : Int) * (r : Int)) = ((r : Int) * (c : Int)) := Int.mul_comm _ _
    have hY3 := hg.three
    have hY1 := hg.one
    have HTY := Lib.hid hg.len
    have hT3 : T.length ≤ 3 := by have := hg.len; omega
    obtain ⟨tu, htu⟩ : ∃ tu, tu = tauI (r : Int) (c : Int) ((r : Int) * (c : Int)) := ⟨_, rfl⟩
    obtain ⟨S', hS'⟩ : ∃ S', S' = srtI (S.map (tauI (r : Int) (c : Int) ((r : Int) * (c : Int)))) := ⟨_, rfl⟩
    obtain ⟨tb, htb⟩ : ∃ tb, tabL (r : Int) (c : Int) S Y T = tb := ⟨_, rfl⟩
    obtain ⟨D, hD⟩ : ∃ D, sgnV (r : Int) (c : Int) S Y T = D := ⟨_, rfl⟩
    obtain ⟨C, hC⟩ : ∃ C, (famL (c : Int) ((r : Int) * (c : Int)) S Y T).length = C := ⟨_, rfl⟩
    rw [← hS'] at hck' htab hsgn hfam
    rw [htb] at htab
    rw [hD] at hsgn hsr hsb
    rw [hC] at hfam hfr
    have hsl' : S'.length = S.length := by rw [hS', srt_len, List.length_map]
    have HTA0 := Lib.hid (fun W (h : InPQ W sa S ya yc Y ta tc T) => table_ok2 (cap := sc) h HCK.out rfl rfl rfl htb)
    have HSG0 := Lib.hid (fun W (h : InPQ W sa S ya yc Y ta tc T) => signed_ok2 (cap := sc) h HCK.out rfl rfl rfl hD)
    have HCN0 := Lib.hid (fun W (h : InPQ W sa S ya yc Y ta tc T) => count_ok3 (cap := sc) h HCK.out rfl rfl rfl hC)
    have HTA1 := Lib.hid (fun W a cp y1 y2 t1 t2 (h : InPQ W a S' y1 y2 (Y.map tu) t1 t2 (T.map tu)) => table_ok2 (tb := tb) (r := (c : Int)) (c := (r : Int)) (cap := cp) h (by rw [htu]; exact hck') hsl' (List.length_map _) (List.length_map _) (by rw [htu]; exact htab))
    have HSG1 := Lib.hid (fun W a cp y1 y2 t1 t2 (h : InPQ W a S' y1 y2 (Y.map tu) t1 t2 (T.map tu)) => signed_ok2 (k := D) (r := (c : Int)) (c := (r : Int)) (cap := cp) h (by rw [htu]; exact hck') hsl' (List.length_map _) (List.length_map _) (by rw [htu]; exact hsgn))
    have HCN1 := Lib.hid (fun W a cp y1 y2 t1 t2 (h : InPQ W a S' y1 y2 (Y.map tu) t1 t2 (T.map tu)) => count_ok3 (k := C) (r := (c : Int)) (c := (r : Int)) (cap := cp) h (by rw [htu]; exact hck') hsl' (List.length_map _) (List.length_map _) (by rw [htu]; exact hfam))
    have HSG2 := Lib.hid (fun W y1 y2 (h : InPQ W sa S y1 y2 Y.reverse ta tc T) => signed_ok2 (cap := sc) h hrv rfl (List.length_reverse) rfl hsr)
    have HCN2 := Lib.hid (fun W y1 y2 (h : InPQ W sa S y1 y2 Y.reverse ta tc T) => count_ok3 (cap := sc) h hrv rfl (List.length_reverse) rfl hfr)
    have HSP := Lib.hid hS'
    have HTU := Lib.hid htu
    have HSL' := Lib.hid hsl'
    have HIN0 := HIN
    clear hg htS hck' htab hsgn hfam hrv hsr hfr hcr htu hS' htb hD hC hsl'
    obtain ⟨_, p0, p1, p2⟩ := HBP.out
    obtain ⟨_, q0, q1⟩ := HBQ.out
    go_upto_region 5 with fail
    generalize hW2 : (w1.alloc (.cells #[.int .i64 (r : Int), .int .i64 (c : Int), .slice sa S.length sc] 24)).alloc (.cells #[.slice ya Y.length yc, .slice ta T.length tc] 26) = w3 at *
    clear hW2
    go_cut [7] from 32 to 41 (fun s7 wx => ∃ (B : Nat) (l : Option Addr) (cp : Nat), s7 = .pointer (some ⟨B, 0, none⟩) ∧ Hid (wx.heap[B]? = some (.cells #[.int .i64 (c : Int), .int .i64 (r : Int), .slice l S.length cp] 24)) ∧ Hid (Owns wx w3.heap.size (.slice l S.length cp) (S.map tu)) ∧ Hid (Fut w3 wx))
    case first =>
          have FD : Fut w3 w3.drew := below_drewN Fut.rfl 1
          have HB0 : Hid (BoxP w3.drew w1.heap.size (r : Int) (c : Int) sa S.length sc ∧ BoxQ w3.drew (w1.heap.size + 1) ya Y.length yc ta T.length tc) := Lib.hid ⟨HBP.out.fut FD, HBQ.out.fut FD⟩
          have HTO1 : Hid (∀ W, Fut w3.drew W → Calls Try.prog 58 #[.slice sa S.length sc, .pointer (some ⟨w1.heap.size, 0, none⟩)] W fun e w' => ∃ v, e = .returned v ∧ Owns w' W.heap.size v (S.map tu) ∧ Fut W w') := Lib.hid (fun W F => by
            rw [HTU.out]
            exact to_any (r : Int) (c : Int) _ HGG.out.side w1.heap.size sa S.length sc sa sc S W (HB0.out.1.fut F) ((HIN.out.fut (FD.trans F)).s) (HIN.out.sl) HSIN.out)
          have HSD : Hid (w3.drew.heap.size = w3.heap.size) := Lib.hid rfl
          have HFD := Lib.hid FD
          clear FD p0 p1 p2 q0 q1
          refine wp_region_held_drew (S := (fun w' => BoxP w' w1.heap.size (r : Int) (c : Int) sa S.length sc ∧ BoxQ w' (w1.heap.size + 1) ya Y.length yc ta T.length tc)) (by kernel_rfl) ?_ (fun hHeld => ?_)
          · exact HB0.out
          generalize w3.drew = u0 at *
          refine wpAnyH_take (i := 0) (oi := { dst := some 32, op := Op.fieldAddr 24 (Operand.tmp 3) 1, type := 0, pos := "outright.go:341", after := #[], guard := none }) (v := ?_) rfl (by kernel_rfl) (by kernel_rfl) (by kernel_rfl) (fun _ _ _ h => h) (Or.inl ⟨by rfl, ?_⟩) (by assumption) ?_
          rotate_left
          · (intro w hSw; (obtain ⟨⟨_, s0, s1, s2⟩, ⟨_, s3, s4⟩⟩ := hSw); go_simp <;> with_reducible rfl)
          try simp only [Act.put, List.setIfInBounds_toArray, List.set_cons_zero, List.set_cons_succ]
          refine wpAnyH_take (i := 1) (oi := { dst := some 33, op := Op.load 3 (Operand.tmp 32), type := 3, pos := "outright.go:341", after := #[{ on := 0, ground := Ground.data }], guard := none }) (v := ?_) rfl (by kernel_rfl) (by kernel_rfl) (by kernel_rfl) (fun _ _ _ h => h) (Or.inl ⟨by rfl, ?_⟩) (by assumption) ?_
          rotate_left
          · (intro w hSw; (obtain ⟨⟨_, s0, s1, s2⟩, ⟨_, s3, s4⟩⟩ := hSw); go_simp <;> with_reducible rfl)
          try simp only [Act.put, List.setIfInBounds_toArray, List.set_cons_zero, List.set_cons_succ]
          refine wpAnyH_take (i := 2) (oi := { dst := some 34, op := Op.fieldAddr 24 (Operand.tmp 3) 0, type := 0, pos := "outright.go:341", after := #[], guard := none }) (v := ?_) rfl (by kernel_rfl) (by kernel_rfl) (by kernel_rfl) (fun _ _ _ h => h) (Or.inl ⟨by rfl, ?_⟩) (by assumption) ?_
          rotate_left
          · (intro w hSw; (obtain ⟨⟨_, s0, s1, s2⟩, ⟨_, s3, s4⟩⟩ := hSw); go_simp <;> with_reducible rfl)
          try simp only [Act.put, List.setIfInBounds_toArray, List.set_cons_zero, List.set_cons_succ]
          refine wpAnyH_take (i := 3) (oi := { dst := some 35, op := Op.load 3 (Operand.tmp 34), type := 3, pos := "outright.go:341", after := #[{ on := 2, ground := Ground.data }], guard := none }) (v := ?_) rfl (by kernel_rfl) (by kernel_rfl) (by kernel_rfl) (fun _ _ _ h => h) (Or.inl ⟨by rfl, ?_⟩) (by assumption) ?_
          rotate_left
          · (intro w hSw; (obtain ⟨⟨_, s0, s1, s2⟩, ⟨_, s3, s4⟩⟩ := hSw); go_simp <;> with_reducible rfl)
          try simp only [Act.put, List.setIfInBounds_toArray, List.set_cons_zero, List.set_cons_succ]
          refine wpAnyH_take (i := 4) (oi := { dst := some 36, op := Op.move (Operand.tmp 6), type := 87, pos := "outright.go:341", after := #[], guard := none }) (v := ?_) rfl (by kernel_rfl) (by kernel_rfl) (by kernel_rfl) (fun _ _ _ h => h) (Or.inl ⟨by rfl, ?_⟩) (by assumption) ?_
          rotate_left
          · (intro w hSw; (obtain ⟨⟨_, s0, s1, s2⟩, ⟨_, s3, s4⟩⟩ := hSw); go_simp <;> with_reducible rfl)
          try simp only [Act.put, List.setIfInBounds_toArray, List.set_cons_zero, List.set_cons_succ]
          refine wpAnyH_take (i := 5) (oi := { dst := some 37, op := Op.fieldAddr 24 (Operand.tmp 3) 2, type := 0, pos := "outright.go:341", after := #[], guard := none }) (v := ?_) rfl (by kernel_rfl) (by kernel_rfl) (by kernel_rfl) (fun _ _ _ h => h) (Or.inl ⟨by rfl, ?_⟩) (by assumption) ?_
          rotate_left
          · (intro w hSw; (obtain ⟨⟨_, s0, s1, s2⟩, ⟨_, s3, s4⟩⟩ := hSw); go_simp <;> with_reducible rfl)
          try simp only [Act.put, List.setIfInBounds_toArray, List.set_cons_zero, List.set_cons_succ]
          refine wpAnyH_take (i := 6) (oi := { dst := some 38, op := Op.load 22 (Operand.tmp 37), type := 22, pos := "outright.go:341", after := #[{ on := 5, ground := Ground.data }], guard := none }) (v := ?_) rfl (by kernel_rfl) (by kernel_rfl) (by kernel_rfl) (fun _ _ _ h => h) (Or.inl ⟨by rfl, ?_⟩) (by assumption) ?_
          rotate_left
          · (intro w hSw; (obtain ⟨⟨_, s0, s1, s2⟩, ⟨_, s3, s4⟩⟩ := hSw); go_simp <;> with_reducible rfl)
          try simp only [Act.put, List.setIfInBounds_toArray, List.set_cons_zero, List.set_cons_succ]
          refine wpAnyH_ready (rs := [7, 9]) (by kernel_rfl) (by simp) ?_
          refine AllReadyH.cons (o := { dst := some 39, op := Op.call { callee := Callee.value (Operand.tmp 36), args := #[Operand.tmp 38], argTypes := #[22] }, type := 22, pos := "outright.go:341", after := #[{ on := 4, ground := Ground.data }, { on := 6, ground := Ground.data }], guard := none }) rfl (fun K hK => ?_) (AllReadyH.cons (o := { dst := some 7, op := Op.alloc 24, type := 0, pos := "outright.go:341", after := #[], guard := none }) rfl (fun K hK => ?_) (AllReadyH.nil))
          · go_simp
            go_at_call 58
            refine (HTO1.out u0 Fut.rfl).mono ?_
            rintro _ v7 ⟨y7, rfl, hO7, F7⟩
            obtain ⟨l7, c7, e7, hc7, _, _⟩ := hO7.form
            subst e7
            have G7 : Hid (Fut u0 v7) := Lib.hid (F7)
            have HO7 := Lib.hid (Owns.base hO7 (Nat.le_refl _ : u0.heap.size ≤ _))
            have HC7 := Lib.hid hc7
            try simp only [List.length_map] at HO7 HC7 ⊢
            clear hO7 F7 hc7
            try go_wp2_with fail
            refine hK.out _ _ ?_ (fun hHeld => ?_)
            · exact ⟨HB0.out.1.fut (G7.out), HB0.out.2.fut (G7.out)⟩
            clear hK K
            try simp only [Act.put, List.setIfInBounds_toArray, List.set_cons_zero, List.set_cons_succ]
            refine wpAnyH_take (i := 8) (oi := { dst := some 40, op := Op.build 24 #[(0, Operand.tmp 33), (1, Operand.tmp 35), (2, Operand.tmp 39)], type := 24, pos := "outright.go:341", after := #[{ on := 1, ground := Ground.data }, { on := 3, ground := Ground.data }, { on := 7, ground := Ground.data }], guard := none }) (v := ?_) rfl (by kernel_rfl) (by kernel_rfl) (by kernel_rfl) (fun _ _ _ h => h) (Or.inl ⟨by rfl, ?_⟩) (by assumption) ?_
            rotate_left
            · (intro w hSw; (obtain ⟨⟨_, s0, s1, s2⟩, ⟨_, s3, s4⟩⟩ := hSw); go_simp <;> with_reducible rfl)
            try simp only [Act.put, List.setIfInBounds_toArray, List.set_cons_zero, List.set_cons_succ]
            refine wpAnyH_ready (rs := [9]) (by kernel_rfl) (by simp) ?_
            refine AllReadyH.cons (o := { dst := some 7, op := Op.alloc 24, type := 0, pos := "outright.go:341", after := #[], guard := none }) rfl (fun K hK => ?_) AllReadyH.nil
            go_simp
            refine hK.out _ _ ?_ (fun hHeld => ?_)
            · exact ⟨HB0.out.1.fut (G7.out.trans (Fut.alloc _ (.cells #[.int .i64 0, .int .i64 0, .slice none 0 0] 24))), HB0.out.2.fut (G7.out.trans (Fut.alloc _ (.cells #[.int .i64 0, .int .i64 0, .slice none 0 0] 24)))⟩
            clear hK K
            try simp only [Act.put, List.setIfInBounds_toArray, List.set_cons_zero, List.set_cons_succ]
            refine wpAnyH_ready (rs := [10]) (by kernel_rfl) (by simp) ?_
            refine AllReadyH.cons (o := { dst := none, op := Op.store 24 (Operand.tmp 7) (Operand.tmp 40), type := 0, pos := "outright.go:341", after := #[{ on := 9, ground := Ground.data }, { on := 8, ground := Ground.data }, { on := 7, ground := Ground.chain }, { on := 0, ground := Ground.phase }, { on := 1, ground := Ground.phase }, { on := 2, ground := Ground.phase }, { on := 3, ground := Ground.phase }, { on := 4, ground := Ground.phase }, { on := 5, ground := Ground.phase }, { on := 6, ground := Ground.phase }, { on := 7, ground := Ground.phase }, { on := 8, ground := Ground.phase }, { on := 9, ground := Ground.phase }], guard := none }) rfl (fun K hK => ?_) AllReadyH.nil
            obtain ⟨v9, hv9⟩ : ∃ v9, v9 = v7.alloc (.cells #[.int .i64 0, .int .i64 0, .slice none 0 0] 24) := ⟨_, rfl⟩
            have F9 : Fut v7 v9 := by rw [hv9]; exact Fut.alloc _ _
            have HZ : Hid (v9.heap[v7.heap.size]? = some (.cells #[.int .i64 0, .int .i64 0, .slice none 0 0] 24)) := Lib.hid (by rw [hv9]; exact World.alloc_heap_new _ _)
            have G9 : Hid (Fut u0 v9) := Lib.hid (G7.out.trans F9)
            have HO7 := Lib.hid (HO7.out.fut F9)
            rw [← hv9] at hHeld ⊢
            clear hv9 F9
            skip
            obtain ⟨⟨x1, x2⟩, ⟨x3, x4⟩, ⟨x5, x6⟩, x7⟩ := store3 (.int .i64 (c : Int)) (.int .i64 (r : Int)) (.slice l7 S.length c7) HZ.out
            have hA : u0.heap.size ≤ v7.heap.size := RowKit.Below.size G7.out
            have hb2 := (((But.refl (fun q => q = v7.heap.size) v9).setCell (p := ⟨v7.heap.size, 0, none⟩) (.inl rfl) (.int .i64 (c : Int))).setCell (p := ⟨v7.heap.size, 1, none⟩) (.inl rfl) (.int .i64 (r : Int))).setCell (p := ⟨v7.heap.size, 2, none⟩) (.inl rfl) (.slice l7 S.length c7)
            have hFE := RowKit.Below.trans G9.out (But.below hb2 u0.heap.size (RowKit.Below.size G9.out) (fun q hq => by subst hq; exact hA))
            have HFE := Lib.hid hFE
            have HOE := Lib.hid (own_but HO7.out hb2 (own_ty HO7.out HZ.out))
            have HXE := Lib.hid x7
            clear hb2 hFE x7
            go_simp
            refine hK.out _ _ ?_ (fun hHeld => ?_)
            · exact ⟨HB0.out.1.fut (HFE.out), HB0.out.2.fut (HFE.out)⟩
            clear hK K
            try simp only [Act.put, List.setIfInBounds_toArray, List.set_cons_zero, List.set_cons_succ]
            refine wpAnyH_done (by kernel_rfl) ?_ _
            clear x1 x2 x3 x4 x5 x6
            have HOE2 := Lib.hid (HOE.out.base (B' := w3.heap.size) (by rw [HSD.out]; exact Nat.le_refl _))
            have HFE2 := Lib.hid (HFD.out.trans HFE.out)
            go_wp2_with fail
            go_meet
            exact ⟨_, _, _, rfl, HXE, HOE2, HFE2⟩
          · go_simp
            refine hK.out _ _ ?_ (fun hHeld => ?_)
            · exact ⟨HB0.out.1.fut (Fut.alloc u0 (.cells #[.int .i64 0, .int .i64 0, .slice none 0 0] 24)), HB0.out.2.fut (Fut.alloc u0 (.cells #[.int .i64 0, .int .i64 0, .slice none 0 0] 24))⟩
            clear hK K
            try simp only [Act.put, List.setIfInBounds_toArray, List.set_cons_zero, List.set_cons_succ]
            refine wpAnyH_ready (rs := [7]) (by kernel_rfl) (by simp) ?_
            refine AllReadyH.cons (o := { dst := some 39, op := Op.call { callee := Callee.value (Operand.tmp 36), args := #[Operand.tmp 38], argTypes := #[22] }, type := 22, pos := "outright.go:341", after := #[{ on := 4, ground := Ground.data }, { on := 6, ground := Ground.data }], guard := none }) rfl (fun K hK => ?_) AllReadyH.nil
            obtain ⟨v9, hv9⟩ : ∃ v9, v9 = u0.alloc (.cells #[.int .i64 0, .int .i64 0, .slice none 0 0] 24) := ⟨_, rfl⟩
            have F9 : Fut u0 v9 := by rw [hv9]; exact Fut.alloc _ _
            have HZ : Hid (v9.heap[u0.heap.size]? = some (.cells #[.int .i64 0, .int .i64 0, .slice none 0 0] 24)) := Lib.hid (by rw [hv9]; exact World.alloc_heap_new _ _)
            have G9 : Hid (Fut u0 v9) := Lib.hid (F9)
            rw [← hv9] at hHeld ⊢
            clear hv9 F9
            go_simp
            go_at_call 58
            refine (HTO1.out v9 G9.out).mono ?_
            rintro _ v7 ⟨y7, rfl, hO7, F7⟩
            obtain ⟨l7, c7, e7, hc7, _, _⟩ := hO7.form
            subst e7
            have G7 : Hid (Fut u0 v7) := Lib.hid (G9.out.trans F7)
            have HO7 := Lib.hid (Owns.base hO7 (RowKit.Below.size G9.out : u0.heap.size ≤ _))
            have HZ := Lib.hid (heap_fut HZ.out F7)
            have HC7 := Lib.hid hc7
            try simp only [List.length_map] at HO7 HC7 ⊢
            clear hO7 F7 hc7
            try go_wp2_with fail
            refine hK.out _ _ ?_ (fun hHeld => ?_)
            · exact ⟨HB0.out.1.fut (G7.out), HB0.out.2.fut (G7.out)⟩
            clear hK K
            try simp only [Act.put, List.setIfInBounds_toArray, List.set_cons_zero, List.set_cons_succ]
            refine wpAnyH_take (i := 8) (oi := { dst := some 40, op := Op.build 24 #[(0, Operand.tmp 33), (1, Operand.tmp 35), (2, Operand.tmp 39)], type := 24, pos := "outright.go:341", after := #[{ on := 1, ground := Ground.data }, { on := 3, ground := Ground.data }, { on := 7, ground := Ground.data }], guard := none }) (v := ?_) rfl (by kernel_rfl) (by kernel_rfl) (by kernel_rfl) (fun _ _ _ h => h) (Or.inl ⟨by rfl, ?_⟩) (by assumption) ?_
            rotate_left
            · (intro w hSw; (obtain ⟨⟨_, s0, s1, s2⟩, ⟨_, s3, s4⟩⟩ := hSw); go_simp <;> with_reducible rfl)
            try simp only [Act.put, List.setIfInBounds_toArray, List.set_cons_zero, List.set_cons_succ]
            refine wpAnyH_ready (rs := [10]) (by kernel_rfl) (by simp) ?_
            refine AllReadyH.cons (o := { dst := none, op := Op.store 24 (Operand.tmp 7) (Operand.tmp 40), type := 0, pos := "outright.go:341", after := #[{ on := 9, ground := Ground.data }, { on := 8, ground := Ground.data }, { on := 7, ground := Ground.chain }, { on := 0, ground := Ground.phase }, { on := 1, ground := Ground.phase }, { on := 2, ground := Ground.phase }, { on := 3, ground := Ground.phase }, { on := 4, ground := Ground.phase }, { on := 5, ground := Ground.phase }, { on := 6, ground := Ground.phase }, { on := 7, ground := Ground.phase }, { on := 8, ground := Ground.phase }, { on := 9, ground := Ground.phase }], guard := none }) rfl (fun K hK => ?_) AllReadyH.nil
            skip
            obtain ⟨⟨x1, x2⟩, ⟨x3, x4⟩, ⟨x5, x6⟩, x7⟩ := store3 (.int .i64 (c : Int)) (.int .i64 (r : Int)) (.slice l7 S.length c7) HZ.out
            have hA : u0.heap.size ≤ u0.heap.size := Nat.le_refl _
            have hb2 := (((But.refl (fun q => q = u0.heap.size) v7).setCell (p := ⟨u0.heap.size, 0, none⟩) (.inl rfl) (.int .i64 (c : Int))).setCell (p := ⟨u0.heap.size, 1, none⟩) (.inl rfl) (.int .i64 (r : Int))).setCell (p := ⟨u0.heap.size, 2, none⟩) (.inl rfl) (.slice l7 S.length c7)
            have hFE := RowKit.Below.trans G7.out (But.below hb2 u0.heap.size (RowKit.Below.size G7.out) (fun q hq => by subst hq; exact hA))
            have HFE := Lib.hid hFE
            have HOE := Lib.hid (own_but HO7.out hb2 (own_ty HO7.out HZ.out))
            have HXE := Lib.hid x7
            clear hb2 hFE x7
            go_simp
            refine hK.out _ _ ?_ (fun hHeld => ?_)
            · exact ⟨HB0.out.1.fut (HFE.out), HB0.out.2.fut (HFE.out)⟩
            clear hK K
            try simp only [Act.put, List.setIfInBounds_toArray, List.set_cons_zero, List.set_cons_succ]
            refine wpAnyH_done (by kernel_rfl) ?_ _
            clear x1 x2 x3 x4 x5 x6
            have HOE2 := Lib.hid (HOE.out.base (B' := w3.heap.size) (by rw [HSD.out]; exact Nat.le_refl _))
            have HFE2 := Lib.hid (HFD.out.trans HFE.out)
            go_wp2_with fail
            go_meet
            exact ⟨_, _, _, rfl, HXE, HOE2, HFE2⟩
    case rest =>
      obtain ⟨B, l, cp, rfl, HXB, HOB, HFC⟩ := hcut
      obtain ⟨w4, hw4⟩ : ∃ w4, w4 = wc := ⟨_, rfl⟩
      subst hw4
      have HSO := Lib.hid (sort_own HOB.out (List.length_map _).symm (by rw [List.length_map]; omega))
      obtain ⟨_, b0, b1, b2⟩ := boxP_of HXB.out
      clear p0 p1 p2 q0 q1
      go_wp2_with fail
      refine HSO.out.mono ?_
      rintro _ w6 ⟨rfl, hI6, hB6, hk6⟩
      have hF6 : Fut w3 w6 := RowKit.Below.trans HFC.out hB6
      have HXB6 := Lib.hid (box_sorted HXB.out HOB.out (by decide) hk6)
      have HI6 : Hid (IntsAt w6 l S') := Lib.hid (by rw [HSP.out, ← HTU.out]; exact hI6)
      have HF6 := Lib.hid (HF2.out.trans hF6)
      have HB6 := Lib.hid (HBP.out.fut hF6)
      have HQ6 := Lib.hid (HBQ.out.fut hF6)
      have HIN6 := Lib.hid (HIN.out.fut hF6)
      clear hI6 hB6 hk6 hF6 HSO HXB HOB HFC b0 b1 b2 HF2 HBP HBQ HIN HIN0
      go_upto_region 7 with fail
      go_cut [8] from 44 to 53 (fun s8 wx => ∃ (B2 : Nat) (l3 : Option Addr) (c3 : Nat) (l7 : Option Addr) (c7 : Nat), s8 = .pointer (some ⟨B2, 0, none⟩) ∧ Hid (wx.heap[B2]? = some (.cells #[.slice l3 Y.length c3, .slice l7 T.length c7] 26)) ∧ Hid (Y.length ≤ c3) ∧ Hid (T.length ≤ c7) ∧ Hid (Owns wx 0 (.slice l3 Y.length c3) (Y.map tu)) ∧ Hid (Owns wx 0 (.slice l7 T.length c7) (T.map tu)) ∧ Hid (Fut w6 wx))
      case first =>
              have FD : Fut w6 w6.drew := below_drewN Fut.rfl 1
              have HB0 : Hid (BoxP w6.drew w1.heap.size (r : Int) (c : Int) sa S.length sc ∧ BoxQ w6.drew (w1.heap.size + 1) ya Y.length yc ta T.length tc) := Lib.hid ⟨HB6.out.fut FD, HQ6.out.fut FD⟩
              have HTO2 : Hid (∀ W, Fut w6.drew W → Calls Try.prog 58 #[.slice ya Y.length yc, .pointer (some ⟨w1.heap.size, 0, none⟩)] W fun e w' => ∃ v, e = .returned v ∧ Owns w' W.heap.size v (Y.map tu) ∧ Fut W w') := Lib.hid (fun W F => by
                rw [HTU.out]
                exact to_any (r : Int) (c : Int) _ HGG.out.side w1.heap.size sa S.length sc ya yc Y W (HB0.out.1.fut F) ((HIN6.out.fut (FD.trans F)).y) (HIN6.out.yl) (fun x hx => ⟨(HGG.out.y x hx).1, (HGG.out.y x hx).2.1⟩))
              have HTO3 : Hid (∀ W, Fut w6.drew W → Calls Try.prog 58 #[.slice ta T.length tc, .pointer (some ⟨w1.heap.size, 0, none⟩)] W fun e w' => ∃ v, e = .returned v ∧ Owns w' W.heap.size v (T.map tu) ∧ Fut W w') := Lib.hid (fun W F => by
                rw [HTU.out]
                exact to_any (r : Int) (c : Int) _ HGG.out.side w1.heap.size sa S.length sc ta tc T W (HB0.out.1.fut F) ((HIN6.out.fut (FD.trans F)).t) (HIN6.out.tl) (fun x hx => ⟨(HGG.out.t x hx).1, (HGG.out.t x hx).2.1⟩))
              have HFD := Lib.hid FD
              clear FD
              refine wp_region_held_drew (S := (fun w' => BoxP w' w1.heap.size (r : Int) (c : Int) sa S.length sc ∧ BoxQ w' (w1.heap.size + 1) ya Y.length yc ta T.length tc)) (by kernel_rfl) ?_ (fun hHeld => ?_)
              · exact HB0.out
              generalize w6.drew = u0 at *
              refine wpAnyH_take (i := 0) (oi := { dst := some 44, op := Op.move (Operand.tmp 6), type := 87, pos := "outright.go:343", after := #[], guard := none }) (v := ?_) rfl (by kernel_rfl) (by kernel_rfl) (by kernel_rfl) (fun _ _ _ h => h) (Or.inl ⟨by rfl, ?_⟩) (by assumption) ?_
              rotate_left
              · (intro w hSw; (obtain ⟨⟨_, s0, s1, s2⟩, ⟨_, s3, s4⟩⟩ := hSw); go_simp <;> with_reducible rfl)
              try simp only [Act.put, List.setIfInBounds_toArray, List.set_cons_zero, List.set_cons_succ]
              refine wpAnyH_take (i := 1) (oi := { dst := some 45, op := Op.fieldAddr 26 (Operand.tmp 4) 0, type := 0, pos := "outright.go:343", after := #[], guard := none }) (v := ?_) rfl (by kernel_rfl) (by kernel_rfl) (by kernel_rfl) (fun _ _ _ h => h) (Or.inl ⟨by rfl, ?_⟩) (by assumption) ?_
              rotate_left
              · (intro w hSw; (obtain ⟨⟨_, s0, s1, s2⟩, ⟨_, s3, s4⟩⟩ := hSw); go_simp <;> with_reducible rfl)
              try simp only [Act.put, List.setIfInBounds_toArray, List.set_cons_zero, List.set_cons_succ]
              refine wpAnyH_take (i := 2) (oi := { dst := some 46, op := Op.load 22 (Operand.tmp 45), type := 22, pos := "outright.go:343", after := #[{ on := 1, ground := Ground.data }], guard := none }) (v := ?_) rfl (by kernel_rfl) (by kernel_rfl) (by kernel_rfl) (fun _ _ _ h => h) (Or.inl ⟨by rfl, ?_⟩) (by assumption) ?_
              rotate_left
              · (intro w hSw; (obtain ⟨⟨_, s0, s1, s2⟩, ⟨_, s3, s4⟩⟩ := hSw); go_simp <;> with_reducible rfl)
              try simp only [Act.put, List.setIfInBounds_toArray, List.set_cons_zero, List.set_cons_succ]
              refine wpAnyH_take (i := 4) (oi := { dst := some 48, op := Op.move (Operand.tmp 6), type := 87, pos := "outright.go:343", after := #[], guard := none }) (v := ?_) rfl (by kernel_rfl) (by kernel_rfl) (by kernel_rfl) (fun _ _ _ h => h) (Or.inl ⟨by rfl, ?_⟩) (by assumption) ?_
              rotate_left
              · (intro w hSw; (obtain ⟨⟨_, s0, s1, s2⟩, ⟨_, s3, s4⟩⟩ := hSw); go_simp <;> with_reducible rfl)
              try simp only [Act.put, List.setIfInBounds_toArray, List.set_cons_zero, List.set_cons_succ]
              refine wpAnyH_take (i := 5) (oi := { dst := some 49, op := Op.fieldAddr 26 (Operand.tmp 4) 1, type := 0, pos := "outright.go:343", after := #[], guard := none }) (v := ?_) rfl (by kernel_rfl) (by kernel_rfl) (by kernel_rfl) (fun _ _ _ h => h) (Or.inl ⟨by rfl, ?_⟩) (by assumption) ?_
              rotate_left
              · (intro w hSw; (obtain ⟨⟨_, s0, s1, s2⟩, ⟨_, s3, s4⟩⟩ := hSw); go_simp <;> with_reducible rfl)
              try simp only [Act.put, List.setIfInBounds_toArray, List.set_cons_zero, List.set_cons_succ]
              refine wpAnyH_take (i := 6) (oi := { dst := some 50, op := Op.load 22 (Operand.tmp 49), type := 22, pos := "outright.go:343", after := #[{ on := 5, ground := Ground.data }], guard := none }) (v := ?_) rfl (by kernel_rfl) (by kernel_rfl) (by kernel_rfl) (fun _ _ _ h => h) (Or.inl ⟨by rfl, ?_⟩) (by assumption) ?_
              rotate_left
              · (intro w hSw; (obtain ⟨⟨_, s0, s1, s2⟩, ⟨_, s3, s4⟩⟩ := hSw); go_simp <;> with_reducible rfl)
              try simp only [Act.put, List.setIfInBounds_toArray, List.set_cons_zero, List.set_cons_succ]
              refine wpAnyH_ready (rs := [3, 9]) (by kernel_rfl) (by simp) ?_
              refine AllReadyH.cons (o := { dst := some 47, op := Op.call { callee := Callee.value (Operand.tmp 44), args := #[Operand.tmp 46], argTypes := #[22] }, type := 22, pos := "outright.go:343", after := #[{ on := 0, ground := Ground.data }, { on := 2, ground := Ground.data }], guard := none }) rfl (fun K hK => ?_) (AllReadyH.cons (o := { dst := some 8, op := Op.alloc 26, type := 0, pos := "outright.go:343", after := #[], guard := none }) rfl (fun K hK => ?_) (AllReadyH.nil))
              · go_simp
                go_at_call 58
                refine (HTO2.out u0 Fut.rfl).mono ?_
                rintro _ v3 ⟨y3, rfl, hO3, F3⟩
                obtain ⟨l3, c3, e3, hc3, _, _⟩ := hO3.form
                subst e3
                have G3 : Hid (Fut u0 v3) := Lib.hid (F3)
                have HO3 := Lib.hid (Owns.base hO3 (Nat.le_refl _ : u0.heap.size ≤ _))
                have HC3 := Lib.hid hc3
                try simp only [List.length_map] at HO3 HC3 ⊢
                clear hO3 F3 hc3
                try go_wp2_with fail
                refine hK.out _ _ ?_ (fun hHeld => ?_)
                · exact ⟨HB0.out.1.fut (G3.out), HB0.out.2.fut (G3.out)⟩
                clear hK K
                try simp only [Act.put, List.setIfInBounds_toArray, List.set_cons_zero, List.set_cons_succ]
                refine wpAnyH_ready (rs := [7, 9]) (by kernel_rfl) (by simp) ?_
                refine AllReadyH.cons (o := { dst := some 51, op := Op.call { callee := Callee.value (Operand.tmp 48), args := #[Operand.tmp 50], argTypes := #[22] }, type := 22, pos := "outright.go:343", after := #[{ on := 4, ground := Ground.data }, { on := 6, ground := Ground.data }, { on := 3, ground := Ground.chain }], guard := none }) rfl (fun K hK => ?_) (AllReadyH.cons (o := { dst := some 8, op := Op.alloc 26, type := 0, pos := "outright.go:343", after := #[], guard := none }) rfl (fun K hK => ?_) (AllReadyH.nil))
                · go_simp
                  go_at_call 58
                  refine (HTO3.out v3 G3.out).mono ?_
                  rintro _ v7 ⟨y7, rfl, hO7, F7⟩
                  obtain ⟨l7, c7, e7, hc7, _, _⟩ := hO7.form
                  subst e7
                  have G7 : Hid (Fut u0 v7) := Lib.hid (G3.out.trans F7)
                  have HO7 := Lib.hid (Owns.base hO7 (RowKit.Below.size G3.out : u0.heap.size ≤ _))
                  have HO3 := Lib.hid (HO3.out.fut F7)
                  have HC7 := Lib.hid hc7
                  try simp only [List.length_map] at HO7 HC7 ⊢
                  clear hO7 F7 hc7
                  try go_wp2_with fail
                  refine hK.out _ _ ?_ (fun hHeld => ?_)
                  · exact ⟨HB0.out.1.fut (G7.out), HB0.out.2.fut (G7.out)⟩
                  clear hK K
                  try simp only [Act.put, List.setIfInBounds_toArray, List.set_cons_zero, List.set_cons_succ]
                  refine wpAnyH_take (i := 8) (oi := { dst := some 52, op := Op.build 26 #[(0, Operand.tmp 47), (1, Operand.tmp 51)], type := 26, pos := "outright.go:343", after := #[{ on := 3, ground := Ground.data }, { on := 7, ground := Ground.data }], guard := none }) (v := ?_) rfl (by kernel_rfl) (by kernel_rfl) (by kernel_rfl) (fun _ _ _ h => h) (Or.inl ⟨by rfl, ?_⟩) (by assumption) ?_
                  rotate_left
                  · (intro w hSw; (obtain ⟨⟨_, s0, s1, s2⟩, ⟨_, s3, s4⟩⟩ := hSw); go_simp <;> with_reducible rfl)
                  try simp only [Act.put, List.setIfInBounds_toArray, List.set_cons_zero, List.set_cons_succ]
                  refine wpAnyH_ready (rs := [9]) (by kernel_rfl) (by simp) ?_
                  refine AllReadyH.cons (o := { dst := some 8, op := Op.alloc 26, type := 0, pos := "outright.go:343", after := #[], guard := none }) rfl (fun K hK => ?_) AllReadyH.nil
                  go_simp
                  refine hK.out _ _ ?_ (fun hHeld => ?_)
                  · exact ⟨HB0.out.1.fut (G7.out.trans (Fut.alloc _ (.cells #[.slice none 0 0, .slice none 0 0] 26))), HB0.out.2.fut (G7.out.trans (Fut.alloc _ (.cells #[.slice none 0 0, .slice none 0 0] 26)))⟩
                  clear hK K
                  try simp only [Act.put, List.setIfInBounds_toArray, List.set_cons_zero, List.set_cons_succ]
                  refine wpAnyH_ready (rs := [10]) (by kernel_rfl) (by simp) ?_
                  refine AllReadyH.cons (o := { dst := none, op := Op.store 26 (Operand.tmp 8) (Operand.tmp 52), type := 0, pos := "outright.go:343", after := #[{ on := 9, ground := Ground.data }, { on := 8, ground := Ground.data }, { on := 7, ground := Ground.chain }, { on := 0, ground := Ground.phase }, { on := 1, ground := Ground.phase }, { on := 2, ground := Ground.phase }, { on := 3, ground := Ground.phase }, { on := 4, ground := Ground.phase }, { on := 5, ground := Ground.phase }, { on := 6, ground := Ground.phase }, { on := 7, ground := Ground.phase }, { on := 8, ground := Ground.phase }, { on := 9, ground := Ground.phase }], guard := none }) rfl (fun K hK => ?_) AllReadyH.nil
                  obtain ⟨v9, hv9⟩ : ∃ v9, v9 = v7.alloc (.cells #[.slice none 0 0, .slice none 0 0] 26) := ⟨_, rfl⟩
                  have F9 : Fut v7 v9 := by rw [hv9]; exact Fut.alloc _ _
                  have HZ : Hid (v9.heap[v7.heap.size]? = some (.cells #[.slice none 0 0, .slice none 0 0] 26)) := Lib.hid (by rw [hv9]; exact World.alloc_heap_new _ _)
                  have G9 : Hid (Fut u0 v9) := Lib.hid (G7.out.trans F9)
                  have HO3 := Lib.hid (HO3.out.fut F9)
                  have HO7 := Lib.hid (HO7.out.fut F9)
                  rw [← hv9] at hHeld ⊢
                  clear hv9 F9
                  obtain ⟨⟨x1, x2⟩, ⟨x3, x4⟩, x7⟩ := store2 (.slice l3 Y.length c3) (.slice l7 T.length c7) HZ.out
                  have hA : u0.heap.size ≤ v7.heap.size := RowKit.Below.size G7.out
                  have hb2 := ((But.refl (fun q => q = v7.heap.size) v9).setCell (p := ⟨v7.heap.size, 0, none⟩) (.inl rfl) (.slice l3 Y.length c3)).setCell (p := ⟨v7.heap.size, 1, none⟩) (.inl rfl) (.slice l7 T.length c7)
                  have hFE := RowKit.Below.trans G9.out (But.below hb2 u0.heap.size (RowKit.Below.size G9.out) (fun q hq => by subst hq; exact hA))
                  have HFE := Lib.hid hFE
                  have HOE3 := Lib.hid (own_but HO3.out hb2 (own_ty HO3.out HZ.out))
                  have HOE7 := Lib.hid (own_but HO7.out hb2 (own_ty HO7.out HZ.out))
                  have HXE := Lib.hid x7
                  clear hb2 hFE x7
                  go_simp
                  refine hK.out _ _ ?_ (fun hHeld => ?_)
                  · exact ⟨HB0.out.1.fut (HFE.out), HB0.out.2.fut (HFE.out)⟩
                  clear hK K
                  try simp only [Act.put, List.setIfInBounds_toArray, List.set_cons_zero, List.set_cons_succ]
                  refine wpAnyH_done (by kernel_rfl) ?_ _
                  clear x1 x2 x3 x4
                  have HFE2 := Lib.hid (HFD.out.trans HFE.out)
                  have HOY := Lib.hid (HOE3.out.base (Nat.zero_le _))
                  have HOT := Lib.hid (HOE7.out.base (Nat.zero_le _))
                  go_wp2_with fail
                  go_meet
                  exact ⟨_, _, _, _, _, rfl, HXE, HC3, HC7, HOY, HOT, HFE2⟩
                · go_simp
                  refine hK.out _ _ ?_ (fun hHeld => ?_)
                  · exact ⟨HB0.out.1.fut (G3.out.trans (Fut.alloc _ (.cells #[.slice none 0 0, .slice none 0 0] 26))), HB0.out.2.fut (G3.out.trans (Fut.alloc _ (.cells #[.slice none 0 0, .slice none 0 0] 26)))⟩
                  clear hK K
                  try simp only [Act.put, List.setIfInBounds_toArray, List.set_cons_zero, List.set_cons_succ]
                  refine wpAnyH_ready (rs := [7]) (by kernel_rfl) (by simp) ?_
                  refine AllReadyH.cons (o := { dst := some 51, op := Op.call { callee := Callee.value (Operand.tmp 48), args := #[Operand.tmp 50], argTypes := #[22] }, type := 22, pos := "outright.go:343", after := #[{ on := 4, ground := Ground.data }, { on := 6, ground := Ground.data }, { on := 3, ground := Ground.chain }], guard := none }) rfl (fun K hK => ?_) AllReadyH.nil
                  obtain ⟨v9, hv9⟩ : ∃ v9, v9 = v3.alloc (.cells #[.slice none 0 0, .slice none 0 0] 26) := ⟨_, rfl⟩
                  have F9 : Fut v3 v9 := by rw [hv9]; exact Fut.alloc _ _
                  have HZ : Hid (v9.heap[v3.heap.size]? = some (.cells #[.slice none 0 0, .slice none 0 0] 26)) := Lib.hid (by rw [hv9]; exact World.alloc_heap_new _ _)
                  have G9 : Hid (Fut u0 v9) := Lib.hid (G3.out.trans F9)
                  have HO3 := Lib.hid (HO3.out.fut F9)
                  rw [← hv9] at hHeld ⊢
                  clear hv9 F9
                  go_simp
                  go_at_call 58
                  refine (HTO3.out v9 G9.out).mono ?_
                  rintro _ v7 ⟨y7, rfl, hO7, F7⟩
                  obtain ⟨l7, c7, e7, hc7, _, _⟩ := hO7.form
                  subst e7
                  have G7 : Hid (Fut u0 v7) := Lib.hid (G9.out.trans F7)
                  have HO7 := Lib.hid (Owns.base hO7 (RowKit.Below.size G9.out : u0.heap.size ≤ _))
                  have HO3 := Lib.hid (HO3.out.fut F7)
                  have HZ := Lib.hid (heap_fut HZ.out F7)
                  have HC7 := Lib.hid hc7
                  try simp only [List.length_map] at HO7 HC7 ⊢
                  clear hO7 F7 hc7
                  try go_wp2_with fail
                  refine hK.out _ _ ?_ (fun hHeld => ?_)
                  · exact ⟨HB0.out.1.fut (G7.out), HB0.out.2.fut (G7.out)⟩
                  clear hK K
                  try simp only [Act.put, List.setIfInBounds_toArray, List.set_cons_zero, List.set_cons_succ]
                  refine wpAnyH_take (i := 8) (oi := { dst := some 52, op := Op.build 26 #[(0, Operand.tmp 47), (1, Operand.tmp 51)], type := 26, pos := "outright.go:343", after := #[{ on := 3, ground := Ground.data }, { on := 7, ground := Ground.data }], guard := none }) (v := ?_) rfl (by kernel_rfl) (by kernel_rfl) (by kernel_rfl) (fun _ _ _ h => h) (Or.inl ⟨by rfl, ?_⟩) (by assumption) ?_
                  rotate_left
                  · (intro w hSw; (obtain ⟨⟨_, s0, s1, s2⟩, ⟨_, s3, s4⟩⟩ := hSw); go_simp <;> with_reducible rfl)
                  try simp only [Act.put, List.setIfInBounds_toArray, List.set_cons_zero, List.set_cons_succ]
                  refine wpAnyH_ready (rs := [10]) (by kernel_rfl) (by simp) ?_
                  refine AllReadyH.cons (o := { dst := none, op := Op.store 26 (Operand.tmp 8) (Operand.tmp 52), type := 0, pos := "outright.go:343", after := #[{ on := 9, ground := Ground.data }, { on := 8, ground := Ground.data }, { on := 7, ground := Ground.chain }, { on := 0, ground := Ground.phase }, { on := 1, ground := Ground.phase }, { on := 2, ground := Ground.phase }, { on := 3, ground := Ground.phase }, { on := 4, ground := Ground.phase }, { on := 5, ground := Ground.phase }, { on := 6, ground := Ground.phase }, { on := 7, ground := Ground.phase }, { on := 8, ground := Ground.phase }, { on := 9, ground := Ground.phase }], guard := none }) rfl (fun K hK => ?_) AllReadyH.nil
                  obtain ⟨⟨x1, x2⟩, ⟨x3, x4⟩, x7⟩ := store2 (.slice l3 Y.length c3) (.slice l7 T.length c7) HZ.out
                  have hA : u0.heap.size ≤ v3.heap.size := RowKit.Below.size G3.out
                  have hb2 := ((But.refl (fun q => q = v3.heap.size) v7).setCell (p := ⟨v3.heap.size, 0, none⟩) (.inl rfl) (.slice l3 Y.length c3)).setCell (p := ⟨v3.heap.size, 1, none⟩) (.inl rfl) (.slice l7 T.length c7)
                  have hFE := RowKit.Below.trans G7.out (But.below hb2 u0.heap.size (RowKit.Below.size G7.out) (fun q hq => by subst hq; exact hA))
                  have HFE := Lib.hid hFE
                  have HOE3 := Lib.hid (own_but HO3.out hb2 (own_ty HO3.out HZ.out))
                  have HOE7 := Lib.hid (own_but HO7.out hb2 (own_ty HO7.out HZ.out))
                  have HXE := Lib.hid x7
                  clear hb2 hFE x7
                  go_simp
                  refine hK.out _ _ ?_ (fun hHeld => ?_)
                  · exact ⟨HB0.out.1.fut (HFE.out), HB0.out.2.fut (HFE.out)⟩
                  clear hK K
                  try simp only [Act.put, List.setIfInBounds_toArray, List.set_cons_zero, List.set_cons_succ]
                  refine wpAnyH_done (by kernel_rfl) ?_ _
                  clear x1 x2 x3 x4
                  have HFE2 := Lib.hid (HFD.out.trans HFE.out)
                  have HOY := Lib.hid (HOE3.out.base (Nat.zero_le _))
                  have HOT := Lib.hid (HOE7.out.base (Nat.zero_le _))
                  go_wp2_with fail
                  go_meet
                  exact ⟨_, _, _, _, _, rfl, HXE, HC3, HC7, HOY, HOT, HFE2⟩
              · go_simp
                refine hK.out _ _ ?_ (fun hHeld => ?_)
                · exact ⟨HB0.out.1.fut (Fut.alloc u0 (.cells #[.slice none 0 0, .slice none 0 0] 26)), HB0.out.2.fut (Fut.alloc u0 (.cells #[.slice none 0 0, .slice none 0 0] 26))⟩
                clear hK K
                try simp only [Act.put, List.setIfInBounds_toArray, List.set_cons_zero, List.set_cons_succ]
                refine wpAnyH_ready (rs := [3]) (by kernel_rfl) (by simp) ?_
                refine AllReadyH.cons (o := { dst := some 47, op := Op.call { callee := Callee.value (Operand.tmp 44), args := #[Operand.tmp 46], argTypes := #[22] }, type := 22, pos := "outright.go:343", after := #[{ on := 0, ground := Ground.data }, { on := 2, ground := Ground.data }], guard := none }) rfl (fun K hK => ?_) AllReadyH.nil
                obtain ⟨v9, hv9⟩ : ∃ v9, v9 = u0.alloc (.cells #[.slice none 0 0, .slice none 0 0] 26) := ⟨_, rfl⟩
                have F9 : Fut u0 v9 := by rw [hv9]; exact Fut.alloc _ _
                have HZ : Hid (v9.heap[u0.heap.size]? = some (.cells #[.slice none 0 0, .slice none 0 0] 26)) := Lib.hid (by rw [hv9]; exact World.alloc_heap_new _ _)
                have G9 : Hid (Fut u0 v9) := Lib.hid (F9)
                rw [← hv9] at hHeld ⊢
                clear hv9 F9
                go_simp
                go_at_call 58
                refine (HTO2.out v9 G9.out).mono ?_
                rintro _ v3 ⟨y3, rfl, hO3, F3⟩
                obtain ⟨l3, c3, e3, hc3, _, _⟩ := hO3.form
                subst e3
                have G3 : Hid (Fut u0 v3) := Lib.hid (G9.out.trans F3)
                have HO3 := Lib.hid (Owns.base hO3 (RowKit.Below.size G9.out : u0.heap.size ≤ _))
                have HZ := Lib.hid (heap_fut HZ.out F3)
                have HC3 := Lib.hid hc3
                try simp only [List.length_map] at HO3 HC3 ⊢
                clear hO3 F3 hc3
                try go_wp2_with fail
                refine hK.out _ _ ?_ (fun hHeld => ?_)
                · exact ⟨HB0.out.1.fut (G3.out), HB0.out.2.fut (G3.out)⟩
                clear hK K
                try simp only [Act.put, List.setIfInBounds_toArray, List.set_cons_zero, List.set_cons_succ]
                refine wpAnyH_ready (rs := [7]) (by kernel_rfl) (by simp) ?_
                refine AllReadyH.cons (o := { dst := some 51, op := Op.call { callee := Callee.value (Operand.tmp 48), args := #[Operand.tmp 50], argTypes := #[22] }, type := 22, pos := "outright.go:343", after := #[{ on := 4, ground := Ground.data }, { on := 6, ground := Ground.data }, { on := 3, ground := Ground.chain }], guard := none }) rfl (fun K hK => ?_) AllReadyH.nil
                go_simp
                go_at_call 58
                refine (HTO3.out v3 G3.out).mono ?_
                rintro _ v7 ⟨y7, rfl, hO7, F7⟩
                obtain ⟨l7, c7, e7, hc7, _, _⟩ := hO7.form
                subst e7
                have G7 : Hid (Fut u0 v7) := Lib.hid (G3.out.trans F7)
                have HO7 := Lib.hid (Owns.base hO7 (RowKit.Below.size G3.out : u0.heap.size ≤ _))
                have HO3 := Lib.hid (HO3.out.fut F7)
                have HZ := Lib.hid (heap_fut HZ.out F7)
                have HC7 := Lib.hid hc7
                try simp only [List.length_map] at HO7 HC7 ⊢
                clear hO7 F7 hc7
                try go_wp2_with fail
                refine hK.out _ _ ?_ (fun hHeld => ?_)
                · exact ⟨HB0.out.1.fut (G7.out), HB0.out.2.fut (G7.out)⟩
                clear hK K
                try simp only [Act.put, List.setIfInBounds_toArray, List.set_cons_zero, List.set_cons_succ]
                refine wpAnyH_take (i := 8) (oi := { dst := some 52, op := Op.build 26 #[(0, Operand.tmp 47), (1, Operand.tmp 51)], type := 26, pos := "outright.go:343", after := #[{ on := 3, ground := Ground.data }, { on := 7, ground := Ground.data }], guard := none }) (v := ?_) rfl (by kernel_rfl) (by kernel_rfl) (by kernel_rfl) (fun _ _ _ h => h) (Or.inl ⟨by rfl, ?_⟩) (by assumption) ?_
                rotate_left
                · (intro w hSw; (obtain ⟨⟨_, s0, s1, s2⟩, ⟨_, s3, s4⟩⟩ := hSw); go_simp <;> with_reducible rfl)
                try simp only [Act.put, List.setIfInBounds_toArray, List.set_cons_zero, List.set_cons_succ]
                refine wpAnyH_ready (rs := [10]) (by kernel_rfl) (by simp) ?_
                refine AllReadyH.cons (o := { dst := none, op := Op.store 26 (Operand.tmp 8) (Operand.tmp 52), type := 0, pos := "outright.go:343", after := #[{ on := 9, ground := Ground.data }, { on := 8, ground := Ground.data }, { on := 7, ground := Ground.chain }, { on := 0, ground := Ground.phase }, { on := 1, ground := Ground.phase }, { on := 2, ground := Ground.phase }, { on := 3, ground := Ground.phase }, { on := 4, ground := Ground.phase }, { on := 5, ground := Ground.phase }, { on := 6, ground := Ground.phase }, { on := 7, ground := Ground.phase }, { on := 8, ground := Ground.phase }, { on := 9, ground := Ground.phase }], guard := none }) rfl (fun K hK => ?_) AllReadyH.nil
                obtain ⟨⟨x1, x2⟩, ⟨x3, x4⟩, x7⟩ := store2 (.slice l3 Y.length c3) (.slice l7 T.length c7) HZ.out
                have hA : u0.heap.size ≤ u0.heap.size := Nat.le_refl _
                have hb2 := ((But.refl (fun q => q = u0.heap.size) v7).setCell (p := ⟨u0.heap.size, 0, none⟩) (.inl rfl) (.slice l3 Y.length c3)).setCell (p := ⟨u0.heap.size, 1, none⟩) (.inl rfl) (.slice l7 T.length c7)
                have hFE := RowKit.Below.trans G7.out (But.below hb2 u0.heap.size (RowKit.Below.size G7.out) (fun q hq => by subst hq; exact hA))
                have HFE := Lib.hid hFE
                have HOE3 := Lib.hid (own_but HO3.out hb2 (own_ty HO3.out HZ.out))
                have HOE7 := Lib.hid (own_but HO7.out hb2 (own_ty HO7.out HZ.out))
                have HXE := Lib.hid x7
                clear hb2 hFE x7
                go_simp
                refine hK.out _ _ ?_ (fun hHeld => ?_)
                · exact ⟨HB0.out.1.fut (HFE.out), HB0.out.2.fut (HFE.out)⟩
                clear hK K
                try simp only [Act.put, List.setIfInBounds_toArray, List.set_cons_zero, List.set_cons_succ]
                refine wpAnyH_done (by kernel_rfl) ?_ _
                clear x1 x2 x3 x4
                have HFE2 := Lib.hid (HFD.out.trans HFE.out)
                have HOY := Lib.hid (HOE3.out.base (Nat.zero_le _))
                have HOT := Lib.hid (HOE7.out.base (Nat.zero_le _))
                go_wp2_with fail
                go_meet
                exact ⟨_, _, _, _, _, rfl, HXE, HC3, HC7, HOY, HOT, HFE2⟩
      case rest =>
        obtain ⟨B2, l3, c3, l7, c7, rfl, HXB2, HC3, HC7, HOY, HOT, HFC⟩ := hcut
        obtain ⟨w8, hw8⟩ : ∃ w8, w8 = wc := ⟨_, rfl⟩
        subst hw8
        have HINo : Hid (InPQ w8 l S' l3 c3 (Y.map tu) l7 c7 (T.map tu)) := Lib.hid ⟨HI6.out.fut HFC.out, by have := HSL'.out; omega, HOY.out.at (List.length_map _).symm, by rw [List.length_map]; omega, by rw [List.length_map]; exact HC3.out, HOT.out.at (List.length_map _).symm, by rw [List.length_map]; omega, by rw [List.length_map]; exact HC7.out⟩
        have HF8 := Lib.hid (HF6.out.trans HFC.out)
        have HB8 := Lib.hid (HB6.out.fut HFC.out)
        have HQ8 := Lib.hid (HQ6.out.fut HFC.out)
        have HIN8 := Lib.hid (HIN6.out.fut HFC.out)
        have HXB8 := Lib.hid (heap_fut HXB6.out HFC.out)
        clear HF6 HB6 HQ6 HIN6 HXB6 HI6 HOY HOT HFC HC3 HC7
        obtain ⟨_, p0, p1, p2⟩ := HB8.out
        obtain ⟨_, q0, q1⟩ := HQ8.out
        obtain ⟨_, b0, b1, b2⟩ := boxP_of HXB8.out
        obtain ⟨d0, d1, _, _⟩ := two_cell HXB2.out
        go_wp2_with fail
        refine (HTA0.out _ HIN8.out).mono ?_
        rintro _ wa ⟨la, lca, rfl, hca1, hca2, hLa, Fa⟩
        have HFa := Lib.hid Fa
        have HLa := Lib.hid hLa
        clear Fa hLa p0 p1 p2 q0 q1 b0 b1 b2 d0 d1
        obtain ⟨_, b0, b1, b2⟩ := boxP_of (heap_fut HXB8.out HFa.out)
        obtain ⟨d0, d1, _, _⟩ := two_cell (heap_fut HXB2.out HFa.out)
        go_wp2_with fail
        refine (HTA1.out _ _ _ _ _ _ _ (HINo.out.fut HFa.out)).mono ?_
        rintro _ wb ⟨lb, lcb, rfl, hcb1, hcb2, hLb, Fb⟩
        have HFb := Lib.hid (HFa.out.trans Fb)
        have HLb := Lib.hid hLb
        have HLa2 := Lib.hid (HLa.out.fut Fb)
        clear Fb hLb HLa b0 b1 b2 d0 d1
        obtain ⟨_, p0, p1, p2⟩ := HB8.out.fut HFb.out
        obtain ⟨_, q0, q1⟩ := HQ8.out.fut HFb.out
        go_wp2_with fail
        refine (HSG0.out _ (HIN8.out.fut HFb.out)).mono ?_
        rintro _ wd ⟨rfl, Fd⟩
        have HFd := Lib.hid (HFb.out.trans Fd)
        have HLa3 := Lib.hid (HLa2.out.fut Fd)
        have HLb3 := Lib.hid (HLb.out.fut Fd)
        clear Fd HLa2 HLb p0 p1 p2 q0 q1
        obtain ⟨_, b0, b1, b2⟩ := boxP_of (heap_fut HXB8.out HFd.out)
        obtain ⟨d0, d1, _, _⟩ := two_cell (heap_fut HXB2.out HFd.out)
        go_wp2_with fail
        refine (HSG1.out _ _ _ _ _ _ _ (HINo.out.fut HFd.out)).mono ?_
        rintro _ wg ⟨rfl, Fg⟩
        have HFg := Lib.hid (HFd.out.trans Fg)
        have HAL := Lib.hid (lists_self (cap := lca) (dap := lcb) tb wg (HLa3.out.fut Fg) (HLb3.out.fut Fg) (by omega))
        clear Fg HLa3 HLb3 b0 b1 b2 d0 d1
        go_wp2_with fail
        refine HAL.out.mono ?_
        rintro _ wh ⟨rfl, Fh⟩
        have HFh := Lib.hid (HFg.out.trans Fh)
        clear Fh
        obtain ⟨_, p0, p1, p2⟩ := HB8.out.fut HFh.out
        obtain ⟨_, q0, q1⟩ := HQ8.out.fut HFh.out
        go_wp2_with fail
        refine (HCN0.out _ (HIN8.out.fut HFh.out)).mono ?_
        rintro _ wi ⟨rfl, Fi⟩
        have HFi := Lib.hid (HFh.out.trans Fi)
        clear Fi p0 p1 p2 q0 q1
        obtain ⟨_, b0, b1, b2⟩ := boxP_of (heap_fut HXB8.out HFi.out)
        obtain ⟨d0, d1, _, _⟩ := two_cell (heap_fut HXB2.out HFi.out)
        go_wp2_with fail
        refine (HCN1.out _ _ _ _ _ _ _ (HINo.out.fut HFi.out)).mono ?_
        rintro _ we ⟨rfl, Fe⟩
        have HFe := Lib.hid (HFi.out.trans Fe)
        have HF9 := Lib.hid (HF8.out.trans HFe.out)
        have HB9 := Lib.hid (HB8.out.fut HFe.out)
        have HQ9 := Lib.hid (HQ8.out.fut HFe.out)
        have HIN9 := Lib.hid (HIN8.out.fut HFe.out)
        clear Fe b0 b1 b2 d0 d1 HF8 HB8 HQ8 HIN8 HINo HXB8 HXB2 HFe
        go_upto_region 16 with fail
        go_cut [19] from 114 to 120 (fun s19 wx => ∃ (B3 : Nat) (l2 : Option Addr) (c2 : Nat), s19 = .pointer (some ⟨B3, 0, none⟩) ∧ Hid (wx.heap[B3]? = some (.cells #[.slice l2 Y.length c2, .slice ta T.length tc] 26)) ∧ Hid (Y.length ≤ c2) ∧ Hid (Owns wx we.heap.size (.slice l2 Y.length c2) Y) ∧ Hid (Fut we wx))
        case first =>
                  have FD : Fut we we.drew := below_drewN Fut.rfl 1
                  have HB0 : Hid (BoxP we.drew w1.heap.size (r : Int) (c : Int) sa S.length sc ∧ BoxQ we.drew (w1.heap.size + 1) ya Y.length yc ta T.length tc) := Lib.hid ⟨HB9.out.fut FD, HQ9.out.fut FD⟩
                  have HCL := Lib.hid (fun W (F : Fut we.drew W) => clone_any ya yc Y W (HIN9.out.fut (FD.trans F)).y HIN9.out.yl)
                  have HSD : Hid (we.drew.heap.size = we.heap.size) := Lib.hid rfl
                  have HFD := Lib.hid FD
                  clear FD
                  refine wp_region_held_drew (S := (fun w' => BoxP w' w1.heap.size (r : Int) (c : Int) sa S.length sc ∧ BoxQ w' (w1.heap.size + 1) ya Y.length yc ta T.length tc)) (by kernel_rfl) ?_ (fun hHeld => ?_)
                  · exact HB0.out
                  generalize we.drew = u0 at *
                  refine wpAnyH_take (i := 0) (oi := { dst := some 114, op := Op.fieldAddr 26 (Operand.tmp 4) 0, type := 0, pos := "outright.go:354", after := #[], guard := none }) (v := ?_) rfl (by kernel_rfl) (by kernel_rfl) (by kernel_rfl) (fun _ _ _ h => h) (Or.inl ⟨by rfl, ?_⟩) (by assumption) ?_
                  rotate_left
                  · (intro w hSw; (obtain ⟨⟨_, s0, s1, s2⟩, ⟨_, s3, s4⟩⟩ := hSw); go_simp <;> with_reducible rfl)
                  try simp only [Act.put, List.setIfInBounds_toArray, List.set_cons_zero, List.set_cons_succ]
                  refine wpAnyH_take (i := 1) (oi := { dst := some 115, op := Op.load 22 (Operand.tmp 114), type := 22, pos := "outright.go:354", after := #[{ on := 0, ground := Ground.data }], guard := none }) (v := ?_) rfl (by kernel_rfl) (by kernel_rfl) (by kernel_rfl) (fun _ _ _ h => h) (Or.inl ⟨by rfl, ?_⟩) (by assumption) ?_
                  rotate_left
                  · (intro w hSw; (obtain ⟨⟨_, s0, s1, s2⟩, ⟨_, s3, s4⟩⟩ := hSw); go_simp <;> with_reducible rfl)
                  try simp only [Act.put, List.setIfInBounds_toArray, List.set_cons_zero, List.set_cons_succ]
                  refine wpAnyH_take (i := 3) (oi := { dst := some 117, op := Op.fieldAddr 26 (Operand.tmp 4) 1, type := 0, pos := "outright.go:354", after := #[], guard := none }) (v := ?_) rfl (by kernel_rfl) (by kernel_rfl) (by kernel_rfl) (fun _ _ _ h => h) (Or.inl ⟨by rfl, ?_⟩) (by assumption) ?_
                  rotate_left
                  · (intro w hSw; (obtain ⟨⟨_, s0, s1, s2⟩, ⟨_, s3, s4⟩⟩ := hSw); go_simp <;> with_reducible rfl)
                  try simp only [Act.put, List.setIfInBounds_toArray, List.set_cons_zero, List.set_cons_succ]
                  refine wpAnyH_take (i := 4) (oi := { dst := some 118, op := Op.load 22 (Operand.tmp 117), type := 22, pos := "outright.go:354", after := #[{ on := 3, ground := Ground.data }], guard := none }) (v := ?_) rfl (by kernel_rfl) (by kernel_rfl) (by kernel_rfl) (fun _ _ _ h => h) (Or.inl ⟨by rfl, ?_⟩) (by assumption) ?_
                  rotate_left
                  · (intro w hSw; (obtain ⟨⟨_, s0, s1, s2⟩, ⟨_, s3, s4⟩⟩ := hSw); go_simp <;> with_reducible rfl)
                  try simp only [Act.put, List.setIfInBounds_toArray, List.set_cons_zero, List.set_cons_succ]
                  refine wpAnyH_ready (rs := [2, 6]) (by kernel_rfl) (by simp) ?_
                  refine AllReadyH.cons (o := { dst := some 116, op := Op.call { callee := Callee.value (Operand.func 59), args := #[Operand.tmp 115], argTypes := #[22] }, type := 22, pos := "outright.go:354", after := #[{ on := 1, ground := Ground.data }], guard := none }) rfl (fun K hK => ?_) (AllReadyH.cons (o := { dst := some 19, op := Op.alloc 26, type := 0, pos := "outright.go:354", after := #[], guard := none }) rfl (fun K hK => ?_) (AllReadyH.nil))
                  · go_simp
                    go_at_call 59
                    refine (HCL.out u0 Fut.rfl).mono ?_
                    rintro _ v2 ⟨y2, rfl, hO2, F2⟩
                    obtain ⟨l2, c2, e2, hc2, _, _⟩ := hO2.form
                    subst e2
                    have G2 : Hid (Fut u0 v2) := Lib.hid (F2)
                    have HO2 := Lib.hid (Owns.base hO2 (Nat.le_refl _ : u0.heap.size ≤ _))
                    have HC2 := Lib.hid hc2
                    try simp only [] at HO2 HC2 ⊢
                    clear hO2 F2 hc2
                    try go_wp2_with fail
                    refine hK.out _ _ ?_ (fun hHeld => ?_)
                    · exact ⟨HB0.out.1.fut (G2.out), HB0.out.2.fut (G2.out)⟩
                    clear hK K
                    try simp only [Act.put, List.setIfInBounds_toArray, List.set_cons_zero, List.set_cons_succ]
                    refine wpAnyH_take (i := 5) (oi := { dst := some 119, op := Op.build 26 #[(0, Operand.tmp 116), (1, Operand.tmp 118)], type := 26, pos := "outright.go:354", after := #[{ on := 2, ground := Ground.data }, { on := 4, ground := Ground.data }], guard := none }) (v := ?_) rfl (by kernel_rfl) (by kernel_rfl) (by kernel_rfl) (fun _ _ _ h => h) (Or.inl ⟨by rfl, ?_⟩) (by assumption) ?_
                    rotate_left
                    · (intro w hSw; (obtain ⟨⟨_, s0, s1, s2⟩, ⟨_, s3, s4⟩⟩ := hSw); go_simp <;> with_reducible rfl)
                    try simp only [Act.put, List.setIfInBounds_toArray, List.set_cons_zero, List.set_cons_succ]
                    refine wpAnyH_ready (rs := [6]) (by kernel_rfl) (by simp) ?_
                    refine AllReadyH.cons (o := { dst := some 19, op := Op.alloc 26, type := 0, pos := "outright.go:354", after := #[], guard := none }) rfl (fun K hK => ?_) AllReadyH.nil
                    go_simp
                    refine hK.out _ _ ?_ (fun hHeld => ?_)
                    · exact ⟨HB0.out.1.fut (G2.out.trans (Fut.alloc _ (.cells #[.slice none 0 0, .slice none 0 0] 26))), HB0.out.2.fut (G2.out.trans (Fut.alloc _ (.cells #[.slice none 0 0, .slice none 0 0] 26)))⟩
                    clear hK K
                    try simp only [Act.put, List.setIfInBounds_toArray, List.set_cons_zero, List.set_cons_succ]
                    refine wpAnyH_ready (rs := [7]) (by kernel_rfl) (by simp) ?_
                    refine AllReadyH.cons (o := { dst := none, op := Op.store 26 (Operand.tmp 19) (Operand.tmp 119), type := 0, pos := "outright.go:354", after := #[{ on := 6, ground := Ground.data }, { on := 5, ground := Ground.data }, { on := 2, ground := Ground.chain }, { on := 0, ground := Ground.phase }, { on := 1, ground := Ground.phase }, { on := 2, ground := Ground.phase }, { on := 3, ground := Ground.phase }, { on := 4, ground := Ground.phase }, { on := 5, ground := Ground.phase }, { on := 6, ground := Ground.phase }], guard := none }) rfl (fun K hK => ?_) AllReadyH.nil
                    obtain ⟨v6, hv6⟩ : ∃ v6, v6 = v2.alloc (.cells #[.slice none 0 0, .slice none 0 0] 26) := ⟨_, rfl⟩
                    have F6 : Fut v2 v6 := by rw [hv6]; exact Fut.alloc _ _
                    have HZ : Hid (v6.heap[v2.heap.size]? = some (.cells #[.slice none 0 0, .slice none 0 0] 26)) := Lib.hid (by rw [hv6]; exact World.alloc_heap_new _ _)
                    have G6 : Hid (Fut u0 v6) := Lib.hid (G2.out.trans F6)
                    have HO2 := Lib.hid (HO2.out.fut F6)
                    rw [← hv6] at hHeld ⊢
                    clear hv6 F6
                    obtain ⟨⟨x1, x2⟩, ⟨x3, x4⟩, x7⟩ := store2 (.slice l2 Y.length c2) (.slice ta T.length tc) HZ.out
                    have hA : u0.heap.size ≤ v2.heap.size := RowKit.Below.size G2.out
                    have hb2 := ((But.refl (fun q => q = v2.heap.size) v6).setCell (p := ⟨v2.heap.size, 0, none⟩) (.inl rfl) (.slice l2 Y.length c2)).setCell (p := ⟨v2.heap.size, 1, none⟩) (.inl rfl) (.slice ta T.length tc)
                    have hFE := RowKit.Below.trans G6.out (But.below hb2 u0.heap.size (RowKit.Below.size G6.out) (fun q hq => by subst hq; exact hA))
                    have HFE := Lib.hid hFE
                    have HOE := Lib.hid (own_but HO2.out hb2 (own_ty HO2.out HZ.out))
                    have HXE := Lib.hid x7
                    clear hb2 hFE x7
                    go_simp
                    refine hK.out _ _ ?_ (fun hHeld => ?_)
                    · exact ⟨HB0.out.1.fut (HFE.out), HB0.out.2.fut (HFE.out)⟩
                    clear hK K
                    try simp only [Act.put, List.setIfInBounds_toArray, List.set_cons_zero, List.set_cons_succ]
                    refine wpAnyH_done (by kernel_rfl) ?_ _
                    clear x1 x2 x3 x4
                    have HOE2 := Lib.hid (HOE.out.base (B' := we.heap.size) (by rw [HSD.out]; exact Nat.le_refl _))
                    have HFE2 := Lib.hid (HFD.out.trans HFE.out)
                    go_wp2_with fail
                    go_meet
                    exact ⟨_, _, _, rfl, HXE, HC2, HOE2, HFE2⟩
                  · go_simp
                    refine hK.out _ _ ?_ (fun hHeld => ?_)
                    · exact ⟨HB0.out.1.fut (Fut.alloc u0 (.cells #[.slice none 0 0, .slice none 0 0] 26)), HB0.out.2.fut (Fut.alloc u0 (.cells #[.slice none 0 0, .slice none 0 0] 26))⟩
                    clear hK K
                    try simp only [Act.put, List.setIfInBounds_toArray, List.set_cons_zero, List.set_cons_succ]
                    refine wpAnyH_ready (rs := [2]) (by kernel_rfl) (by simp) ?_
                    refine AllReadyH.cons (o := { dst := some 116, op := Op.call { callee := Callee.value (Operand.func 59), args := #[Operand.tmp 115], argTypes := #[22] }, type := 22, pos := "outright.go:354", after := #[{ on := 1, ground := Ground.data }], guard := none }) rfl (fun K hK => ?_) AllReadyH.nil
                    obtain ⟨v6, hv6⟩ : ∃ v6, v6 = u0.alloc (.cells #[.slice none 0 0, .slice none 0 0] 26) := ⟨_, rfl⟩
                    have F6 : Fut u0 v6 := by rw [hv6]; exact Fut.alloc _ _
                    have HZ : Hid (v6.heap[u0.heap.size]? = some (.cells #[.slice none 0 0, .slice none 0 0] 26)) := Lib.hid (by rw [hv6]; exact World.alloc_heap_new _ _)
                    have G6 : Hid (Fut u0 v6) := Lib.hid (F6)
                    rw [← hv6] at hHeld ⊢
                    clear hv6 F6
                    go_simp
                    go_at_call 59
                    refine (HCL.out v6 G6.out).mono ?_
                    rintro _ v2 ⟨y2, rfl, hO2, F2⟩
                    obtain ⟨l2, c2, e2, hc2, _, _⟩ := hO2.form
                    subst e2
                    have G2 : Hid (Fut u0 v2) := Lib.hid (G6.out.trans F2)
                    have HO2 := Lib.hid (Owns.base hO2 (RowKit.Below.size G6.out : u0.heap.size ≤ _))
                    have HZ := Lib.hid (heap_fut HZ.out F2)
                    have HC2 := Lib.hid hc2
                    try simp only [] at HO2 HC2 ⊢
                    clear hO2 F2 hc2
                    try go_wp2_with fail
                    refine hK.out _ _ ?_ (fun hHeld => ?_)
                    · exact ⟨HB0.out.1.fut (G2.out), HB0.out.2.fut (G2.out)⟩
                    clear hK K
                    try simp only [Act.put, List.setIfInBounds_toArray, List.set_cons_zero, List.set_cons_succ]
                    refine wpAnyH_take (i := 5) (oi := { dst := some 119, op := Op.build 26 #[(0, Operand.tmp 116), (1, Operand.tmp 118)], type := 26, pos := "outright.go:354", after := #[{ on := 2, ground := Ground.data }, { on := 4, ground := Ground.data }], guard := none }) (v := ?_) rfl (by kernel_rfl) (by kernel_rfl) (by kernel_rfl) (fun _ _ _ h => h) (Or.inl ⟨by rfl, ?_⟩) (by assumption) ?_
                    rotate_left
                    · (intro w hSw; (obtain ⟨⟨_, s0, s1, s2⟩, ⟨_, s3, s4⟩⟩ := hSw); go_simp <;> with_reducible rfl)
                    try simp only [Act.put, List.setIfInBounds_toArray, List.set_cons_zero, List.set_cons_succ]
                    refine wpAnyH_ready (rs := [7]) (by kernel_rfl) (by simp) ?_
                    refine AllReadyH.cons (o := { dst := none, op := Op.store 26 (Operand.tmp 19) (Operand.tmp 119), type := 0, pos := "outright.go:354", after := #[{ on := 6, ground := Ground.data }, { on := 5, ground := Ground.data }, { on := 2, ground := Ground.chain }, { on := 0, ground := Ground.phase }, { on := 1, ground := Ground.phase }, { on := 2, ground := Ground.phase }, { on := 3, ground := Ground.phase }, { on := 4, ground := Ground.phase }, { on := 5, ground := Ground.phase }, { on := 6, ground := Ground.phase }], guard := none }) rfl (fun K hK => ?_) AllReadyH.nil
                    obtain ⟨⟨x1, x2⟩, ⟨x3, x4⟩, x7⟩ := store2 (.slice l2 Y.length c2) (.slice ta T.length tc) HZ.out
                    have hA : u0.heap.size ≤ u0.heap.size := Nat.le_refl _
                    have hb2 := ((But.refl (fun q => q = u0.heap.size) v2).setCell (p := ⟨u0.heap.size, 0, none⟩) (.inl rfl) (.slice l2 Y.length c2)).setCell (p := ⟨u0.heap.size, 1, none⟩) (.inl rfl) (.slice ta T.length tc)
                    have hFE := RowKit.Below.trans G2.out (But.below hb2 u0.heap.size (RowKit.Below.size G2.out) (fun q hq => by subst hq; exact hA))
                    have HFE := Lib.hid hFE
                    have HOE := Lib.hid (own_but HO2.out hb2 (own_ty HO2.out HZ.out))
                    have HXE := Lib.hid x7
                    clear hb2 hFE x7
                    go_simp
                    refine hK.out _ _ ?_ (fun hHeld => ?_)
                    · exact ⟨HB0.out.1.fut (HFE.out), HB0.out.2.fut (HFE.out)⟩
                    clear hK K
                    try simp only [Act.put, List.setIfInBounds_toArray, List.set_cons_zero, List.set_cons_succ]
                    refine wpAnyH_done (by kernel_rfl) ?_ _
                    clear x1 x2 x3 x4
                    have HOE2 := Lib.hid (HOE.out.base (B' := we.heap.size) (by rw [HSD.out]; exact Nat.le_refl _))
                    have HFE2 := Lib.hid (HFD.out.trans HFE.out)
                    go_wp2_with fail
                    go_meet
                    exact ⟨_, _, _, rfl, HXE, HC2, HOE2, HFE2⟩
        case rest =>
          obtain ⟨B3, l2, c2, rfl, HXB3, HC2, HOZ, HFC⟩ := hcut
          obtain ⟨wj, hwj⟩ : ∃ wj, wj = wc := ⟨_, rfl⟩
          subst hwj
          have HRV := Lib.hid (rev_own HOZ.out rfl (by omega) (by omega))
          obtain ⟨d0, d1, _, _⟩ := two_cell HXB3.out
          go_wp2_with fail
          refine HRV.out.mono ?_
          rintro _ wk ⟨rfl, hIk, hBk, hkk⟩
          have hFk : Fut we wk := RowKit.Below.trans HFC.out hBk
          have HXBk := Lib.hid (box_sorted HXB3.out HOZ.out (by decide) hkk)
          have HFk := Lib.hid (HF9.out.trans hFk)
          have HBk := Lib.hid (HB9.out.fut hFk)
          have HINz : Hid (InPQ wk sa S l2 c2 Y.reverse ta tc T) := Lib.hid ⟨(HIN9.out.fut hFk).s, HIN9.out.sl, hIk, by rw [List.length_reverse]; omega, by rw [List.length_reverse]; exact HC2.out, (HIN9.out.fut hFk).t, HIN9.out.tl, HIN9.out.tc⟩
          clear hIk hBk hkk hFk HRV HXB3 HOZ HFC d0 d1 HF9 HB9 HQ9 HIN9 HC2
          obtain ⟨_, p0, p1, p2⟩ := HBk.out
          obtain ⟨d0, d1, _, _⟩ := two_cell HXBk.out
          go_wp2_with fail
          refine (HCN2.out _ _ _ HINz.out).mono ?_
          rintro _ wl ⟨rfl, Fl⟩
          have HFl := Lib.hid Fl
          clear Fl p0 p1 p2 d0 d1
          obtain ⟨_, p0, p1, p2⟩ := HBk.out.fut HFl.out
          obtain ⟨d0, d1, _, _⟩ := two_cell (heap_fut HXBk.out HFl.out)
          obtain ⟨E, hE⟩ : ∃ E, E = (if 1 < Y.length then - D else D) := ⟨_, rfl⟩
          have hQ := HSG2.out _ _ _ (HINz.out.fut HFl.out)
          rw [← hE] at hQ
          have HQ := Lib.hid hQ
          have HE := Lib.hid hE
          clear hQ hE
          go_wp2_with fail
          refine HQ.out.mono ?_
          rintro _ wm ⟨rfl, Fm⟩
          have HFm := Lib.hid (HFk.out.trans (HFl.out.trans Fm))
          have HXBm := Lib.hid (heap_fut HXBk.out (HFl.out.trans Fm))
          clear Fm p0 p1 p2 d0 d1
          obtain ⟨d0, d1, _, _⟩ := two_cell HXBm.out
          go_upto_if 138 with fail
          go_cut [21] from 139 to 141 (fun s21 wx => s21 = .int .i64 D ∧ Hid (Fut wm wx))
          case first =>
            by_cases hY : 1 < Y.length
            · have hYx : (1 : Int) < (Y.length : Int) := by omega
              have hED : E = - D := by rw [HE.out, if_pos hY]
              have hwE : IntKind.i64.wrap (- E) = D := by rw [hED, Int.neg_neg]; exact IntWalk.i64_in _ ⟨by omega, by omega⟩
              clear hED
              go_wp2_with fail
              go_meet
              exact ⟨rfl, Lib.hid Fut.rfl⟩
            · have hYx : ¬ (1 : Int) < (Y.length : Int) := by omega
              have hED : E = D := by rw [HE.out, if_neg hY]
              subst hED
              go_wp2_with fail
              go_meet
              exact ⟨rfl, Lib.hid Fut.rfl⟩
          case rest =>
            obtain ⟨rfl, HFC⟩ := hcut
            have HFn := Lib.hid (HFm.out.trans HFC.out)
            clear d0 d1
            go_wp2_with fail
            refine (works_any _).mono ?_
            rintro _ wz ⟨rfl, Fz⟩
            have HFz := Lib.hid (HFn.out.trans Fz)
            clear Fz
            go_wp2_with fail
            go_ret
            exact ⟨rfl, HFz.out⟩
end Go.Proofs.Ytflllkamdihfaaa
