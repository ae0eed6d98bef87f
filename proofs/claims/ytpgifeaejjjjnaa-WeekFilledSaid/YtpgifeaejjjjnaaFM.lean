/- law 7: law7_any -/
import Derived.Test.YtpgifeaejjjjnaaFK
import Derived.Test.YtpgifeaejjjjnaaFL
import Derived.Test.YtpgifeaejjjjnaaRO
import Derived.Test.YtpgifeaejjjjnaaFC
import Derived.Test.YtpgifeaejjjjnaaDA
import Derived.Test.YtpgifeaejjjjnaaDB
namespace Go.Proofs.Ytpgifeaejjjjnaa
open Go.RowKit Go.Sort
theorem tmR_bd {n : Nat} {P : List (List Int)} {d k : Nat} {ts : List Int} (h : tmR n P d k ts) {s : Nat} (hs : s < n) (hd : d ≤ 50) : 0 ≤ nth ts s ∧ nth ts s ≤ 100 := by
  rw [h.2 s hs]
  have : fcn P d s ≤ d := by
    unfold fcn
    exact Nat.le_trans List.countP_le_length (by simp)
  split <;> omega
set_option maxRecDepth 100000 in
set_option maxHeartbeats 8000000 in
theorem law7_any (st ca : Nat) (by_ : Nat → Int) (hst : st < 256) (hca : ca < 256) (hby : ∀ i, i < 5 → 0 ≤ by_ i ∧ by_ i < 256) (w : World) :
    Calls Try.prog 7 #[rotaV st ca by_] w fun e w' => e = .returned (.bool true) ∧ Fut w w' := by
  obtain ⟨i1, hi1, hy0, hy1, hy2⟩ := info_parts info28
  have HMD := Lib.hid (fun W => made_any 5 (by omega) (by omega) st ca by_ hst hca hby W)
  have hN1 : madN 5 st ≤ 5 := by have := Nat.mod_lt st (show 0 < 5 by omega); show 1 + st % 5 ≤ 5; omega
  have hNd : 1 ≤ madN 5 st := by show 1 ≤ 1 + st % 5; omega
  have hPl : Plan (madN 5 st) (madP 5 st ca by_) := madL_plan _ _ _ (by have := Nat.mod_lt ca (show 0 < madN 5 st + 1 by omega); omega)
  generalize madN 5 st = N at *
  generalize madP 5 st ca by_ = P at *
  have hck := chk_plan hNd hN1 hPl
  have hpl := hPl.len
  have HP := Lib.hid hPl
  obtain ⟨hgp, hgl⟩ := grd_plan (N - P.length) P hPl (by omega)
  have hfu : fullE N P = grdF N (N - P.length) P := by
    rw [full_ref]; unfold fulR; rw [if_pos hck, Int.toNat_natCast]
  have hfe : freeE N P = (List.range N).map (fun d => frT P d N) := by unfold freeE; rw [if_pos hck, Int.toNat_natCast]
  generalize hGG : grdF N (N - P.length) P = G at *
  have HGG := Lib.hid hGG
  have HFR : Hid (∀ (W : World) (la : Option Addr) (lc : Nat), LstC W la P → P.length ≤ lc → lc ≤ 9223372036854775807 → Calls Try.prog 18 #[.int .i64 N, .slice la P.length lc] W fun e w' => ∃ l lq, e = .returned (.tuple #[.slice l N lq, .int .i64 0]) ∧ LstC w' l ((List.range N).map fun d => frT P d N) ∧ Fut W w') := Lib.hid (fun W la lc hL h1 h2 => by
    have h := free_any N la lc P W hL h1 h2
    rw [hck, hfe] at h
    refine h.mono ?_
    rintro _ w' ⟨l, lq, rfl, q1, q2, hL', F⟩
    exact ⟨l, lq, by simp, hL', F⟩)
  have HFU : Hid (∀ (W : World) (la : Option Addr) (lc : Nat), LstC W la P → P.length ≤ lc → lc ≤ 9223372036854775807 → Calls Try.prog 30 #[.int .i64 N, .slice la P.length lc] W fun e w' => ∃ l lq, e = .returned (.tuple #[.slice l N lq, .int .i64 0]) ∧ N ≤ lq ∧ lq ≤ 9223372036854775807 ∧ LstC w' l G ∧ Fut W w') := Lib.hid (fun W la lc hL h1 h2 => by
    have h := full_any N la lc P W hL h1 h2
    rw [hck, hfu] at h
    refine h.mono ?_
    rintro _ w' ⟨l, lq, rfl, q1, q2, hL', F⟩
    exact ⟨l, lq, by rw [hgl], by omega, q2, hL', F⟩)
  have HPY : Hid (∀ (W : World) (la : Option Addr) (lc : Nat), LstC W la G → N ≤ lc → lc ≤ 9223372036854775807 → Calls Try.prog 49 #[.int .i64 N, .slice la N lc] W fun e w' => e = .returned (.bool true) ∧ W = w') := Lib.hid (fun W la lc hL h1 h2 => by
    have h := planned_yes N hNd hN1 la lc G W hL hgp (by omega) h2
    rwa [hgl] at h)
  have HLS : Hid (∀ (W : World) (la lb : Option Addr) (lc ld : Nat), LstC W la G → LstC W lb G → Calls Try.prog 22 #[.slice la N lc, .slice lb N ld] W fun e w' => e = .returned (.bool true) ∧ Fut W w') := Lib.hid (fun W la lb lc ld hA hB => by
    have h := lists_self (a := la) (c := lb) (cap := lc) (dap := ld) G W hA hB (by omega)
    rwa [hgl] at h)
  have HNX : Hid (∀ (cur : List (List Int)) (W : World) (la : Option Addr) (lc : Nat), Plan N cur → cur.length < N → LstC W la cur → cur.length ≤ lc → lc ≤ 9223372036854775807 → Calls Try.prog 20 #[.int .i64 N, .slice la cur.length lc] W (fun e w' => ∃ l lq, e = .returned (.tuple #[.slice l N lq, .int .i64 0]) ∧ Owns w' 0 (.slice l N lq) (lth (fitL N cur) 0) ∧ Fut W w')) := Lib.hid (fun cur W la lc hPc hlt hL h1 h2 => by
    have hop : opnE N cur = 0 := by rw [opn_of hNd hN1 hPc]; rw [if_neg (by omega)]
    have hrl : (lth (fitL N cur) 0).length = N := ord_len (List.mem_filter.1 (fit_first hPc hlt)).1
    have h := next_own N la lc cur W hL h1 h2
    unfold nxtL at h
    rw [if_pos hop, hop, Int.toNat_natCast] at h
    refine h.mono ?_
    rintro _ w' ⟨l, lq, rfl, hO, F⟩
    rw [hrl] at hO
    exact ⟨l, lq, by rw [hrl], hO, F⟩)
  have HCL := Lib.hid (fun (B : Nat) (v : Value) (W : World) (h : OwnX W B v P) => clone_lists v P W h (by omega))
  have HF1 : Hid (Fut w (w.alloc (.cells #[.int .u8 st, .int .u8 ca, .int .u8 (by_ 0), .int .u8 (by_ 1), .int .u8 (by_ 2), .int .u8 (by_ 3), .int .u8 (by_ 4)] 42))) := Lib.hid (Fut.alloc _ _)
  have HGL := Lib.hid hgl
  clear hst hca hby hPl hck hgp hgl hfu hfe hGG
  have hpx : (P.length : Int) ≤ 5 := by omega
  have hnx : (N : Int) ≤ 5 := by omega
  go_enter Try.func7, Try.ntmps7
  go_wp2_with fail
  refine (HMD.out _).mono ?_
  rintro _ w1 ⟨v, rfl, hO, F⟩
  obtain ⟨la, lc, rfl, q1, q2, hL⟩ := hO.listsC
  have HF2 := Lib.hid (HF1.out.trans F)
  have HL1 := Lib.hid hL
  have HX1 := Lib.hid hO.x
  have HQ := Lib.hid (show P.length ≤ lc ∧ lc ≤ 9223372036854775807 from ⟨q1, q2⟩)
  clear HMD hO F q1 q2 hL HF1
  go_wp2_with fail
  refine (HFR.out _ la lc HL1.out HQ.out.1 HQ.out.2).mono ?_
  rintro _ w2 ⟨lf, lfc, rfl, hFL, F⟩
  have HF3 := Lib.hid (HF2.out.trans F)
  have HL2 := Lib.hid (HL1.out.fut F)
  have HX2 := Lib.hid (HX1.out.fut F)
  have HFL := Lib.hid hFL
  clear F HF2 HL1 HX1 hFL HFR
  have hmkr := mk_row N (by omega)
  have hmk := made_own w2 N (by omega)
  have hal : RowKit.Below w2.heap.size w2 (w2.alloc (.cells (madeCells #[Value.int .i64 0] N) 3)) := Fut.alloc _ _
  have HFU2 : Hid (∀ wx, RowKit.Below w2.heap.size w2 wx → Fut w2 wx) := Lib.hid (fun _ h => h)
  go_wp2_with fail
  generalize w2.alloc (.cells (madeCells #[Value.int .i64 0] N) 3) = w3 at *
  have HLT : Hid (∀ (a : Addr) (v : Value), w2.cell? a = some v → ∀ wx, RowKit.Below w2.heap.size w2 wx → wx.cell? a = some v) := Lib.hid (fun a v h wx F => (RowKit.Below.cell F (World.block_lt_of_cell? _ _ h)).trans h)
  generalize w2.heap.size = g at *
  have HB3 := Lib.hid hal
  have HMK := Lib.hid hmk
  clear hal hmk hmkr
  go_loopw [43] (fun iv wx => ∃ (d : Nat) (ts : List Int), d ≤ N ∧ iv = .int .i64 d ∧ Hid (tmR N P d 0 ts) ∧ Hid (Owns wx g (.slice (some ⟨g, 0, none⟩) N N) ts) ∧ Hid (RowKit.Below g w2 wx)) (fun iv _ => N - (intOf iv).toNat)
  case atStart => exact ⟨0, oftL N [], Nat.zero_le _, rfl, Lib.hid (tmR_zero N P _ (oft_len _ _) (fun s hs => by rw [oft_nth _ _ _ hs]; simp)), HMK, HB3⟩
  case round =>
    obtain ⟨d, ts, hdn, rfl, HTM, HOT, HBW⟩ := hrel
    obtain ⟨wo, hwo⟩ : ∃ wo, wo = wr := ⟨_, rfl⟩
    subst hwo
    by_cases hdl : d < N
    · have hdx : (d : Int) < N := by omega
      have hel : lth ((List.range N).map fun d => frT P d N) d = frT P d N := by
        rw [lth_eq, List.getElem?_map, List.getElem?_range hdl]; rfl
      obtain ⟨fb, fo, l, flc, ea, hfb, d1, hl1, hl2, hI⟩ := HFL.out d (by simp; exact hdl)
      subst ea
      rw [hel] at d1 hl1 hI
      have HIL := Lib.hid hI
      have HFN := Lib.hid (fun k (hk : k < (frT P d N).length) => frT_nth (zss := P) (d := d) (m := N) (k := k) hk)
      have HFA := Lib.hid (fun j k (hjk : j < k) (hk : k < (frT P d N).length) => frT_asc (zss := P) (d := d) (m := N) hjk hk)
      have HPT := Lib.hid (fun k s us (h : tmR N P d k us) (hk : k < (frT P d N).length) (hs : nth (frT P d N) k = (s : Nat)) (hsn : s < N) => tmR_put h hk hs hsn)
      have HNE := Lib.hid (fun us (h : tmR N P d (frT P d N).length us) => tmR_next h)
      have hfl : (frT P d N).length ≤ N := frT_len P d N
      have e1 := HLT.out _ _ d1 wo HBW.out
      clear hI hel d1
      generalize frT P d N = ft at *
      have hfx : (ft.length : Int) ≤ 5 := by omega
      go_wp2_with fail
      go_loopw [50] (fun kv wx => ∃ (k : Nat) (us : List Int), k ≤ ft.length ∧ kv = .int .i64 k ∧ Hid (tmR N P d k us) ∧ Hid (Owns wx g (.slice (some ⟨g, 0, none⟩) N N) us) ∧ Hid (RowKit.Below g w2 wx)) (fun kv _ => ft.length - (intOf kv).toNat)
      case atStart => exact ⟨0, ts, Nat.zero_le _, rfl, HTM, HOT, HBW⟩
      case round =>
        obtain ⟨k, us, hkl, rfl, HTK, HOK, HBK⟩ := hrel
        obtain ⟨wi, hwi⟩ : ∃ wi, wi = wr := ⟨_, rfl⟩
        subst hwi
        clear e1
        by_cases hkt : k < ft.length
        · have hkx : (k : Int) < ft.length := by omega
          obtain ⟨s, hs, hsn, hst⟩ := HFN.out k hkt
          have hsx : (s : Int) < N := by omega
          obtain ⟨b1, o1, el, hb1, c1⟩ := HIL.out k hkt
          subst el
          rw [hs] at c1
          have e2 := HLT.out _ _ c1 wi HBK.out
          have HST := Lib.hid (tkn_no.1 hst)
          have HPK := Lib.hid (HPT.out k s us HTK.out hkt hs hsn)
          have HUL := Lib.hid HTK.out.1
          have HTB : Hid (∀ s, s < N → 0 ≤ nth us s ∧ nth us s ≤ 100) := Lib.hid (fun s hs => tmR_bd HTK.out hs (by omega))
          have HK : Hid (k = 0 ∨ ∃ j : Nat, k = j + 1 ∧ ∃ pv : Int, wi.cell? ⟨b1, o1 + j, none⟩ = some (.int .i64 pv) ∧ ¬ (s : Int) ≤ pv) := Lib.hid (by
            rcases Nat.eq_zero_or_pos k with h0 | h0
            · exact .inl h0
            · refine .inr ⟨k - 1, by omega, nth ft (k - 1), ?_, ?_⟩
              · obtain ⟨b2, o2, e, _, c2⟩ := HIL.out (k - 1) (by omega)
                simp only [Option.some.injEq, Addr.mk.injEq, and_true] at e
                obtain ⟨rfl, rfl⟩ := e
                exact HLT.out _ _ c2 wi HBK.out
              · have := HFA.out (k - 1) k (by omega) hkt
                omega)
          clear c1 hst hs
          rcases HK.out with h0 | ⟨j, hj, pv, c0, hpv⟩
          · subst h0
            rw [Nat.add_zero] at e2
            clear HK
            go_wp2_with fail
            go_loopw [77] (fun iv wx => ∃ i : Nat, i ≤ P.length ∧ iv = .int .i64 i ∧ wx = wi) (fun iv _ => P.length - (intOf iv).toNat)
            case atStart => exact ⟨0, Nat.zero_le _, rfl, rfl⟩
            case round =>
              obtain ⟨i, hi, rfl, rfl⟩ := hrel
              by_cases hil : i < P.length
              · have hix : (i : Int) < P.length := by omega
                obtain ⟨pb, po, pl, plc, ep, hpb, p1, _, _, hIp⟩ := HL2.out i hil
                subst ep
                have hrl := ord_len (HP.out.row i hil)
                rw [hrl] at p1
                have p2 := HLT.out _ _ p1 wr HBK.out
                obtain ⟨rb, ro, er, hrb, r1⟩ := hIp d (by omega)
                subst er
                have r2 := HLT.out _ _ r1 wr HBK.out
                have hne := HST.out i hil
                generalize nth (lth P i) d = y at *
                clear p1 r1 hIp
                go_wp2
                go_roundw
                case rel => exact ⟨i + 1, by omega, by go_num, by first | rfl | trivial⟩
                case measure => simp [intOf]; omega
              · obtain rfl : i = P.length := by omega
                obtain ⟨q1, q2, q3⟩ := own_at HOK.out HUL.out s hsn
                have HO2 := Lib.hid (own_set HOK.out HUL.out s (nth us s + 1))
                have HB2 : Hid (RowKit.Below g w2 (wr.setCell ⟨g, s, none⟩ (.int .i64 (nth us s + 1)))) := Lib.hid (HBK.out.setCell (p := ⟨g, s, none⟩) (Nat.le_refl _) _)
                have hb0 : 0 ≤ nth us s ∧ nth us s ≤ 100 := HTB.out s hsn
                obtain ⟨hb01, hb02⟩ := hb0
                generalize nth us s = y at *
                go_wp2
                go_roundw
                case rel => exact ⟨0 + 1, us.set s (y + 1), by omega, by go_num, HPK, HO2, HB2⟩
                case measure => simp [intOf]; omega
          · subst hj
            clear HK
            go_wp2_with fail
            go_loopw [77] (fun iv wx => ∃ i : Nat, i ≤ P.length ∧ iv = .int .i64 i ∧ wx = wi) (fun iv _ => P.length - (intOf iv).toNat)
            case atStart => exact ⟨0, Nat.zero_le _, rfl, rfl⟩
            case round =>
              obtain ⟨i, hi, rfl, rfl⟩ := hrel
              by_cases hil : i < P.length
              · have hix : (i : Int) < P.length := by omega
                obtain ⟨pb, po, pl, plc, ep, hpb, p1, _, _, hIp⟩ := HL2.out i hil
                subst ep
                have hrl := ord_len (HP.out.row i hil)
                rw [hrl] at p1
                have p2 := HLT.out _ _ p1 wr HBK.out
                obtain ⟨rb, ro, er, hrb, r1⟩ := hIp d (by omega)
                subst er
                have r2 := HLT.out _ _ r1 wr HBK.out
                have hne := HST.out i hil
                generalize nth (lth P i) d = y at *
                clear p1 r1 hIp
                go_wp2
                go_roundw
                case rel => exact ⟨i + 1, by omega, by go_num, by first | rfl | trivial⟩
                case measure => simp [intOf]; omega
              · obtain rfl : i = P.length := by omega
                obtain ⟨q1, q2, q3⟩ := own_at HOK.out HUL.out s hsn
                have HO2 := Lib.hid (own_set HOK.out HUL.out s (nth us s + 1))
                have HB2 : Hid (RowKit.Below g w2 (wr.setCell ⟨g, s, none⟩ (.int .i64 (nth us s + 1)))) := Lib.hid (HBK.out.setCell (p := ⟨g, s, none⟩) (Nat.le_refl _) _)
                have hb0 : 0 ≤ nth us s ∧ nth us s ≤ 100 := HTB.out s hsn
                obtain ⟨hb01, hb02⟩ := hb0
                generalize nth us s = y at *
                go_wp2
                go_roundw
                case rel => exact ⟨(j + 1) + 1, us.set s (y + 1), by omega, by go_num, HPK, HO2, HB2⟩
                case measure => simp [intOf]; omega
        · obtain rfl : k = ft.length := by omega
          have HT2 := Lib.hid (HNE.out us HTK.out)
          go_wp2
          go_roundw
          case rel => exact ⟨d + 1, us, by omega, by go_num, HT2, HOK, HBK⟩
          case measure => simp [intOf]; omega
    · obtain rfl : d = N := by omega
      have HTE := Lib.hid (fun s (hs : s < d) => tmR_end HP.out HTM.out hs)
      have HUL := Lib.hid HTM.out.1
      have hpd : P.length ≤ d := hpl
      go_wp2_with fail
      go_loopw [98] (fun iv wx => ∃ i : Nat, i ≤ d ∧ iv = .int .i64 i ∧ wx = wo) (fun iv _ => d - (intOf iv).toNat)
      case atStart => exact ⟨0, Nat.zero_le _, rfl, rfl⟩
      case round =>
        obtain ⟨i, hi, rfl, rfl⟩ := hrel
        by_cases hil : i < d
        · have hix : (i : Int) < d := by omega
          obtain ⟨q1, _, _⟩ := own_at HOT.out HUL.out i hil
          rw [HTE.out i hil] at q1
          go_wp2
          go_roundw
          case rel => exact ⟨i + 1, by omega, by go_num, by first | rfl | trivial⟩
          case measure => simp [intOf]; omega
        · obtain rfl : i = d := by omega
          obtain ⟨wz, hwz⟩ : ∃ wz, wz = wr := ⟨_, rfl⟩
          subst hwz
          have HFO := Lib.hid (HFU2.out _ HBW.out)
          have HXO := Lib.hid (HX2.out.fut HFO.out)
          have HLO := Lib.hid (HL2.out.fut HFO.out)
          have HWO := Lib.hid (HF3.out.trans HFO.out)
          clear HTE HUL HTM HOT HBW HFL HX2 HL2 HF3 HFO HLT HFU2 HB3 HMK
          go_wp2_with fail
          refine (HCL.out _ _ _ HXO.out).mono ?_
          rintro _ w5 ⟨v5, rfl, hX5, F5⟩
          have HX5 := Lib.hid hX5
          have HF5 := Lib.hid F5
          obtain ⟨l5, lc5, rfl, _, _, _⟩ := hX5.listsC
          clear hX5 F5 HXO HCL
          have HPL0 := Lib.hid HP.out
          have HGR0 := HGG
          go_wp2_with fail
          go_loopw [16] (fun ov wx => ∃ cur, Hid (Plan i cur) ∧ Hid (grdF i (i - cur.length) cur = G) ∧ (∃ l lc, ov = .slice l cur.length lc) ∧ Hid (OwnX wx wz.heap.size ov cur) ∧ Hid (Fut wz wx)) (fun ov _ => i - lenV ov)
          case atStart => exact ⟨P, HPL0, HGR0, ⟨_, _, rfl⟩, HX5, HF5⟩
          case round =>
            obtain ⟨cur, HPC, HGC, ⟨l, lq, rfl⟩, HOX, HFX⟩ := hrel
            have hcl : cur.length ≤ i := HPC.out.len
            by_cases hlt : cur.length < i
            · have hltx : (cur.length : Int) < i := by omega
              obtain ⟨l', lc', e, hlc, hlm, hC⟩ := HOX.out.listsC
              simp only [Value.slice.injEq, true_and] at e
              obtain ⟨rfl, rfl⟩ := e
              have HNC := Lib.hid (HNX.out cur wr l lq HPC.out hlt hC hlc hlm)
              have HGS := Lib.hid (HGC.out.symm.trans (grd_step hlt))
              have HPA := Lib.hid (plan_add HPC.out (fit_first HPC.out hlt) hlt)
              have hrl : (lth (fitL i cur) 0).length = i := ord_len (List.mem_filter.1 (fit_first HPC.out hlt)).1
              have HRL := Lib.hid hrl
              obtain ⟨vals, hrow, hel⟩ := HOX.out
              have HROW := Lib.hid hrow
              have HEL := Lib.hid hel
              have HBW : Hid (wz.heap.size ≤ wr.heap.size) := Lib.hid (RowKit.Below.size HFX.out)
              clear hrow hel hC hrl
              generalize lth (fitL i cur) 0 = row at *
              go_wp2_with fail
              refine HNC.out.mono ?_
              rintro _ w6 ⟨l6, lc6, rfl, hO6, F6⟩
              have HO6 := Lib.hid hO6
              have HFW6 := Lib.hid (HFX.out.trans F6)
              have HR6 := Lib.hid (row_fut HROW.out F6)
              have HE6 := Lib.hid (HEL.out.fut F6)
              have HB6 : Hid (wz.heap.size ≤ w6.heap.size) := Lib.hid (Nat.le_trans HBW.out (RowKit.Below.size F6))
              clear hO6 F6 HNC HROW HEL
              go_wp2_with (at_builtin; refine wpList_append_lies _ rfl _ _ 22 rfl wz.heap.size 28 i1 (.slice none 0 0) 1 24 Try.underlying22 hi1 hy0 hy1 hy2 rfl (by decide) _ cur.length vals rfl (row_fut HR6.out (Fut.alloc _ _)) ⟨w6.heap.size, 0, none⟩ 1 1 [.slice l6 i lc6] rfl rfl (cell_one (by simp [go_sem])) (by simp [Value.oneCell']) (by omega) (by unfold maxLen; omega) (by omega) (Nat.le_trans HB6.out (RowKit.Below.size (Fut.alloc w6 _))) _ rfl ?_)
              intro g8 c8 w8 hown8 hgrow8 _ _
              have HO6' : Hid (Owns w6 0 (.slice l6 row.length lc6) row) := Lib.hid (by rw [HRL.out]; exact HO6.out)
              rw [← HRL.out] at hown8
              have HX8 : Hid (OwnX w8 wz.heap.size (.slice (some ⟨g8, 0, none⟩) (cur.length + 1) c8) (cur ++ [row])) := Lib.hid (OwnX.app (row_fut HR6.out (Fut.alloc _ _)) (HE6.out.fut (Fut.alloc _ _)) (HO6'.out.fut (Fut.alloc _ _)) hown8 hgrow8)
              have HF8 : Hid (Fut wz w8) := Lib.hid (RowKit.Below.grown (HFW6.out.trans (Fut.alloc w6 (.cells #[.slice l6 i lc6] 28))) hgrow8 (RowKit.Below.size (HFW6.out.trans (Fut.alloc w6 (.cells #[.slice l6 i lc6] 28)))) fun q hq => (World.ownsRow.lt HR6.out q hq).1)
              clear hown8 hgrow8
              go_wp2
              go_round
              case rel => exact ⟨cur ++ [row], HPA, Lib.hid HGS.out.symm, ⟨_, _, by rw [List.length_append]; rfl⟩, HX8, HF8⟩
              case measure => simp [lenV]; omega
            · have HGE := Lib.hid (HGC.out.symm.trans (grd_end hlt))
              have hle : ¬ (cur.length : Int) < i := by omega
              have hci : cur.length = i := by omega
              have hcg : cur = G := HGE.out.symm
              obtain ⟨l', lc', e, hlc, hlm, hC⟩ := HOX.out.listsC
              simp only [Value.slice.injEq, true_and] at e
              obtain ⟨rfl, rfl⟩ := e
              rw [hcg] at hC
              have HCG := Lib.hid hC
              have HLW := Lib.hid (HLO.out.fut HFX.out)
              have HWW := Lib.hid (HWO.out.trans HFX.out)
              rw [hci]
              clear HNX HGC HGE hcg hC hlc hlm HOX HPC HX5 HF5 HLO HWO HFX HPL0 HGG HGR0
              go_wp2_with fail
              refine (HFU.out wr la lc HLW.out HQ.out.1 HQ.out.2).mono ?_
              rintro _ w6 ⟨lg, lgc, rfl, g1, g2, hG6, F6⟩
              have HG6 := Lib.hid hG6
              have HGQ := Lib.hid (And.intro g1 g2)
              have HC6 := Lib.hid (HCG.out.fut F6)
              have HW6 := Lib.hid (HWW.out.trans F6)
              clear hG6 g1 g2 F6 HFU
              go_wp2_with fail
              refine (HPY.out w6 lg lgc HG6.out HGQ.out.1 HGQ.out.2).mono ?_
              rintro _ _ ⟨rfl, rfl⟩
              clear HPY
              go_wp2_with fail
              refine (HLS.out _ _ _ _ _ HG6.out HC6.out).mono ?_
              rintro _ w7 ⟨rfl, F7⟩
              have HW7 := Lib.hid (HW6.out.trans F7)
              clear F7 HLS
              go_wp2_with fail
              refine (works_any _).mono ?_
              rintro _ w8 ⟨rfl, F8⟩
              have HW8 := Lib.hid (HW7.out.trans F8)
              clear F8
              go_wp2
              go_ret
              exact ⟨rfl, HW8.out⟩
end Go.Proofs.Ytpgifeaejjjjnaa
