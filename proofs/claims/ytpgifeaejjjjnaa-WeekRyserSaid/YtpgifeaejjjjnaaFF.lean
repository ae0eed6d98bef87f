/- the reference's filled 89: filled_any (flR) -/
import Derived.Test.YtpgifeaejjjjnaaFE
import Derived.Test.YtpgifeaejjjjnaaFD
import Derived.Test.YtpgifeaejjjjnaaEL
namespace Go.Proofs.Ytpgifeaejjjjnaa
open Go.RowKit Go.Sort
theorem boxed_cell {wr w5 : World} {v : Value} (F : Fut ((wr.alloc (.cells #[v] 28)).drew) w5) : w5.cell? ⟨wr.heap.size, 0, none⟩ = some v :=
  (RowKit.Below.cell F (p := ⟨wr.heap.size, 0, none⟩) (by show wr.heap.size < (wr.alloc _).heap.size; simp)).trans (alloc_cell wr v 28)
instance {w : World} : Inhabited (After w) := ⟨⟨w, Fut.rfl⟩⟩
abbrev FilP (r : Option (List (List Int))) (w : World) (e : Ending) (w' : World) : Prop := ∃ l lc, e = .returned (.tuple #[.slice l (r.getD []).length lc, .bool r.isSome]) ∧ (r.getD []).length ≤ lc ∧ lc ≤ 9223372036854775807 ∧ LstC w' l (r.getD []) ∧ Fut w w'
set_option maxRecDepth 100000 in
set_option maxHeartbeats 8000000 in
theorem filled_any (n : Nat) (h1 : 1 ≤ n) (hn : n ≤ 5) (cs : List (List Int)) (ca : Option Addr) (cc : Nat) (hcap : cs.length ≤ cc) (hcm : cc ≤ 9223372036854775807) : ∀ (t b : List (List Int)), cs.drop b.length = t → b.length + t.length = cs.length → Part n (b ++ t) → (∀ i, i < b.length → (lth b i).length = n) → ∀ (x : Option Addr) (xc : Nat) (w : World), LstC w x b → b.length ≤ xc → xc ≤ 9223372036854775807 → LstC w ca cs →
    Calls Try.prog 89 #[.int .i64 n, .slice x b.length xc, .slice ca cs.length cc] w (FilP (flR n t b) w) := by
  intro t
  induction t with
  | nil =>
    intro b hd hlen hP hb x xc w hB hx1 hx2 hC
    have hbx : (b.length : Int) = cs.length := by simp at hlen; omega
    have HB := Lib.hid hB
    clear hB hC hP hb hd hlen
    show Calls Try.prog 89 _ w (FilP (some b) w)
    go_enter Try.func89, Try.ntmps89
    go_wp2
    go_ret2
    exact ⟨x, xc, rfl, hx1, hx2, HB.out, Fut.rfl⟩
  | cons c t ih =>
    intro b hd hlen hP hb x xc w hB hx1 hx2 hC
    obtain ⟨i1, hi1, hy0, hy1, hy2⟩ := info_parts info28
    have hk : b.length < cs.length := by simp at hlen; omega
    have hcl : cs.length ≤ n := by have := hP.len; rw [List.length_append] at this; omega
    have hcd := lth_drop cs b.length hk
    rw [hd] at hcd
    obtain ⟨hci, hct⟩ := List.cons.inj hcd
    have hw : c.length ≤ n := by have := hP.wid b.length (by simp); rwa [lth_mid] at this
    have htl : t.length = cs.length - (b.length + 1) := by simp at hlen; omega
    obtain ⟨pb, po, pl, plc, ea, hpb, d1, hq1, hq2, hIc⟩ := hC b.length hk
    subst ea
    rw [← hci] at d1 hq1 hIc
    have HRW := Lib.hid (rows_C n hn (n - c.length) pl plc c w (by omega) hIc hq1 hq2)
    have HLN : Hid (∀ r, r ∈ ordT n (n - c.length) c → r.length = n) := Lib.hid (fun r hr => by
      obtain ⟨u, rfl, hu, _⟩ := (mem_ordT n _ _ _).1 hr
      rw [List.length_append]; omega)
    have HPR := Lib.hid (fun r (hr : r ∈ ordT n (n - c.length) c) (hf : frB n b t r = true) => part_row hP hr hf)
    have HLE : Hid ((ordT n (n - c.length) c).length ≤ 5000) := Lib.hid (Nat.le_trans (ordT_le n _ _) (by
      have a1 : n ^ (n - c.length) ≤ n ^ 5 := Nat.pow_le_pow_right h1 (by omega)
      have a2 : n ^ 5 ≤ 5 ^ 5 := Nat.pow_le_pow_left hn 5
      have a3 : (5 : Nat) ^ 5 = 3125 := by decide
      omega))
    have hsf : ∀ W, (Instr.sliceAt 22 (.slice (some ⟨pb, po, none⟩) cs.length cc) (some (.int .i64 ((b.length : Int) + 1))) none none).run Try.prog W = .ok (.slice (some ⟨pb, offK po (b.length + 1) cc, none⟩) (cs.length - (b.length + 1)) (cc - (b.length + 1))) W := fun W => slice_from22 pb po cs.length cc (b.length + 1) (by omega) hcap W
    have HDR : Hid (∀ W, Fut w W → LstC W (some ⟨pb, offK po (b.length + 1) cc, none⟩) t) := Lib.hid (fun W F => by
      have := (hC.fut F).drop (k := b.length + 1) hcap
      rwa [← hct] at this)
    have HIHr : Hid (∀ r, r ∈ ordT n (n - c.length) c → frB n b t r = true → ∀ (W : World) (g c8 : Nat), Fut w W → LstC W (some ⟨g, 0, none⟩) (b ++ [r]) → b.length + 1 ≤ c8 → c8 ≤ 9223372036854775807 → Calls Try.prog 89 #[.int .i64 n, .slice (some ⟨g, 0, none⟩) (b.length + 1) c8, .slice (some ⟨pb, po, none⟩) cs.length cc] W (FilP (flR n t (b ++ [r])) W)) := Lib.hid (fun r hr hf W g c8 F hW h8 h9 => by
      have hbl : (b ++ [r]).length = b.length + 1 := by simp
      have := ih (b ++ [r]) (by rw [hbl]; exact hct.symm) (by rw [hbl]; omega) (part_row hP hr hf) (fun i hi => by
        rw [hbl] at hi
        rcases Nat.lt_or_ge i b.length with hl | hl
        · rw [lth_app1 _ _ _ hl]; exact hb i hl
        · obtain rfl : i = b.length := by omega
          rw [lth_app2]
          obtain ⟨u, rfl, hu, _⟩ := (mem_ordT n _ _ _).1 hr
          rw [List.length_append]; omega) (some ⟨g, 0, none⟩) c8 W hW (by omega) h9 (hC.fut F)
      rwa [hbl] at this)
    have HCP := Lib.hid (fun W (F : Fut w W) => copied_any x xc b W (hB.fut F) (by omega) (fun k hk => by rw [hb k hk]; omega))
    have HM1 := Lib.hid (fun W (F : Fut w W) (d : Nat) (s : Int) => rmet_any x xc b d s W (hB.fut F).lst (by omega) (fun k hk => by rw [hb k hk]; omega))
    have htz : ∀ k, k < t.length → (lth t k).length ≤ 9223372036854775807 := fun k hk => by
      have h5 := hP.wid (b.length + (k + 1)) (by simp; omega)
      rw [lth_right] at h5
      have : lth (c :: t) (k + 1) = lth t k := rfl
      rw [this] at h5
      omega
    have HM2 : Hid (∀ W, Fut w W → ∀ (d : Nat) (s : Int), Calls Try.prog 70 #[.slice (some ⟨pb, offK po (b.length + 1) cc, none⟩) (cs.length - (b.length + 1)) (cc - (b.length + 1)), .int .i64 d, .int .i64 s] W fun e w' => e = .returned (.bool (metB t d s)) ∧ W = w') := Lib.hid (fun W F d s => by
      have := rmet_any (some ⟨pb, offK po (b.length + 1) cc, none⟩) (cc - (b.length + 1)) t d s W (HDR.out W F).lst (by omega) htz
      rwa [htl] at this)
    have HG0 : Hid (((ordT n (n - c.length) c).drop 0).findSome? (fun r => if frB n b t r = true then flR n t (b ++ [r]) else none) = flR n (c :: t) b) := Lib.hid flR_drop.symm
    have HF0 : Hid (∀ r, (fun r => if frB n b t r = true then flR n t (b ++ [r]) else none) r = if frB n b t r = true then flR n t (b ++ [r]) else none) := Lib.hid (fun _ => rfl)
    generalize (fun r => if frB n b t r = true then flR n t (b ++ [r]) else none) = FF at *
    generalize flR n (c :: t) b = G at *
    generalize ordT n (n - c.length) c = L at *
    have HBF := Lib.hid (fun d r => frB_succ d b t r)
    have HBZ := Lib.hid (fun r => frB_zero b t r)
    have hbx : (b.length : Int) < cs.length := by omega
    have hnx : (n : Int) ≤ 5 := by omega
    have hcx : (cs.length : Int) ≤ 5 := by omega
    have hox : (L.length : Int) ≤ 5000 := by have := HLE.out; omega
    clear ih hB hC hb hd hlen hP hcd hci hct htl hIc hw HDR htz HPR
    generalize cs.length - (b.length + 1) = tl at *
    generalize cc - (b.length + 1) = cap1 at *
    generalize offK po (b.length + 1) cc = off1 at *
    go_enter Try.func89, Try.ntmps89
    go_wp2_with fail
    refine HRW.out.mono ?_
    rintro _ w1 ⟨l, lc, rfl, hl1, hl2, hLC, F1⟩
    have HLC := Lib.hid hLC
    have HF1 := Lib.hid F1
    clear hLC F1 HRW
    go_wp2_with fail
    go_loopw [10] (fun kv wx => ∃ k : Nat, k ≤ L.length ∧ kv = .int .i64 k ∧ Hid ((L.drop k).findSome? FF = G) ∧ Hid (Fut w1 wx)) (fun kv _ => L.length - (intOf kv).toNat)
    case atStart => exact ⟨0, Nat.zero_le _, rfl, HG0, Lib.hid Fut.rfl⟩
    case round =>
      obtain ⟨k, hkl, rfl, HG, HFX⟩ := hrel
      obtain ⟨wo, hwo⟩ : ∃ wo, wo = wr := ⟨_, rfl⟩
      subst hwo
      by_cases hlt : k < L.length
      · have hkx : (k : Int) < L.length := by omega
        have hmem : lth L k ∈ L := by rw [lth_eq, List.getElem?_eq_getElem hlt]; exact List.getElem_mem _
        have hrl := HLN.out _ hmem
        have HRL := Lib.hid hrl
        have HMEM := Lib.hid hmem
        have hgs := HG.out
        rw [fs_step hlt, HF0.out] at hgs
        have HGS := Lib.hid hgs
        obtain ⟨gb, go, al, ac, el, hgb, d2, hr1, hr2, hIr⟩ := (HLC.out.fut HFX.out) k hlt
        subst el
        rw [hrl] at d2 hr1
        have HIR := Lib.hid hIr
        have HD2 := Lib.hid d2
        clear hmem hgs hIr d2 hrl
        generalize lth L k = r at *
        have hfz := HBZ.out r
        go_wp2_with fail
        go_loopw [11, 12] (fun fv dv wx => ∃ d : Nat, d ≤ n ∧ fv = .bool (frB d b t r) ∧ dv = .int .i64 d ∧ Hid (Fut wo wx)) (fun _ dv _ => n - (intOf dv).toNat)
        case atStart => exact ⟨0, Nat.zero_le _, by rw [hfz], rfl, Lib.hid Fut.rfl⟩
        case round =>
          obtain ⟨d, hdn, rfl, rfl, HFI⟩ := hrel
          by_cases hdl : d < n
          · have hdx : (d : Int) < n := by omega
            have HFD := Lib.hid (HBF.out d r)
            obtain ⟨rb, ro, er, hrb, hcr⟩ := HIR.out d (by rw [HRL.out]; exact hdl)
            subst er
            have HFW := Lib.hid ((HF1.out.trans HFX.out).trans HFI.out)
            have c1 : wr.cell? ⟨gb, go + k, none⟩ = some (.slice (some ⟨rb, ro, none⟩) n ac) := (RowKit.Below.cell HFI.out (p := ⟨gb, go + k, none⟩) hgb).trans HD2.out
            have c2 : wr.cell? ⟨rb, ro + d, none⟩ = some (.int .i64 (nth r d)) := (RowKit.Below.cell HFI.out (p := ⟨rb, ro + d, none⟩) hrb).trans hcr
            have hkx2 : (k : Int) < L.length := by omega
            generalize nth r d = st at *
            have b1 : ∀ p : After wr, p.w'.cell? ⟨gb, go + k, none⟩ = some (.slice (some ⟨rb, ro, none⟩) n ac) := fun p => (RowKit.Below.cell p.F (p := ⟨gb, go + k, none⟩) (World.block_lt_of_cell? _ _ c1)).trans c1
            have b2 : ∀ p : After wr, p.w'.cell? ⟨rb, ro + d, none⟩ = some (.int .i64 st) := fun p => (RowKit.Below.cell p.F (p := ⟨rb, ro + d, none⟩) (World.block_lt_of_cell? _ _ c2)).trans c2
            have HA1 := Lib.hid (fun p : After wr => HM1.out p.w' (HFW.out.trans p.F) d st)
            have HA2 := Lib.hid (fun p : After wr => HM2.out p.w' (HFW.out.trans p.F) d st)
            clear hcr c1 c2
            cases hfb : frB d b t r
            · rw [hfb, Bool.false_and] at HFD
              clear hfb
              go_wp2_with fail
              refine region_fut (by kernel_rfl) (by kernel_rfl) ?_
              repeat (go_big_quiet_step (fail))
              refine wpQuiet_nil ?_
              intro w10 hw'
              have HF10 := Lib.hid (HFI.out.trans (after_fut hw'))
              clear hw' b1 b2
              go_wp2
              go_round
              case rel => exact ⟨d + 1, by omega, by rw [HFD.out], by go_num, HF10⟩
              case measure => simp [intOf]; omega
            · rw [hfb, Bool.true_and] at HFD
              clear hfb
              cases hm : metB b d st
              · rw [hm] at HA1 HFD
                clear hm
                generalize metB t d st = mt at *
                go_wp2_with fail
                refine region_fut (by kernel_rfl) (by kernel_rfl) ?_
                repeat (go_big_quiet_step (first | (with_reducible (go_at_call 70; rename_i p; exact after_same (HA1.out p))) | (go_at_call 70; rename_i p; exact after_same (HA2.out p))))
                refine wpQuiet_nil ?_
                intro w10 hw'
                have HF10 := Lib.hid (HFI.out.trans (after_fut hw'))
                clear hw' b1 b2
                go_wp2
                go_round
                case rel => exact ⟨d + 1, by omega, by rw [HFD.out]; rfl, by go_num, HF10⟩
                case measure => simp [intOf]; omega
              · rw [hm] at HA1 HFD
                clear hm
                go_wp2_with fail
                refine region_fut (by kernel_rfl) (by kernel_rfl) ?_
                repeat (go_big_quiet_step (first | (go_at_call 70; rename_i p; exact after_same (HA1.out p))))
                refine wpQuiet_nil ?_
                intro w10 hw'
                have HF10 := Lib.hid (HFI.out.trans (after_fut hw'))
                clear hw' b1 b2
                go_wp2
                go_round
                case rel => exact ⟨d + 1, by omega, by rw [HFD.out]; rfl, by go_num, HF10⟩
                case measure => simp [intOf]; omega
          · obtain rfl : d = n := by omega
            have HFW := Lib.hid ((HF1.out.trans HFX.out).trans HFI.out)
            have c1 : wr.cell? ⟨gb, go + k, none⟩ = some (.slice al d ac) := (RowKit.Below.cell HFI.out (p := ⟨gb, go + k, none⟩) hgb).trans HD2.out
            have hgw : gb < wr.heap.size := World.block_lt_of_cell? _ _ c1
            cases hfb : frB d b t r
            · rw [hfb] at HGS
              have HGN : Hid ((L.drop (k + 1)).findSome? FF = G) := HGS
              clear hfb c1
              go_wp2
              go_round
              case rel => exact ⟨k + 1, by omega, by go_num, HGN, Lib.hid (HFX.out.trans HFI.out)⟩
              case measure => simp [intOf]; omega
            · rw [hfb] at HGS
              have lapp : ∀ {W0 W W' : World} {B : Nat} {v : Value} {vals : List Value} {av : Option Addr} {ac9 : Nat}, W0.ownsRow B 28 1 v b.length vals → Elems W0 0 vals b → Fut W0 W → W'.ownsRow B 28 1 (.slice av (b.length + 1) ac9) (b.length + 1) (vals ++ [.slice al d ac]) → W.grownBy W' v.ownBlock → Fut wr W' → ∃ g, av = some ⟨g, 0, none⟩ ∧ LstC W' (some ⟨g, 0, none⟩) (b ++ [r]) ∧ b.length + 1 ≤ ac9 ∧ ac9 ≤ 9223372036854775807 := by
                intro W0 W W' B v vals av ac9 h1 h2 F hown hg Fw
                obtain ⟨g, cg, e, _⟩ := hown.form (by omega)
                injection e with e1 e2 e3
                subst e1; subst e3
                have hb9 := hown.2
                have hbd : b.length + 1 ≤ ac9 ∧ ac9 ≤ 9223372036854775807 := by
                  rcases hb9 with ⟨q, _⟩ | ⟨_, _, _, e, _, _, q1, q2, _⟩
                  · cases q
                  · injection e with _ _ e3
                    subst e3
                    unfold maxLen at q2
                    exact ⟨q1, by omega⟩
                refine ⟨g, rfl, ?_, hbd.1, hbd.2⟩
                have hrl := HRL.out
                refine LstC.app (row_fut h1 F) (h2.fut F) ((HIR.out.fut HFI.out).fut Fw) (by rw [hrl]; exact hr1) hr2 (by rw [hrl]; exact hown) hg
              have HRC0 := HIHr.out r HMEM.out hfb
              clear hfb
              cases hz : flR d t (b ++ [r]) with
              | none =>
                rw [hz] at HGS HRC0
                have HGN : Hid ((L.drop (k + 1)).findSome? FF = G) := HGS
                have HRC : Hid (∀ (W : World) (g c8 : Nat), Fut wr W → LstC W (some ⟨g, 0, none⟩) (b ++ [r]) → b.length + 1 ≤ c8 → c8 ≤ 9223372036854775807 → Calls Try.prog 89 #[.int .i64 d, .slice (some ⟨g, 0, none⟩) (b.length + 1) c8, .slice (some ⟨pb, po, none⟩) cs.length cc] W fun e w' => ∃ l lc, e = .returned (.tuple #[.slice l 0 lc, .bool false]) ∧ True ∧ True ∧ True ∧ Fut W w') := Lib.hid (fun W g c8 F q1 q2 q3 => (HRC0 W g c8 (HFW.out.trans F) q1 q2 q3).mono fun e w' ⟨l, lc, he, _, _, _, F⟩ => ⟨l, lc, he, trivial, trivial, trivial, F⟩)
                clear hz HRC0
                go_wp2_with fail
                go_region_held3 (fun w' => w'.cell? ⟨gb, go + k, none⟩ = some (.slice al d ac)) (first | assumption | go_keep)
                (first
                  | (go_at_call 116; (first | (refine (HCP.out wr.drew (HFW.out.trans (Fut.drewN wr 1))).mono ?_; rintro _ w5 ⟨v5, rfl, hX5, F5⟩; have mkA : True := trivial; have FA5 : Fut wr w5 := Fut.trans (Fut.drewN wr 1) F5; have hWs : wr.heap.size ≤ wr.drew.heap.size := Nat.le_refl _) | (refine (HCP.out (wr.alloc (.cells #[.slice al d ac] 28)).drew (HFW.out.trans (below_drewN (Fut.alloc _ _) 1))).mono ?_; rintro _ w5 ⟨v5, rfl, hX5, F5⟩; have mkB : True := trivial; have FA5 : Fut wr w5 := Fut.trans (below_drewN (Fut.alloc _ _) 1) F5; have hWs : wr.heap.size ≤ (wr.alloc (.cells #[.slice al d ac] 28)).drew.heap.size := RowKit.Below.size (below_drewN (Fut.alloc wr (.cells #[.slice al d ac] 28)) 1))); have y5 : w5.cell? ⟨gb, go + k, none⟩ = some (.slice al d ac) := (RowKit.Below.cell FA5 (p := ⟨gb, go + k, none⟩) hgw).trans c1; obtain ⟨l5, c5, rfl, _, _, _⟩ := hX5.listsC; obtain ⟨vals5, hrow5, hel5⟩ := hX5.base hWs)
                  | (refine step_append_src (by rfl) _ _ _ (by rfl) wr.heap.size 28 i1 (.slice none 0 0) 24 Try.underlying22 hi1 hy0 hy1 hy2 rfl (.slice l5 b.length c5) b.length vals5 (by rfl) (row_fut hrow5 (Fut.alloc _ _)) (.slice (some ⟨w5.heap.size, 0, none⟩) 1 1) 1 [.slice al d ac] (by rfl) (.inr ⟨⟨w5.heap.size, 0, none⟩, 1, rfl, rfl, cell_one (by simp [go_sem]), by simp [Value.oneCell']⟩) (by unfold maxLen; omega) (by omega) (by have h7 := RowKit.Below.size FA5; first | omega | (simp only [World.size_alloc]; omega)) ?_; intro av9 ac9 w9 hown9 hgrow9; have F9 : Fut wr w9 := RowKit.Below.grown (FA5.trans (Fut.alloc w5 (.cells #[.slice al d ac] 28))) hgrow9 (RowKit.Below.size (FA5.trans (Fut.alloc w5 (.cells #[.slice al d ac] 28)))) (fun q hq => (World.ownsRow.lt hrow5 q hq).1); have y9 : w9.cell? ⟨gb, go + k, none⟩ = some (.slice al d ac) := (RowKit.Below.cell F9 (p := ⟨gb, go + k, none⟩) hgw).trans c1; have hL9 := lapp hrow5 hel5 (Fut.alloc w5 (.cells #[.slice al d ac] 28)) hown9 hgrow9 F9; obtain ⟨g9, rfl, hL9, hc91, hc92⟩ := hL9)
                  | (refine step_append_src (by rfl) _ _ _ (by rfl) wr.heap.size 28 i1 (.slice none 0 0) 24 Try.underlying22 hi1 hy0 hy1 hy2 rfl (.slice l5 b.length c5) b.length vals5 (by rfl) (hrow5) (.slice (some ⟨wr.heap.size, 0, none⟩) 1 1) 1 [.slice al d ac] (by rfl) (.inr ⟨⟨wr.heap.size, 0, none⟩, 1, rfl, rfl, cell_one (boxed_cell F5), by simp [Value.oneCell']⟩) (by unfold maxLen; omega) (by omega) (by have h7 := RowKit.Below.size FA5; first | omega | (simp only [World.size_alloc]; omega)) ?_; intro av9 ac9 w9 hown9 hgrow9; have F9 : Fut wr w9 := RowKit.Below.grown (FA5) hgrow9 (RowKit.Below.size (FA5)) (fun q hq => (World.ownsRow.lt hrow5 q hq).1); have y9 : w9.cell? ⟨gb, go + k, none⟩ = some (.slice al d ac) := (RowKit.Below.cell F9 (p := ⟨gb, go + k, none⟩) hgw).trans c1; have hL9 := lapp hrow5 hel5 Fut.rfl hown9 hgrow9 F9; obtain ⟨g9, rfl, hL9, hc91, hc92⟩ := hL9)
                  | (go_at_call 89; refine (HRC.out w9 g9 ac9 F9 hL9 hc91 hc92).mono ?_; rintro _ w10 ⟨l10, lc10, rfl, z1, z2, hL10, F10⟩; have y10 : w10.cell? ⟨gb, go + k, none⟩ = some (.slice al d ac) := (RowKit.Below.cell (F9.trans F10) (p := ⟨gb, go + k, none⟩) hgw).trans c1))
                all_goals
                  have HF10 := Lib.hid (F9.trans F10)
                  clear hown9 hgrow9 y9 y10 hL9 hL10 z1 z2 F9 F10
                  go_wp2
                  go_round
                  case rel => exact ⟨k + 1, by omega, by go_num, HGN, Lib.hid ((HFX.out.trans HFI.out).trans HF10.out)⟩
                  case measure => simp [intOf]; omega
              | some z =>
                rw [hz] at HGS HRC0
                have HGZ : Hid (some z = G) := HGS
                have HRC : Hid (∀ (W : World) (g c8 : Nat), Fut wr W → LstC W (some ⟨g, 0, none⟩) (b ++ [r]) → b.length + 1 ≤ c8 → c8 ≤ 9223372036854775807 → Calls Try.prog 89 #[.int .i64 d, .slice (some ⟨g, 0, none⟩) (b.length + 1) c8, .slice (some ⟨pb, po, none⟩) cs.length cc] W fun e w' => ∃ l lc, e = .returned (.tuple #[.slice l z.length lc, .bool true]) ∧ z.length ≤ lc ∧ lc ≤ 9223372036854775807 ∧ LstC w' l z ∧ Fut W w') := Lib.hid (fun W g c8 F q1 q2 q3 => HRC0 W g c8 (HFW.out.trans F) q1 q2 q3)
                clear hz HRC0
                go_wp2_with fail
                go_region_held3 (fun w' => w'.cell? ⟨gb, go + k, none⟩ = some (.slice al d ac)) (first | assumption | go_keep)
                (first
                  | (go_at_call 116; (first | (refine (HCP.out wr.drew (HFW.out.trans (Fut.drewN wr 1))).mono ?_; rintro _ w5 ⟨v5, rfl, hX5, F5⟩; have mkA : True := trivial; have FA5 : Fut wr w5 := Fut.trans (Fut.drewN wr 1) F5; have hWs : wr.heap.size ≤ wr.drew.heap.size := Nat.le_refl _) | (refine (HCP.out (wr.alloc (.cells #[.slice al d ac] 28)).drew (HFW.out.trans (below_drewN (Fut.alloc _ _) 1))).mono ?_; rintro _ w5 ⟨v5, rfl, hX5, F5⟩; have mkB : True := trivial; have FA5 : Fut wr w5 := Fut.trans (below_drewN (Fut.alloc _ _) 1) F5; have hWs : wr.heap.size ≤ (wr.alloc (.cells #[.slice al d ac] 28)).drew.heap.size := RowKit.Below.size (below_drewN (Fut.alloc wr (.cells #[.slice al d ac] 28)) 1))); have y5 : w5.cell? ⟨gb, go + k, none⟩ = some (.slice al d ac) := (RowKit.Below.cell FA5 (p := ⟨gb, go + k, none⟩) hgw).trans c1; obtain ⟨l5, c5, rfl, _, _, _⟩ := hX5.listsC; obtain ⟨vals5, hrow5, hel5⟩ := hX5.base hWs)
                  | (refine step_append_src (by rfl) _ _ _ (by rfl) wr.heap.size 28 i1 (.slice none 0 0) 24 Try.underlying22 hi1 hy0 hy1 hy2 rfl (.slice l5 b.length c5) b.length vals5 (by rfl) (row_fut hrow5 (Fut.alloc _ _)) (.slice (some ⟨w5.heap.size, 0, none⟩) 1 1) 1 [.slice al d ac] (by rfl) (.inr ⟨⟨w5.heap.size, 0, none⟩, 1, rfl, rfl, cell_one (by simp [go_sem]), by simp [Value.oneCell']⟩) (by unfold maxLen; omega) (by omega) (by have h7 := RowKit.Below.size FA5; first | omega | (simp only [World.size_alloc]; omega)) ?_; intro av9 ac9 w9 hown9 hgrow9; have F9 : Fut wr w9 := RowKit.Below.grown (FA5.trans (Fut.alloc w5 (.cells #[.slice al d ac] 28))) hgrow9 (RowKit.Below.size (FA5.trans (Fut.alloc w5 (.cells #[.slice al d ac] 28)))) (fun q hq => (World.ownsRow.lt hrow5 q hq).1); have y9 : w9.cell? ⟨gb, go + k, none⟩ = some (.slice al d ac) := (RowKit.Below.cell F9 (p := ⟨gb, go + k, none⟩) hgw).trans c1; have hL9 := lapp hrow5 hel5 (Fut.alloc w5 (.cells #[.slice al d ac] 28)) hown9 hgrow9 F9; obtain ⟨g9, rfl, hL9, hc91, hc92⟩ := hL9)
                  | (refine step_append_src (by rfl) _ _ _ (by rfl) wr.heap.size 28 i1 (.slice none 0 0) 24 Try.underlying22 hi1 hy0 hy1 hy2 rfl (.slice l5 b.length c5) b.length vals5 (by rfl) (hrow5) (.slice (some ⟨wr.heap.size, 0, none⟩) 1 1) 1 [.slice al d ac] (by rfl) (.inr ⟨⟨wr.heap.size, 0, none⟩, 1, rfl, rfl, cell_one (boxed_cell F5), by simp [Value.oneCell']⟩) (by unfold maxLen; omega) (by omega) (by have h7 := RowKit.Below.size FA5; first | omega | (simp only [World.size_alloc]; omega)) ?_; intro av9 ac9 w9 hown9 hgrow9; have F9 : Fut wr w9 := RowKit.Below.grown (FA5) hgrow9 (RowKit.Below.size (FA5)) (fun q hq => (World.ownsRow.lt hrow5 q hq).1); have y9 : w9.cell? ⟨gb, go + k, none⟩ = some (.slice al d ac) := (RowKit.Below.cell F9 (p := ⟨gb, go + k, none⟩) hgw).trans c1; have hL9 := lapp hrow5 hel5 Fut.rfl hown9 hgrow9 F9; obtain ⟨g9, rfl, hL9, hc91, hc92⟩ := hL9)
                  | (go_at_call 89; refine (HRC.out w9 g9 ac9 F9 hL9 hc91 hc92).mono ?_; rintro _ w10 ⟨l10, lc10, rfl, z1, z2, hL10, F10⟩; have y10 : w10.cell? ⟨gb, go + k, none⟩ = some (.slice al d ac) := (RowKit.Below.cell (F9.trans F10) (p := ⟨gb, go + k, none⟩) hgw).trans c1))
                all_goals
                  have HF10 := Lib.hid (F9.trans F10)
                  have HL10 := Lib.hid hL10
                  have HZZ := Lib.hid (And.intro z1 z2)
                  clear hown9 hgrow9 y9 y10 hL9 hL10 z1 z2 F9 F10
                  have hzg := HGZ.out
                  subst hzg
                  go_wp2
                  go_ret2
                  exact ⟨l10, lc10, rfl, HZZ.out.1, HZZ.out.2, HL10.out, HFW.out.trans HF10.out⟩
      · obtain rfl : k = L.length := by omega
        have hg := HG.out
        rw [List.drop_length] at hg
        have hg : none = G := hg
        subst hg
        go_wp2
        go_ret2
        exact ⟨none, 0, rfl, Nat.le_refl _, by omega, fun j hj => absurd hj (by simp), HF1.out.trans HFX.out⟩
end Go.Proofs.Ytpgifeaejjjjnaa
