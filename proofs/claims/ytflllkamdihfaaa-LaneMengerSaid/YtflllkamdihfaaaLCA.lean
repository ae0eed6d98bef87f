/- the reference's ways 72: rways_own -/
import Derived.Test.YtflllkamdihfaaaLBB
import Derived.Test.YtflllkamdihfaaaLMC
import Derived.Test.YtflllkamdihfaaaLBG
namespace Go.Proofs.Ytflllkamdihfaaa
open Go.RowKit Go.Sort
theorem rtL_le (c m : Int) (S : List Int) (tz : Int) : ∀ (f : Nat) (k : Int), (rtL (stL c m S) tz f k).length + 1 ≤ 2 ^ f
  | 0, k => by simp [rtL]
  | f + 1, k => by
    unfold rtL
    have hp : 1 ≤ 2 ^ f := Nat.one_le_two_pow
    have h1 := flat_le (g := fun y => (rtL (stL c m S) tz f y).map (k :: ·)) (b := 2 ^ f - 1) (stL c m S k) (fun x _ => by rw [List.length_map]; have := rtL_le c m S tz f x; omega)
    have h2 := stL_len c m S k
    have h3 := Nat.mul_le_mul_right (2 ^ f - 1) h2
    have h4 : (if k = tz then [[k]] else []).length ≤ 1 := by split <;> simp
    rw [List.length_append, Nat.pow_succ]
    omega
theorem row_some {w : World} {B n ac : Nat} {e : TypeId} {av : Option Addr} {xs : List Value} (h : w.ownsRow B e 1 (.slice av n ac) n xs) (hn : 0 < n) : ∃ g, av = some ⟨g, 0, none⟩ := by
  obtain ⟨g, cg, e, _⟩ := h.form hn
  injection e with e1
  exact ⟨g, e1⟩
theorem BoxP.kept {w w' : World} {B : Nat} {r c : Int} {a : Option Addr} {n cap : Nat} {row : Option Nat} (h : BoxP w B r c a n cap) (g : w.grownBy w' row) (hne : row ≠ some B) : BoxP w' B r c a n cap := by
  have k := g.block B h.lt (fun e => hne e.symm)
  exact ⟨Nat.lt_of_lt_of_le h.lt g.size, (World.cell?_of_block (a := ⟨B, 0, none⟩) k).trans h.c0, (World.cell?_of_block (a := ⟨B, 1, none⟩) k).trans h.c1, (World.cell?_of_block (a := ⟨B, 2, none⟩) k).trans h.c2⟩
theorem OwnX.src {w : World} {B : Nat} {v : Value} {zss : List (List Int)} (h : OwnX w B v zss) : ∃ vals, Elems w 0 vals zss ∧ ((v = .slice none 0 0 ∧ zss.length = 0 ∧ vals = []) ∨ ∃ ad c, v = .slice (some ad) zss.length c ∧ vals.length = zss.length * 1 ∧ (∀ j x, vals[j]? = some x → w.cell? (ad.add j) = some x) ∧ ∀ x ∈ vals, x.oneCell' = true) := by
  obtain ⟨vals, h1, h2⟩ := h
  refine ⟨vals, h2, ?_⟩
  have h1' := h1
  rcases h1.2 with ⟨rfl, h0⟩ | ⟨g, cap, cur, rfl, _⟩
  · exact .inl ⟨rfl, h0, List.length_eq_zero_iff.1 (by have := h2.1; omega)⟩
  · exact .inr ⟨_, cap, rfl, by have := h2.1; omega, World.ownsRow.cells h1' (g := g) rfl, h2.cells⟩
theorem OwnX.base {w : World} {B B' : Nat} {v : Value} {zss : List (List Int)} (h : OwnX w B v zss) (hB : B' ≤ B) : OwnX w B' v zss := by
  obtain ⟨vals, h1, h2⟩ := h
  exact ⟨vals, row_base h1 hB, h2⟩
/-- what the reference has found with the numbers before this one. -/
def rwS (c m : Int) (S : List Int) (tz : Int) (f : Nat) (b : List Int) (i : Nat) : List (List Int) := ((rngI (lst b + 1) i).filter (rstE c (lst b))).flatMap fun n => rwL c m S tz f (b ++ [n])
theorem rwS_zero (c m : Int) (S : List Int) (tz : Int) (f : Nat) (b : List Int) : rwS c m S tz f b 0 = [] := by simp [rwS, rngI]
theorem rng_succ (lo : Int) (n : Nat) : rngI lo (n + 1) = rngI lo n ++ [lo + (n : Int)] := by
  unfold rngI
  rw [List.range_succ, List.map_append]; rfl
theorem rwS_succ (c m : Int) (S : List Int) (tz : Int) (f : Nat) (b : List Int) (i : Nat) : rwS c m S tz f b (i + 1) = rwS c m S tz f b i ++ (if rstE c (lst b) (lst b + 1 + (i : Int)) = true then rwL c m S tz f (b ++ [lst b + 1 + (i : Int)]) else []) := by
  unfold rwS
  rw [rng_succ, List.filter_append, List.flatMap_append]
  congr 1
  by_cases h : rstE c (lst b) (lst b + 1 + (i : Int)) = true
  · rw [if_pos h, List.filter_cons_of_pos h]; simp
  · rw [if_neg h, List.filter_cons_of_neg h]; rfl
theorem rwS_pre (c m : Int) (S : List Int) (tz : Int) (f : Nat) (b : List Int) : ∀ (d i : Nat), rwS c m S tz f b i <+: rwS c m S tz f b (i + d)
  | 0, i => List.prefix_refl _
  | d + 1, i => (rwS_pre c m S tz f b d i).trans (by rw [← Nat.add_assoc, rwS_succ]; exact List.prefix_append _ _)
set_option maxRecDepth 100000 in
set_option maxHeartbeats 8000000 in
theorem rways_own (r c m : Int) (hs : Side r c m) (a : Option Addr) (cap : Nat) (S : List Int) (hSl : S.length ≤ 1000) (tz : Int) : ∀ (f : Nat) (begun : List Int) (ba : Option Addr) (bc : Nat) (w : World), 0 < begun.length → begun.length + f ≤ 18 → 0 ≤ lst begun → lst begun < m → m - lst begun ≤ f → Owns w 0 (.slice ba begun.length bc) begun → IntsAt w a S →
    Calls Try.prog 72 #[parV r c a S.length cap, .slice ba begun.length bc, .int .i64 tz] w fun e w' => ∃ v, e = .returned v ∧ OwnX w' w.heap.size v (rwL c m S tz f begun) ∧ Fut w w' := by
  intro f
  induction f with
  | zero => intro begun ba bc w _ _ _ _ h; omega
  | succ f ih =>
    intro begun ba bc w hb0 hbf hx0 hx1 hxf hO hS
    obtain ⟨i0, hi0, hz0, hz1, hz2⟩ := info_parts info3
    obtain ⟨i1, hi1, hy0, hy1, hy2⟩ := info_parts info22
    obtain ⟨_, _, e', hc1, hc2, hI⟩ := hO.form
    simp only [Value.slice.injEq, true_and] at e'
    obtain ⟨rfl, rfl⟩ := e'
    have hmm := side_m hs
    have hm5 := hs.2.2.2.2
    have hB := BoxR.new w r c a S.length cap
    have hFA : Fut w (w.alloc (.cells #[.int .i64 r, .int .i64 c, .slice a S.length cap] 29)) := Fut.alloc _ _
    have hwm : IntKind.i64.wrap (r * c) = m := by rw [hm5]; exact IntWalk.i64_in _ ⟨by omega, by omega⟩
    have hwr : IntKind.i64.wrap ((begun.length : Int) - 1) = ((begun.length - 1 : Nat) : Int) := by rw [IntWalk.i64_in _ ⟨by omega, by omega⟩]; omega
    have hwlx : ((begun.length - 1 : Nat) : Int) < begun.length := by omega
    have hwln : (0 : Int) ≤ ((begun.length - 1 : Nat) : Int) := by omega
    obtain ⟨bb, bo, eba, hbb, cx⟩ := hI (begun.length - 1) (by omega)
    subst eba
    obtain ⟨x, hxe⟩ : ∃ x, x = lst begun := ⟨_, rfl⟩
    have cx1 : (w.alloc (.cells #[.int .i64 r, .int .i64 c, .slice a S.length cap] 29)).cell? ⟨bb, bo + (begun.length - 1), none⟩ = some (.int .i64 x) := by
      rw [hxe]; exact (RowKit.Below.cell hFA (p := ⟨bb, bo + (begun.length - 1), none⟩) hbb).trans cx
    have HRW : Hid (rwL c m S tz (f + 1) begun = if S.contains x = true then [] else (if x = tz then [begun] else []) ++ rwS c m S tz f begun (m - 1 - x).toNat) := Lib.hid (by rw [hxe]; rfl)
    have HLE : Hid ((rwL c m S tz (f + 1) begun).length ≤ 262144) := Lib.hid (by
      have e : begun = begun.dropLast ++ [lst begun] := by
        have hne : begun ≠ [] := by intro e; rw [e] at hb0; simp at hb0
        have h2 := List.dropLast_concat_getLast hne
        rw [List.getLast_eq_getElem] at h2
        unfold lst
        rw [nth_eq, List.getElem?_eq_getElem (show begun.length - 1 < begun.length by omega)]
        exact h2.symm
      rw [e, rw_eq hs S tz (f + 1) _ _ (by rw [← hxe] at hx0 ⊢; exact hx0)]
      have h3 := rtL_le c m S tz (f + 1) (lst begun)
      have h4 : 2 ^ (f + 1) ≤ 2 ^ 18 := Nat.pow_le_pow_right (by decide) (by omega)
      have h5 : 2 ^ 18 = 262144 := by decide
      split
      · simp
      · rw [List.length_map]; omega)
    rw [← hxe] at hx0 hx1 hxf
    have HSS := Lib.hid (fun i => rwS_succ c m S tz f begun i)
    rw [← hxe] at HSS
    have HSP := Lib.hid (fun i (hi : i ≤ (m - 1 - x).toNat) => by
      have := rwS_pre c m S tz f begun ((m - 1 - x).toNat - i) i
      rwa [Nat.add_sub_cancel' hi] at this)
    have HS0 := Lib.hid (rwS_zero c m S tz f begun)
    have HRH := Lib.hid (fun W (k : Fut w W) => rhas_any a cap S x W (hS.fut k) hSl)
    have HST := Lib.hid (fun y (hy : 0 ≤ y ∧ y ≤ 16) W => rstep_any r c m hs a S.length cap x y ⟨hx0, by omega⟩ hy W)
    have HIH : Hid (∀ y, x < y → y < m → ∀ av ac W, Fut w W → Owns W 0 (.slice av (begun ++ [y]).length ac) (begun ++ [y]) → Calls Try.prog 72 #[parV r c a S.length cap, .slice av (begun ++ [y]).length ac, .int .i64 tz] W fun e w' => ∃ v, e = .returned v ∧ OwnX w' W.heap.size v (rwL c m S tz f (begun ++ [y])) ∧ Fut W w') := Lib.hid (fun y hy1 hy2 av ac W F hO2 => ih (begun ++ [y]) av ac W (by simp) (by rw [List.length_append, List.length_singleton]; omega) (by rw [lst_app]; omega) (by rw [lst_app]; exact hy2) (by rw [lst_app]; omega) hO2 (hS.fut F))
    have HO := Lib.hid hO
    have HBL : Hid (0 < begun.length ∧ begun.length ≤ 18) := Lib.hid ⟨hb0, by omega⟩
    have HMM := Lib.hid hmm
    have HX01 := Lib.hid (And.intro hx0 (And.intro hx1 hxf))
    have HB := Lib.hid hB
    have HFA := Lib.hid hFA
    generalize hR : rwL c m S tz (f + 1) begun = R at *
    clear hR hO hS hI hb0 hbf hc1 hc2 hbb cx hs ih hmm hm5 hSl hxe
    obtain ⟨_, p0, p1, p2⟩ := hB
    go_enter Try.func72, Try.ntmps72
    go_wp2_with fail
    generalize w.alloc (.cells #[.int .i64 r, .int .i64 c, .slice a S.length cap] 29) = W1 at *
    refine (HRH.out _ HFA.out).mono ?_
    rintro _ _ ⟨rfl, rfl⟩
    cases hsh : S.contains x
    · rw [hsh] at HRW
      simp only [Bool.false_eq_true, if_false] at HRW
      clear hsh
      obtain ⟨L0, HL0⟩ : ∃ L0, Hid (L0 = if x = tz then [begun] else []) := ⟨_, Lib.hid rfl⟩
      have HRW2 : Hid (R = L0 ++ rwS c m S tz f begun (m - 1 - x).toNat) := Lib.hid (by rw [HL0.out]; exact HRW.out)
      have HL1 : Hid (L0.length ≤ 1) := Lib.hid (by rw [HL0.out]; split <;> simp)
      clear HRW p0 p1 p2
      go_upto_if 22 with fail
      go_cut [8] from 22 to 27 (fun s8 wx => Hid (OwnX wx (w.heap.size + 1) s8 L0) ∧ Hid (Fut w wx) ∧ Hid (BoxP wx w.heap.size r c a S.length cap))
      case first =>
        by_cases hx : x = tz
        · subst hx
          obtain rfl : L0 = [begun] := by rw [HL0.out, if_pos rfl]
          have hO1 := HO.out.fut (HFA.out.trans (Fut.alloc W1 (.cells #[.slice (some ⟨bb, bo, none⟩) begun.length bc] 22)))
          have HO1 := Lib.hid hO1
          have HZ : Hid (w.heap.size + 1 ≤ (W1.alloc (.cells #[.slice (some ⟨bb, bo, none⟩) begun.length bc] 22)).heap.size) := Lib.hid (Nat.le_trans HB.out.lt (RowKit.Below.size (Fut.alloc _ _)))
          clear hO1
          go_wp2_with (at_builtin; refine wpList_append_lies _ rfl _ _ 35 rfl (w.heap.size + 1) 22 i1 (.slice none 0 0) 1 24 Try.underlying35 hi1 hy0 hy1 hy2 rfl (by decide) _ 0 [] rfl (World.ownsRow_nil _ _ _ _) ⟨W1.heap.size, 0, none⟩ 1 1 [.slice (some ⟨bb, bo, none⟩) begun.length bc] rfl rfl (cell_one (by simp [go_sem])) (by simp [Value.oneCell']) (by omega) (by unfold maxLen; omega) (by omega) HZ.out _ rfl ?_)
          intro g8 c8 w8 hown8 hgrow8 _ _
          have F8 : Fut W1 w8 := (Fut.alloc W1 (.cells #[.slice (some ⟨bb, bo, none⟩) begun.length bc] 22)).trans (fut_grown hgrow8)
          have HX8 : Hid (OwnX w8 (w.heap.size + 1) (.slice (some ⟨g8, 0, none⟩) 1 c8) [begun]) := Lib.hid ⟨_, hown8, rfl, fun j hj => by
            obtain rfl : j = 0 := by simp at hj; exact hj
            exact ⟨_, rfl, HO1.out.fut (fut_grown hgrow8)⟩⟩
          have HF8 := Lib.hid (HFA.out.trans F8)
          have HB8 := Lib.hid (HB.out.fut F8)
          clear hown8 hgrow8 F8
          go_wp2_with fail
          go_meet
          exact ⟨HX8, HF8, HB8⟩
        · obtain rfl : L0 = [] := by rw [HL0.out, if_neg hx]
          go_wp2_with fail
          go_meet
          exact ⟨Lib.hid (OwnX.nil _ _), HFA, HB⟩
      case rest =>
        obtain ⟨HX0, HF0, HB0⟩ := hcut
        obtain ⟨w2, hw2⟩ : ∃ w2, w2 = wc := ⟨_, rfl⟩
        subst hw2
        clear HL0 HFA HB
        obtain ⟨Nn, hNn⟩ : ∃ Nn, Nn = (m - 1 - x).toNat := ⟨_, rfl⟩
        rw [← hNn] at HRW2 HSP
        have HN : Hid ((Nn : Int) = m - 1 - x) := Lib.hid (by have := HX01.out; omega)
        have hwx : IntKind.i64.wrap (x + 1) = x + 1 := IntWalk.i64_in _ ⟨by have := HX01.out; omega, by have := HX01.out; have := HMM.out; omega⟩
        have hX00 : OwnX w2 (w.heap.size + 1) u8 (L0 ++ rwS c m S tz f begun 0) := by rw [HS0.out, List.append_nil]; exact HX0.out
        have HX00 := Lib.hid hX00
        clear hNn hX00 HX0
        go_wp2_with fail
        go_loopw [8, 9] (fun ov iv wx => ∃ i : Nat, i ≤ Nn ∧ iv = .int .i64 (x + 1 + (i : Int)) ∧ Hid (OwnX wx (w.heap.size + 1) ov (L0 ++ rwS c m S tz f begun i)) ∧ Hid (Fut w wx) ∧ Hid (BoxP wx w.heap.size r c a S.length cap)) (fun _ iv _ => (m - intOf iv).toNat)
        case atStart => exact ⟨0, Nat.zero_le _, by simp, HX00, HF0, HB0⟩
        case round =>
          obtain ⟨i, hi, rfl, HX, HFX, HBX⟩ := hrel
          obtain ⟨wo, hwo⟩ : ∃ wo, wo = wr := ⟨_, rfl⟩
          subst hwo
          obtain ⟨_, p0, p1, p2⟩ := HBX.out
          by_cases hlt : i < Nn
          · have hym : x + 1 + (i : Int) < m := by have := HN.out; omega
            have hyb : 0 ≤ x + 1 + (i : Int) ∧ x + 1 + (i : Int) ≤ 16 := by have := HX01.out; have := HMM.out; omega
            have hwy : IntKind.i64.wrap (x + 1 + (i : Int) + 1) = x + 1 + (i : Int) + 1 := IntWalk.i64_in _ ⟨by omega, by omega⟩
            have HT := Lib.hid (HST.out (x + 1 + (i : Int)) hyb wo)
            have HSI := Lib.hid (HSS.out i)
            have HSI2 := Lib.hid (HSP.out (i + 1) (by omega))
            have HYI := Lib.hid (fun av ac W F hO => HIH.out (x + 1 + (i : Int)) (by omega) hym av ac W F hO)
            have hyx : (x + 1 + (i : Int)) + 1 = x + 1 + ((i + 1 : Nat) : Int) := by omega
            have HYX := Lib.hid hyx
            clear hyx
            generalize x + 1 + (i : Int) = y at *
            cases hst : rstE c x y
            · rw [hst] at HT HSI
              simp only [Bool.false_eq_true, if_false, List.append_nil] at HSI
              clear hst
              go_wp2_with fail
              refine HT.out.mono ?_
              rintro _ w3 ⟨rfl, F⟩
              have HF3 := Lib.hid (HFX.out.trans F)
              have HB3 := Lib.hid (HBX.out.fut F)
              have HX3 := Lib.hid (HX.out.fut F)
              clear F
              go_wp2
              go_round
              case rel => exact ⟨i + 1, by omega, by rw [HYX.out], by rw [HSI.out]; exact HX3, HF3, HB3⟩
              case measure => simp [intOf]; omega
            · rw [hst] at HT HSI
              simp only [if_true] at HSI
              clear hst
              have HSZ : Hid ((L0 ++ rwS c m S tz f begun i).length + (rwL c m S tz f (begun ++ [y])).length ≤ 262144) := Lib.hid (by
                have h1 := HSI2.out.length_le
                rw [HSI.out, List.length_append] at h1
                have h2 := HLE.out
                rw [HRW2.out, List.length_append] at h2
                rw [List.length_append]
                omega)
              have HACC : Hid (L0 ++ rwS c m S tz f begun (i + 1) = (L0 ++ rwS c m S tz f begun i) ++ rwL c m S tz f (begun ++ [y])) := Lib.hid (by rw [HSI.out, List.append_assoc])
              generalize hRes : rwL c m S tz f (begun ++ [y]) = Res at *
              generalize hacc : L0 ++ rwS c m S tz f begun i = acc at *
              clear hRes hacc
              obtain ⟨oa, oc, rfl⟩ : ∃ oa oc, u8 = .slice oa acc.length oc := by
                obtain ⟨vals, hrow, _⟩ := HX.out
                exact row_form hrow
              go_wp2_with fail
              refine HT.out.mono ?_
              rintro _ w3 ⟨rfl, F⟩
              have HF3 := Lib.hid (HFX.out.trans F)
              have HB3 := Lib.hid (HBX.out.fut F)
              have HX3 := Lib.hid (HX.out.fut F)
              clear F p0 p1 p2 HBX HX HFX
              obtain ⟨_, p0, p1, p2⟩ := HB3.out
              go_wp2_with fail
              have FD : Fut w3 w3.drew := below_drewN Fut.rfl 1
              have HFU := Lib.hid (HF3.out.trans FD)
              have HB0 := Lib.hid (HB3.out.fut FD)
              have HX0 := Lib.hid (HX3.out.fut FD)
              have hO0 := HO.out.fut HFU.out
              obtain ⟨_, _, e', _, _, hI0⟩ := hO0.form
              simp only [Value.slice.injEq, true_and] at e'
              obtain ⟨rfl, rfl⟩ := e'
              have HI0 := Lib.hid hI0
              have HCALL : Hid (∀ av ac W, Fut w3.drew W → Owns W 0 (.slice av (begun ++ [y]).length ac) (begun ++ [y]) → Calls Try.prog 72 #[parV r c a S.length cap, .slice av (begun.length + 1) ac, .int .i64 tz] W fun e w' => ∃ v, e = .returned v ∧ OwnX w' W.heap.size v Res ∧ Fut W w') := Lib.hid (fun av ac W F hO2 => by
                have h := HYI.out av ac W (HFU.out.trans F) hO2
                rwa [List.length_append, List.length_singleton] at h)
              clear FD HB3 HX3 HF3 p0 p1 p2 hO0 hI0
              refine wp_region_held_drew (S := (fun w' => BoxP w' w.heap.size r c a S.length cap)) (by kernel_rfl) ?_ (fun hHeld => ?_)
              · exact HB0.out
              generalize w3.drew = u0 at *
              refine wpAnyH_take (i := 0) (oi := { dst := some 42, op := Op.move (Operand.tmp 8), type := 35, pos := "ref.go:112", after := #[], guard := none }) (v := ?_) rfl (by kernel_rfl) (by kernel_rfl) (by kernel_rfl) (fun _ _ _ h => h) (Or.inl ⟨by rfl, ?_⟩) (by assumption) ?_
              rotate_left
              · (intro w hSw; obtain ⟨_, s0, s1, s2⟩ := hSw; go_simp <;> with_reducible rfl)
              try simp only [Act.put, List.setIfInBounds_toArray, List.set_cons_zero, List.set_cons_succ]
              refine wpAnyH_take (i := 1) (oi := { dst := some 43, op := Op.load 29 (Operand.tmp 3), type := 29, pos := "ref.go:112", after := #[], guard := none }) (v := ?_) rfl (by kernel_rfl) (by kernel_rfl) (by kernel_rfl) (fun _ _ _ h => h) (Or.inl ⟨by rfl, ?_⟩) (by assumption) ?_
              rotate_left
              · (intro w hSw; obtain ⟨_, s0, s1, s2⟩ := hSw; go_simp <;> with_reducible rfl)
              try simp only [Act.put, List.setIfInBounds_toArray, List.set_cons_zero, List.set_cons_succ]
              refine wpAnyH_take (i := 3) (oi := { dst := some 45, op := Op.move (Operand.tmp 1), type := 22, pos := "ref.go:112", after := #[], guard := none }) (v := ?_) rfl (by kernel_rfl) (by kernel_rfl) (by kernel_rfl) (fun _ _ _ h => h) (Or.inl ⟨by rfl, ?_⟩) (by assumption) ?_
              rotate_left
              · (intro w hSw; obtain ⟨_, s0, s1, s2⟩ := hSw; go_simp <;> with_reducible rfl)
              try simp only [Act.put, List.setIfInBounds_toArray, List.set_cons_zero, List.set_cons_succ]
              refine wpAnyH_take (i := 5) (oi := { dst := some 47, op := Op.move (Operand.tmp 9), type := 3, pos := "ref.go:112", after := #[], guard := none }) (v := ?_) rfl (by kernel_rfl) (by kernel_rfl) (by kernel_rfl) (fun _ _ _ h => h) (Or.inl ⟨by rfl, ?_⟩) (by assumption) ?_
              rotate_left
              · (intro w hSw; obtain ⟨_, s0, s1, s2⟩ := hSw; go_simp <;> with_reducible rfl)
              try simp only [Act.put, List.setIfInBounds_toArray, List.set_cons_zero, List.set_cons_succ]
              refine wpAnyH_take (i := 8) (oi := { dst := some 50, op := Op.move (Operand.tmp 2), type := 3, pos := "ref.go:112", after := #[], guard := none }) (v := ?_) rfl (by kernel_rfl) (by kernel_rfl) (by kernel_rfl) (fun _ _ _ h => h) (Or.inl ⟨by rfl, ?_⟩) (by assumption) ?_
              rotate_left
              · (intro w hSw; obtain ⟨_, s0, s1, s2⟩ := hSw; go_simp <;> with_reducible rfl)
              try simp only [Act.put, List.setIfInBounds_toArray, List.set_cons_zero, List.set_cons_succ]
              refine wpAnyH_ready (rs := [2, 6]) (by kernel_rfl) (by simp) ?_
              refine AllReadyH.cons (o := { dst := some 44, op := Op.buildSlice 22 0 #[], type := 22, pos := "ref.go:112", after := #[], guard := none }) rfl (fun K hK => ?_) (AllReadyH.cons (o := { dst := some 48, op := Op.buildSlice 22 1 #[(0, Operand.tmp 47)], type := 22, pos := "ref.go:112", after := #[{ on := 5, ground := Ground.data }], guard := none }) rfl (fun K hK => ?_) (AllReadyH.nil))
              · go_simp
                refine hK.out _ _ ?_ (fun hHeld => ?_)
                · exact HB0.out.fut (Fut.alloc u0 (.cells #[] 3))
                clear hK K
                try simp only [Act.put, List.setIfInBounds_toArray, List.set_cons_zero, List.set_cons_succ]
                refine wpAnyH_ready (rs := [4, 6]) (by kernel_rfl) (by simp) ?_
                refine AllReadyH.cons (o := { dst := some 46, op := Op.call { callee := Callee.builtin Builtin.append, args := #[Operand.tmp 44, Operand.tmp 45], argTypes := #[22, 22] }, type := 22, pos := "ref.go:112", after := #[{ on := 2, ground := Ground.data }, { on := 3, ground := Ground.data }], guard := none }) rfl (fun K hK => ?_) (AllReadyH.cons (o := { dst := some 48, op := Op.buildSlice 22 1 #[(0, Operand.tmp 47)], type := 22, pos := "ref.go:112", after := #[{ on := 5, ground := Ground.data }], guard := none }) rfl (fun K hK => ?_) (AllReadyH.nil))
                · have FW : Fut u0 (u0.alloc (.cells #[] 3)) := Fut.alloc u0 (.cells #[] 3)
                  have HW : (u0.alloc (.cells #[] 3)).ownsRow u0.heap.size 3 1 (.slice (some ⟨u0.heap.size, 0, none⟩) 0 0) 0 [] := World.ownsRow_lit (base := u0.heap.size) (e := 3) (size := 1) u0 #[] 0 (Nat.le_refl _) (by unfold maxLen; omega) rfl
                  refine step_append_src rfl _ _ 22 rfl u0.heap.size 3 i0 (.int .i64 0) 8 Try.underlying22 hi0 hz0 hz1 hz2 rfl _ 0 [] rfl HW _ begun.length (begun.map (Value.int .i64)) rfl (.inr ⟨⟨bb, bo, none⟩, bc, rfl, by simp, ?_, ?_⟩) ?_ ?_ ?_ ?_
                  · intro j u hj; rw [Addr.add_lit]; exact ints_news (HI0.out.fut FW) j u hj
                  · intro u hu; obtain ⟨z, _, rfl⟩ := List.mem_map.1 hu; rfl
                  · have := HBL.out; unfold maxLen; omega
                  · have := HBL.out; omega
                  · exact RowKit.Below.size FW
                  intro av ac w5 hown5 hgr5x
                  have hgr5 : (u0.alloc (.cells #[] 3)).grownBy w5 (some u0.heap.size) := hgr5x
                  clear hgr5x
                  simp only [Nat.zero_add, List.nil_append] at hown5
                  obtain ⟨g5, rfl⟩ : ∃ g, av = some ⟨g, 0, none⟩ := row_some hown5 HBL.out.1
                  have F5 : Fut u0 w5 := RowKit.Below.grown FW hgr5 (RowKit.Below.size FW) fun q hq => (World.ownsRow.lt HW q hq).1
                  have HO5 := Lib.hid hown5
                  have HF5 := Lib.hid F5
                  clear hown5 hgr5 HW FW F5
                  simp only [Nat.zero_add]
                  refine hK.out _ _ ?_ (fun hHeld => ?_)
                  · exact HB0.out.fut HF5.out
                  clear hK K
                  try simp only [Act.put, List.setIfInBounds_toArray, List.set_cons_zero, List.set_cons_succ]
                  refine wpAnyH_ready (rs := [6]) (by kernel_rfl) (by simp) ?_
                  refine AllReadyH.cons (o := { dst := some 48, op := Op.buildSlice 22 1 #[(0, Operand.tmp 47)], type := 22, pos := "ref.go:112", after := #[{ on := 5, ground := Ground.data }], guard := none }) rfl (fun K hK => ?_) AllReadyH.nil
                  go_simp
                  refine hK.out _ _ ?_ (fun hHeld => ?_)
                  · exact HB0.out.fut (HF5.out.trans (Fut.alloc _ (.cells #[.int .i64 y] 3)))
                  clear hK K
                  try simp only [Act.put, List.setIfInBounds_toArray, List.set_cons_zero, List.set_cons_succ]
                  refine wpAnyH_ready (rs := [7]) (by kernel_rfl) (by simp) ?_
                  refine AllReadyH.cons (o := { dst := some 49, op := Op.call { callee := Callee.builtin Builtin.append, args := #[Operand.tmp 46, Operand.tmp 48], argTypes := #[22, 22] }, type := 22, pos := "ref.go:112", after := #[{ on := 4, ground := Ground.data }, { on := 6, ground := Ground.data }, { on := 4, ground := Ground.chain }], guard := none }) rfl (fun K hK => ?_) AllReadyH.nil
                  have FW : Fut u0 (w5.alloc (.cells #[.int .i64 y] 3)) := HF5.out.trans (Fut.alloc _ (.cells #[.int .i64 y] 3))
                  have HW : (w5.alloc (.cells #[.int .i64 y] 3)).ownsRow u0.heap.size 3 1 (.slice (some ⟨g5, 0, none⟩) begun.length ac) begun.length (begun.map (Value.int .i64)) := World.ownsRow.alloc HO5.out (.cells #[.int .i64 y] 3)
                  refine step_append_src rfl _ _ 22 rfl u0.heap.size 3 i0 (.int .i64 0) 8 Try.underlying22 hi0 hz0 hz1 hz2 rfl _ begun.length (begun.map (Value.int .i64)) rfl HW _ 1 [.int .i64 y] rfl (.inr ⟨⟨w5.heap.size, 0, none⟩, 1, rfl, rfl, cell_one (by simp [go_sem]), by simp [Value.oneCell']⟩) ?_ ?_ ?_ ?_
                  · have := HBL.out; unfold maxLen; omega
                  · have := HBL.out; omega
                  · exact RowKit.Below.size FW
                  intro av7 ac7 w7 hown7 hgr7
                  have HF7 : Hid (Fut u0 w7) := Lib.hid (RowKit.Below.grown FW hgr7 (RowKit.Below.size FW) fun q hq => (World.ownsRow.lt HW q hq).1)
                  have HO7 : Hid (Owns w7 0 (.slice av7 (begun ++ [y]).length ac7) (begun ++ [y])) := Lib.hid (Owns.base (B := u0.heap.size) (by unfold Owns; rw [List.length_append, List.length_singleton, List.map_append]; exact hown7) (Nat.zero_le _))
                  clear hown7 hgr7 HW FW
                  refine hK.out _ _ ?_ (fun hHeld => ?_)
                  · exact HB0.out.fut HF7.out
                  clear hK K
                  try simp only [Act.put, List.setIfInBounds_toArray, List.set_cons_zero, List.set_cons_succ]
                  refine wpAnyH_ready (rs := [9]) (by kernel_rfl) (by simp) ?_
                  refine AllReadyH.cons (o := { dst := some 51, op := Op.call { callee := Callee.value (Operand.func 72), args := #[Operand.tmp 43, Operand.tmp 49, Operand.tmp 50], argTypes := #[29, 22, 3] }, type := 35, pos := "ref.go:112", after := #[{ on := 1, ground := Ground.data }, { on := 7, ground := Ground.data }, { on := 8, ground := Ground.data }, { on := 7, ground := Ground.chain }], guard := none }) rfl (fun K hK => ?_) AllReadyH.nil
                  go_simp
                  go_at_call 72
                  refine (HCALL.out av7 ac7 w7 HF7.out HO7.out).mono ?_
                  rintro _ w9 ⟨v9, rfl, hX9, F9⟩
                  have HF9 := Lib.hid (HF7.out.trans F9)
                  have HX9 := Lib.hid (hX9.src)
                  clear hX9 F9
                  try go_wp2_with fail
                  refine hK.out _ _ ?_ (fun hHeld => ?_)
                  · exact HB0.out.fut HF9.out
                  clear hK K
                  try simp only [Act.put, List.setIfInBounds_toArray, List.set_cons_zero, List.set_cons_succ]
                  refine wpAnyH_ready (rs := [10]) (by kernel_rfl) (by simp) ?_
                  refine AllReadyH.cons (o := { dst := some 52, op := Op.call { callee := Callee.builtin Builtin.append, args := #[Operand.tmp 42, Operand.tmp 51], argTypes := #[35, 35] }, type := 35, pos := "ref.go:112", after := #[{ on := 0, ground := Ground.data }, { on := 9, ground := Ground.data }, { on := 9, ground := Ground.chain }], guard := none }) rfl (fun K hK => ?_) AllReadyH.nil
                  obtain ⟨vals, hrow, hel⟩ := (HX0.out.fut HF9.out)
                  obtain ⟨vals9, hel9, hsrc9⟩ := HX9.out
                  refine step_append_src rfl _ _ 35 rfl (w.heap.size + 1) 22 i1 (.slice none 0 0) 24 Try.underlying35 hi1 hy0 hy1 hy2 rfl _ acc.length vals rfl hrow _ Res.length vals9 rfl hsrc9 ?_ ?_ ?_ ?_
                  · have := HSZ.out; unfold maxLen; omega
                  · have := HSZ.out; omega
                  · exact Nat.le_trans HB0.out.lt (RowKit.Below.size HF9.out)
                  intro av10 ac10 w10 hown10 hgr10
                  have HX10 : Hid (OwnX w10 (w.heap.size + 1) (.slice av10 (acc ++ Res).length ac10) (acc ++ Res)) := Lib.hid ⟨vals ++ vals9, by rw [List.length_append]; exact hown10, hel.cat hel9 hrow hgr10⟩
                  have HF10 : Hid (Fut w w10) := Lib.hid (RowKit.Below.grown (HFU.out.trans HF9.out) hgr10 (RowKit.Below.size (HFU.out.trans HF9.out)) fun q hq => by have := (World.ownsRow.lt hrow q hq).1; omega)
                  have HB10 : Hid (BoxP w10 w.heap.size r c a S.length cap) := Lib.hid (HB0.out.fut HF9.out |>.kept hgr10 (fun q => by have := (World.ownsRow.lt hrow _ q).1; omega))
                  clear hrow hel hel9 hsrc9 hown10 hgr10
                  refine hK.out _ _ ?_ (fun hHeld => ?_)
                  · exact HB10.out
                  clear hK K
                  try simp only [Act.put, List.setIfInBounds_toArray, List.set_cons_zero, List.set_cons_succ]
                  refine wpAnyH_ready (rs := [11]) (by kernel_rfl) (by simp) ?_
                  refine AllReadyH.cons (o := { dst := some 8, op := Op.assign (Operand.tmp 52), type := 35, pos := "ref.go:112", after := #[{ on := 10, ground := Ground.data }, { on := 10, ground := Ground.chain }, { on := 0, ground := Ground.phase }, { on := 1, ground := Ground.phase }, { on := 2, ground := Ground.phase }, { on := 3, ground := Ground.phase }, { on := 4, ground := Ground.phase }, { on := 5, ground := Ground.phase }, { on := 6, ground := Ground.phase }, { on := 7, ground := Ground.phase }, { on := 8, ground := Ground.phase }, { on := 9, ground := Ground.phase }, { on := 10, ground := Ground.phase }], guard := none }) rfl (fun K hK => ?_) AllReadyH.nil
                  go_simp
                  refine hK.out _ _ ?_ (fun hHeld => ?_)
                  · exact HB10.out
                  clear hK K
                  try simp only [Act.put, List.setIfInBounds_toArray, List.set_cons_zero, List.set_cons_succ]
                  refine wpAnyH_done (by kernel_rfl) ?_ _
                  clear HF5 HO5 HF7 HO7 HF9 HX9
                  have hXn : OwnX w10 (w.heap.size + 1) (.slice av10 (acc.length + Res.length) ac10) (L0 ++ rwS c m S tz f begun (i + 1)) := by rw [HACC.out, ← List.length_append]; exact HX10.out
                  have HXN := Lib.hid hXn
                  clear hXn HX10
                  go_wp2
                  go_round
                  case rel => exact ⟨i + 1, by omega, by rw [HYX.out], HXN, HF10, HB10⟩
                  case measure => simp [intOf]; omega
                · go_simp
                  refine hK.out _ _ ?_ (fun hHeld => ?_)
                  · exact HB0.out.fut ((Fut.alloc u0 (.cells #[] 3)).trans (Fut.alloc _ (.cells #[.int .i64 y] 3)))
                  clear hK K
                  try simp only [Act.put, List.setIfInBounds_toArray, List.set_cons_zero, List.set_cons_succ]
                  refine wpAnyH_ready (rs := [4]) (by kernel_rfl) (by simp) ?_
                  refine AllReadyH.cons (o := { dst := some 46, op := Op.call { callee := Callee.builtin Builtin.append, args := #[Operand.tmp 44, Operand.tmp 45], argTypes := #[22, 22] }, type := 22, pos := "ref.go:112", after := #[{ on := 2, ground := Ground.data }, { on := 3, ground := Ground.data }], guard := none }) rfl (fun K hK => ?_) AllReadyH.nil
                  have FW : Fut u0 ((u0.alloc (.cells #[] 3)).alloc (.cells #[.int .i64 y] 3)) := (Fut.alloc u0 (.cells #[] 3)).trans (Fut.alloc _ (.cells #[.int .i64 y] 3))
                  have HW : ((u0.alloc (.cells #[] 3)).alloc (.cells #[.int .i64 y] 3)).ownsRow u0.heap.size 3 1 (.slice (some ⟨u0.heap.size, 0, none⟩) 0 0) 0 [] := World.ownsRow.alloc (World.ownsRow_lit (base := u0.heap.size) (e := 3) (size := 1) u0 #[] 0 (Nat.le_refl _) (by unfold maxLen; omega) rfl) (.cells #[.int .i64 y] 3)
                  refine step_append_src rfl _ _ 22 rfl u0.heap.size 3 i0 (.int .i64 0) 8 Try.underlying22 hi0 hz0 hz1 hz2 rfl _ 0 [] rfl HW _ begun.length (begun.map (Value.int .i64)) rfl (.inr ⟨⟨bb, bo, none⟩, bc, rfl, by simp, ?_, ?_⟩) ?_ ?_ ?_ ?_
                  · intro j u hj; rw [Addr.add_lit]; exact ints_news (HI0.out.fut FW) j u hj
                  · intro u hu; obtain ⟨z, _, rfl⟩ := List.mem_map.1 hu; rfl
                  · have := HBL.out; unfold maxLen; omega
                  · have := HBL.out; omega
                  · exact RowKit.Below.size FW
                  intro av ac w5 hown5 hgr5x
                  have hgr5 : ((u0.alloc (.cells #[] 3)).alloc (.cells #[.int .i64 y] 3)).grownBy w5 (some u0.heap.size) := hgr5x
                  clear hgr5x
                  simp only [Nat.zero_add, List.nil_append] at hown5
                  obtain ⟨g5, rfl⟩ : ∃ g, av = some ⟨g, 0, none⟩ := row_some hown5 HBL.out.1
                  have F5 : Fut u0 w5 := RowKit.Below.grown FW hgr5 (RowKit.Below.size FW) fun q hq => (World.ownsRow.lt HW q hq).1
                  have n0 : ((u0.alloc (.cells #[] 3)).alloc (.cells #[.int .i64 y] 3)).cell? ⟨(u0.heap.size + 1), 0, none⟩ = some (.int .i64 y) := by simp [go_sem]
                  have n1 : w5.cell? ⟨(u0.heap.size + 1), 0, none⟩ = some (.int .i64 y) := (World.cell?_of_block (a := ⟨(u0.heap.size + 1), 0, none⟩) (hgr5.block (u0.heap.size + 1) (by simp only [World.size_alloc]; omega) (fun e => by
                    have e2 : (u0.heap.size + 1) = u0.heap.size := Option.some.inj e
                    omega))).trans n0
                  clear n0
                  have HO5 := Lib.hid hown5
                  have HF5 := Lib.hid F5
                  clear hown5 hgr5 HW FW F5
                  simp only [Nat.zero_add]
                  refine hK.out _ _ ?_ (fun hHeld => ?_)
                  · exact HB0.out.fut HF5.out
                  clear hK K
                  try simp only [Act.put, List.setIfInBounds_toArray, List.set_cons_zero, List.set_cons_succ]
                  refine wpAnyH_ready (rs := [7]) (by kernel_rfl) (by simp) ?_
                  refine AllReadyH.cons (o := { dst := some 49, op := Op.call { callee := Callee.builtin Builtin.append, args := #[Operand.tmp 46, Operand.tmp 48], argTypes := #[22, 22] }, type := 22, pos := "ref.go:112", after := #[{ on := 4, ground := Ground.data }, { on := 6, ground := Ground.data }, { on := 4, ground := Ground.chain }], guard := none }) rfl (fun K hK => ?_) AllReadyH.nil
                  have FW : Fut u0 w5 := HF5.out
                  have HW : w5.ownsRow u0.heap.size 3 1 (.slice (some ⟨g5, 0, none⟩) begun.length ac) begun.length (begun.map (Value.int .i64)) := HO5.out
                  refine step_append_src rfl _ _ 22 rfl u0.heap.size 3 i0 (.int .i64 0) 8 Try.underlying22 hi0 hz0 hz1 hz2 rfl _ begun.length (begun.map (Value.int .i64)) rfl HW _ 1 [.int .i64 y] rfl (.inr ⟨⟨(u0.heap.size + 1), 0, none⟩, 1, rfl, rfl, cell_one n1, by simp [Value.oneCell']⟩) ?_ ?_ ?_ ?_
                  · have := HBL.out; unfold maxLen; omega
                  · have := HBL.out; omega
                  · exact RowKit.Below.size FW
                  intro av7 ac7 w7 hown7 hgr7
                  have HF7 : Hid (Fut u0 w7) := Lib.hid (RowKit.Below.grown FW hgr7 (RowKit.Below.size FW) fun q hq => (World.ownsRow.lt HW q hq).1)
                  have HO7 : Hid (Owns w7 0 (.slice av7 (begun ++ [y]).length ac7) (begun ++ [y])) := Lib.hid (Owns.base (B := u0.heap.size) (by unfold Owns; rw [List.length_append, List.length_singleton, List.map_append]; exact hown7) (Nat.zero_le _))
                  clear hown7 hgr7 HW FW
                  refine hK.out _ _ ?_ (fun hHeld => ?_)
                  · exact HB0.out.fut HF7.out
                  clear hK K
                  try simp only [Act.put, List.setIfInBounds_toArray, List.set_cons_zero, List.set_cons_succ]
                  refine wpAnyH_ready (rs := [9]) (by kernel_rfl) (by simp) ?_
                  refine AllReadyH.cons (o := { dst := some 51, op := Op.call { callee := Callee.value (Operand.func 72), args := #[Operand.tmp 43, Operand.tmp 49, Operand.tmp 50], argTypes := #[29, 22, 3] }, type := 35, pos := "ref.go:112", after := #[{ on := 1, ground := Ground.data }, { on := 7, ground := Ground.data }, { on := 8, ground := Ground.data }, { on := 7, ground := Ground.chain }], guard := none }) rfl (fun K hK => ?_) AllReadyH.nil
                  go_simp
                  go_at_call 72
                  refine (HCALL.out av7 ac7 w7 HF7.out HO7.out).mono ?_
                  rintro _ w9 ⟨v9, rfl, hX9, F9⟩
                  have HF9 := Lib.hid (HF7.out.trans F9)
                  have HX9 := Lib.hid (hX9.src)
                  clear hX9 F9
                  try go_wp2_with fail
                  refine hK.out _ _ ?_ (fun hHeld => ?_)
                  · exact HB0.out.fut HF9.out
                  clear hK K
                  try simp only [Act.put, List.setIfInBounds_toArray, List.set_cons_zero, List.set_cons_succ]
                  refine wpAnyH_ready (rs := [10]) (by kernel_rfl) (by simp) ?_
                  refine AllReadyH.cons (o := { dst := some 52, op := Op.call { callee := Callee.builtin Builtin.append, args := #[Operand.tmp 42, Operand.tmp 51], argTypes := #[35, 35] }, type := 35, pos := "ref.go:112", after := #[{ on := 0, ground := Ground.data }, { on := 9, ground := Ground.data }, { on := 9, ground := Ground.chain }], guard := none }) rfl (fun K hK => ?_) AllReadyH.nil
                  obtain ⟨vals, hrow, hel⟩ := (HX0.out.fut HF9.out)
                  obtain ⟨vals9, hel9, hsrc9⟩ := HX9.out
                  refine step_append_src rfl _ _ 35 rfl (w.heap.size + 1) 22 i1 (.slice none 0 0) 24 Try.underlying35 hi1 hy0 hy1 hy2 rfl _ acc.length vals rfl hrow _ Res.length vals9 rfl hsrc9 ?_ ?_ ?_ ?_
                  · have := HSZ.out; unfold maxLen; omega
                  · have := HSZ.out; omega
                  · exact Nat.le_trans HB0.out.lt (RowKit.Below.size HF9.out)
                  intro av10 ac10 w10 hown10 hgr10
                  have HX10 : Hid (OwnX w10 (w.heap.size + 1) (.slice av10 (acc ++ Res).length ac10) (acc ++ Res)) := Lib.hid ⟨vals ++ vals9, by rw [List.length_append]; exact hown10, hel.cat hel9 hrow hgr10⟩
                  have HF10 : Hid (Fut w w10) := Lib.hid (RowKit.Below.grown (HFU.out.trans HF9.out) hgr10 (RowKit.Below.size (HFU.out.trans HF9.out)) fun q hq => by have := (World.ownsRow.lt hrow q hq).1; omega)
                  have HB10 : Hid (BoxP w10 w.heap.size r c a S.length cap) := Lib.hid (HB0.out.fut HF9.out |>.kept hgr10 (fun q => by have := (World.ownsRow.lt hrow _ q).1; omega))
                  clear hrow hel hel9 hsrc9 hown10 hgr10
                  refine hK.out _ _ ?_ (fun hHeld => ?_)
                  · exact HB10.out
                  clear hK K
                  try simp only [Act.put, List.setIfInBounds_toArray, List.set_cons_zero, List.set_cons_succ]
                  refine wpAnyH_ready (rs := [11]) (by kernel_rfl) (by simp) ?_
                  refine AllReadyH.cons (o := { dst := some 8, op := Op.assign (Operand.tmp 52), type := 35, pos := "ref.go:112", after := #[{ on := 10, ground := Ground.data }, { on := 10, ground := Ground.chain }, { on := 0, ground := Ground.phase }, { on := 1, ground := Ground.phase }, { on := 2, ground := Ground.phase }, { on := 3, ground := Ground.phase }, { on := 4, ground := Ground.phase }, { on := 5, ground := Ground.phase }, { on := 6, ground := Ground.phase }, { on := 7, ground := Ground.phase }, { on := 8, ground := Ground.phase }, { on := 9, ground := Ground.phase }, { on := 10, ground := Ground.phase }], guard := none }) rfl (fun K hK => ?_) AllReadyH.nil
                  go_simp
                  refine hK.out _ _ ?_ (fun hHeld => ?_)
                  · exact HB10.out
                  clear hK K
                  try simp only [Act.put, List.setIfInBounds_toArray, List.set_cons_zero, List.set_cons_succ]
                  refine wpAnyH_done (by kernel_rfl) ?_ _
                  clear HF5 HO5 HF7 HO7 HF9 HX9
                  have hXn : OwnX w10 (w.heap.size + 1) (.slice av10 (acc.length + Res.length) ac10) (L0 ++ rwS c m S tz f begun (i + 1)) := by rw [HACC.out, ← List.length_append]; exact HX10.out
                  have HXN := Lib.hid hXn
                  clear hXn HX10
                  go_wp2
                  go_round
                  case rel => exact ⟨i + 1, by omega, by rw [HYX.out], HXN, HF10, HB10⟩
                  case measure => simp [intOf]; omega
              · go_simp
                refine hK.out _ _ ?_ (fun hHeld => ?_)
                · exact HB0.out.fut (Fut.alloc u0 (.cells #[.int .i64 y] 3))
                clear hK K
                try simp only [Act.put, List.setIfInBounds_toArray, List.set_cons_zero, List.set_cons_succ]
                refine wpAnyH_ready (rs := [2]) (by kernel_rfl) (by simp) ?_
                refine AllReadyH.cons (o := { dst := some 44, op := Op.buildSlice 22 0 #[], type := 22, pos := "ref.go:112", after := #[], guard := none }) rfl (fun K hK => ?_) AllReadyH.nil
                go_simp
                refine hK.out _ _ ?_ (fun hHeld => ?_)
                · exact HB0.out.fut ((Fut.alloc u0 (.cells #[.int .i64 y] 3)).trans (Fut.alloc _ (.cells #[] 3)))
                clear hK K
                try simp only [Act.put, List.setIfInBounds_toArray, List.set_cons_zero, List.set_cons_succ]
                refine wpAnyH_ready (rs := [4]) (by kernel_rfl) (by simp) ?_
                refine AllReadyH.cons (o := { dst := some 46, op := Op.call { callee := Callee.builtin Builtin.append, args := #[Operand.tmp 44, Operand.tmp 45], argTypes := #[22, 22] }, type := 22, pos := "ref.go:112", after := #[{ on := 2, ground := Ground.data }, { on := 3, ground := Ground.data }], guard := none }) rfl (fun K hK => ?_) AllReadyH.nil
                have FW : Fut u0 ((u0.alloc (.cells #[.int .i64 y] 3)).alloc (.cells #[] 3)) := (Fut.alloc u0 (.cells #[.int .i64 y] 3)).trans (Fut.alloc _ (.cells #[] 3))
                have HW : ((u0.alloc (.cells #[.int .i64 y] 3)).alloc (.cells #[] 3)).ownsRow u0.heap.size 3 1 (.slice (some ⟨(u0.heap.size + 1), 0, none⟩) 0 0) 0 [] := by
                  have h := World.ownsRow_lit (base := u0.heap.size) (e := 3) (size := 1) (u0.alloc (.cells #[.int .i64 y] 3)) #[] 0 (by simp) (by unfold maxLen; omega) rfl
                  rw [World.size_alloc] at h
                  exact row_base h (by omega)
                refine step_append_src rfl _ _ 22 rfl u0.heap.size 3 i0 (.int .i64 0) 8 Try.underlying22 hi0 hz0 hz1 hz2 rfl _ 0 [] rfl HW _ begun.length (begun.map (Value.int .i64)) rfl (.inr ⟨⟨bb, bo, none⟩, bc, rfl, by simp, ?_, ?_⟩) ?_ ?_ ?_ ?_
                · intro j u hj; rw [Addr.add_lit]; exact ints_news (HI0.out.fut FW) j u hj
                · intro u hu; obtain ⟨z, _, rfl⟩ := List.mem_map.1 hu; rfl
                · have := HBL.out; unfold maxLen; omega
                · have := HBL.out; omega
                · exact RowKit.Below.size FW
                intro av ac w5 hown5 hgr5x
                have hgr5 : ((u0.alloc (.cells #[.int .i64 y] 3)).alloc (.cells #[] 3)).grownBy w5 (some (u0.heap.size + 1)) := hgr5x
                clear hgr5x
                simp only [Nat.zero_add, List.nil_append] at hown5
                obtain ⟨g5, rfl⟩ : ∃ g, av = some ⟨g, 0, none⟩ := row_some hown5 HBL.out.1
                have F5 : Fut u0 w5 := RowKit.Below.grown FW hgr5 (RowKit.Below.size FW) fun q hq => (World.ownsRow.lt HW q hq).1
                have n0 : ((u0.alloc (.cells #[.int .i64 y] 3)).alloc (.cells #[] 3)).cell? ⟨u0.heap.size, 0, none⟩ = some (.int .i64 y) := alloc_old _ _ (alloc_cell u0 _ _)
                have n1 : w5.cell? ⟨u0.heap.size, 0, none⟩ = some (.int .i64 y) := (World.cell?_of_block (a := ⟨u0.heap.size, 0, none⟩) (hgr5.block u0.heap.size (by simp only [World.size_alloc]; omega) (fun e => by
                  have e2 : u0.heap.size = (u0.heap.size + 1) := Option.some.inj e
                  omega))).trans n0
                clear n0
                have HO5 := Lib.hid hown5
                have HF5 := Lib.hid F5
                clear hown5 hgr5 HW FW F5
                simp only [Nat.zero_add]
                refine hK.out _ _ ?_ (fun hHeld => ?_)
                · exact HB0.out.fut HF5.out
                clear hK K
                try simp only [Act.put, List.setIfInBounds_toArray, List.set_cons_zero, List.set_cons_succ]
                refine wpAnyH_ready (rs := [7]) (by kernel_rfl) (by simp) ?_
                refine AllReadyH.cons (o := { dst := some 49, op := Op.call { callee := Callee.builtin Builtin.append, args := #[Operand.tmp 46, Operand.tmp 48], argTypes := #[22, 22] }, type := 22, pos := "ref.go:112", after := #[{ on := 4, ground := Ground.data }, { on := 6, ground := Ground.data }, { on := 4, ground := Ground.chain }], guard := none }) rfl (fun K hK => ?_) AllReadyH.nil
                have FW : Fut u0 w5 := HF5.out
                have HW : w5.ownsRow u0.heap.size 3 1 (.slice (some ⟨g5, 0, none⟩) begun.length ac) begun.length (begun.map (Value.int .i64)) := HO5.out
                refine step_append_src rfl _ _ 22 rfl u0.heap.size 3 i0 (.int .i64 0) 8 Try.underlying22 hi0 hz0 hz1 hz2 rfl _ begun.length (begun.map (Value.int .i64)) rfl HW _ 1 [.int .i64 y] rfl (.inr ⟨⟨u0.heap.size, 0, none⟩, 1, rfl, rfl, cell_one n1, by simp [Value.oneCell']⟩) ?_ ?_ ?_ ?_
                · have := HBL.out; unfold maxLen; omega
                · have := HBL.out; omega
                · exact RowKit.Below.size FW
                intro av7 ac7 w7 hown7 hgr7
                have HF7 : Hid (Fut u0 w7) := Lib.hid (RowKit.Below.grown FW hgr7 (RowKit.Below.size FW) fun q hq => (World.ownsRow.lt HW q hq).1)
                have HO7 : Hid (Owns w7 0 (.slice av7 (begun ++ [y]).length ac7) (begun ++ [y])) := Lib.hid (Owns.base (B := u0.heap.size) (by unfold Owns; rw [List.length_append, List.length_singleton, List.map_append]; exact hown7) (Nat.zero_le _))
                clear hown7 hgr7 HW FW
                refine hK.out _ _ ?_ (fun hHeld => ?_)
                · exact HB0.out.fut HF7.out
                clear hK K
                try simp only [Act.put, List.setIfInBounds_toArray, List.set_cons_zero, List.set_cons_succ]
                refine wpAnyH_ready (rs := [9]) (by kernel_rfl) (by simp) ?_
                refine AllReadyH.cons (o := { dst := some 51, op := Op.call { callee := Callee.value (Operand.func 72), args := #[Operand.tmp 43, Operand.tmp 49, Operand.tmp 50], argTypes := #[29, 22, 3] }, type := 35, pos := "ref.go:112", after := #[{ on := 1, ground := Ground.data }, { on := 7, ground := Ground.data }, { on := 8, ground := Ground.data }, { on := 7, ground := Ground.chain }], guard := none }) rfl (fun K hK => ?_) AllReadyH.nil
                go_simp
                go_at_call 72
                refine (HCALL.out av7 ac7 w7 HF7.out HO7.out).mono ?_
                rintro _ w9 ⟨v9, rfl, hX9, F9⟩
                have HF9 := Lib.hid (HF7.out.trans F9)
                have HX9 := Lib.hid (hX9.src)
                clear hX9 F9
                try go_wp2_with fail
                refine hK.out _ _ ?_ (fun hHeld => ?_)
                · exact HB0.out.fut HF9.out
                clear hK K
                try simp only [Act.put, List.setIfInBounds_toArray, List.set_cons_zero, List.set_cons_succ]
                refine wpAnyH_ready (rs := [10]) (by kernel_rfl) (by simp) ?_
                refine AllReadyH.cons (o := { dst := some 52, op := Op.call { callee := Callee.builtin Builtin.append, args := #[Operand.tmp 42, Operand.tmp 51], argTypes := #[35, 35] }, type := 35, pos := "ref.go:112", after := #[{ on := 0, ground := Ground.data }, { on := 9, ground := Ground.data }, { on := 9, ground := Ground.chain }], guard := none }) rfl (fun K hK => ?_) AllReadyH.nil
                obtain ⟨vals, hrow, hel⟩ := (HX0.out.fut HF9.out)
                obtain ⟨vals9, hel9, hsrc9⟩ := HX9.out
                refine step_append_src rfl _ _ 35 rfl (w.heap.size + 1) 22 i1 (.slice none 0 0) 24 Try.underlying35 hi1 hy0 hy1 hy2 rfl _ acc.length vals rfl hrow _ Res.length vals9 rfl hsrc9 ?_ ?_ ?_ ?_
                · have := HSZ.out; unfold maxLen; omega
                · have := HSZ.out; omega
                · exact Nat.le_trans HB0.out.lt (RowKit.Below.size HF9.out)
                intro av10 ac10 w10 hown10 hgr10
                have HX10 : Hid (OwnX w10 (w.heap.size + 1) (.slice av10 (acc ++ Res).length ac10) (acc ++ Res)) := Lib.hid ⟨vals ++ vals9, by rw [List.length_append]; exact hown10, hel.cat hel9 hrow hgr10⟩
                have HF10 : Hid (Fut w w10) := Lib.hid (RowKit.Below.grown (HFU.out.trans HF9.out) hgr10 (RowKit.Below.size (HFU.out.trans HF9.out)) fun q hq => by have := (World.ownsRow.lt hrow q hq).1; omega)
                have HB10 : Hid (BoxP w10 w.heap.size r c a S.length cap) := Lib.hid (HB0.out.fut HF9.out |>.kept hgr10 (fun q => by have := (World.ownsRow.lt hrow _ q).1; omega))
                clear hrow hel hel9 hsrc9 hown10 hgr10
                refine hK.out _ _ ?_ (fun hHeld => ?_)
                · exact HB10.out
                clear hK K
                try simp only [Act.put, List.setIfInBounds_toArray, List.set_cons_zero, List.set_cons_succ]
                refine wpAnyH_ready (rs := [11]) (by kernel_rfl) (by simp) ?_
                refine AllReadyH.cons (o := { dst := some 8, op := Op.assign (Operand.tmp 52), type := 35, pos := "ref.go:112", after := #[{ on := 10, ground := Ground.data }, { on := 10, ground := Ground.chain }, { on := 0, ground := Ground.phase }, { on := 1, ground := Ground.phase }, { on := 2, ground := Ground.phase }, { on := 3, ground := Ground.phase }, { on := 4, ground := Ground.phase }, { on := 5, ground := Ground.phase }, { on := 6, ground := Ground.phase }, { on := 7, ground := Ground.phase }, { on := 8, ground := Ground.phase }, { on := 9, ground := Ground.phase }, { on := 10, ground := Ground.phase }], guard := none }) rfl (fun K hK => ?_) AllReadyH.nil
                go_simp
                refine hK.out _ _ ?_ (fun hHeld => ?_)
                · exact HB10.out
                clear hK K
                try simp only [Act.put, List.setIfInBounds_toArray, List.set_cons_zero, List.set_cons_succ]
                refine wpAnyH_done (by kernel_rfl) ?_ _
                clear HF5 HO5 HF7 HO7 HF9 HX9
                have hXn : OwnX w10 (w.heap.size + 1) (.slice av10 (acc.length + Res.length) ac10) (L0 ++ rwS c m S tz f begun (i + 1)) := by rw [HACC.out, ← List.length_append]; exact HX10.out
                have HXN := Lib.hid hXn
                clear hXn HX10
                go_wp2
                go_round
                case rel => exact ⟨i + 1, by omega, by rw [HYX.out], HXN, HF10, HB10⟩
                case measure => simp [intOf]; omega
          · obtain rfl : Nn = i := by omega
            have hym : x + 1 + (Nn : Int) = m := by have := HN.out; omega
            have hyl : ¬ (x + 1 + (Nn : Int) < m) := by omega
            go_wp2_with fail
            go_ret
            exact ⟨_, rfl, by rw [HRW2.out]; exact HX.out.base (Nat.le_succ _), HFX.out⟩
    · rw [hsh] at HRW
      simp only [if_true] at HRW
      obtain rfl : R = [] := HRW.out
      clear hsh
      go_wp2_with fail
      go_ret
      exact ⟨_, rfl, OwnX.nil _ _, HFA.out⟩
end Go.Proofs.Ytflllkamdihfaaa
