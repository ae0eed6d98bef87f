/- The reference's crossings 86: rcrossings_any (crsR); step_append_src: an append in a drawn region -/
import Derived.Test.YtpgifeaejjjjnaaEI
import Derived.Test.YtpgifeaejjjjnaaEG
namespace Go.Proofs.Ytpgifeaejjjjnaa
open Go.RowKit Go.Sort
theorem step_append_src {w : World} {ops : Array Oper} {o : Oper} {a : Act} {K : Act → World → Prop} {Q : Exit → Act → World → Prop} {E : Prop} (hgd : o.guard = none) (s x : Operand) (t : TypeId)
    (ho : o.op = .call { callee := .builtin .append, args := #[s, x], argTypes := #[t, t] })
    (base : Nat) (e : TypeId) (i : TypeInfo) (z : Value) (bytes : Nat) (ht : Try.prog.underlying t = some (.slice e)) (hi : Try.prog.info? e = some i) (hz : i.zero = some z)
    (hsize : i.size = 1) (hby : i.bytes = bytes) (hzs : z.cells.size = 1)
    (v : Value) (n : Nat) (xs : List Value) (hs : a.eval s = v) (hown : w.ownsRow base e 1 v n xs)
    (u : Value) (m : Nat) (news : List Value) (hx : a.eval x = u) (hu : (u = .slice none 0 0 ∧ m = 0 ∧ news = []) ∨ ∃ ad c, u = .slice (some ad) m c ∧ news.length = m * 1 ∧ (∀ j x, news[j]? = some x → w.cell? (ad.add j) = some x) ∧ ∀ x ∈ news, x.oneCell' = true)
    (h63 : n + m ≤ maxLen) (hbytes : (n + m) * bytes ≤ 140737488355328) (hbase : base ≤ w.heap.size)
    (h : ∀ av ac w', w'.ownsRow base e 1 (.slice av (n + m) ac) (n + m) (xs ++ news) → w.grownBy w' v.ownBlock → K (a.put o.dst (.slice av (n + m) ac)) w') :
    if Region.wanted o (yielded ops a.tmps) = true then Oper.wp Try.prog o a w K Q else E := by
  have hw : Region.wanted o (yielded ops a.tmps) = true := by simp [Region.wanted, hgd]
  rw [if_pos hw]
  have form : ∀ (w' : World) (v' : Value) (k : Nat) (ys : List Value), w'.ownsRow base e 1 v' k ys → ∃ av ac, v' = .slice av k ac := fun w' v' k ys hh => by
    rcases hh.2 with ⟨rfl, h0⟩ | ⟨g, cap, cur, rfl, _⟩
    · exact ⟨none, 0, by rw [h0]⟩
    · exact ⟨_, _, rfl⟩
  rcases hu with ⟨rfl, rfl, rfl⟩ | ⟨ad, c, rfl, hl, hnews, h1⟩
  · have hrun := run_append_owned_none (P := Try.prog) (w := w) base t o.type e i 1 ht hi v n xs hown
    unfold Oper.wp execOp
    simp only [ho, resolve, invoke, builtin, Sem.run_bind, Sem.run_pure, Result.andThen_ok, List.map_toArray, List.map_cons, List.map_nil, hs, hx, hrun]
    obtain ⟨av, ac, rfl⟩ := form w v n xs hown
    refine h av ac w (by simpa using hown) ?_
    exact World.grownBy.refl _ _
  · obtain ⟨v', w', hr, h2, h3, _, _⟩ := run_append_own_at (P := Try.prog) w base t o.type e i z 1 bytes ht hi hz hsize hby hzs (by decide) v n xs hown ad m c news hl hnews h1 h63 hbytes hbase
    obtain ⟨av, ac, rfl⟩ := form w' v' _ _ h2
    unfold Oper.wp execOp
    simp only [ho, resolve, invoke, builtin, Sem.run_bind, Sem.run_pure, Result.andThen_ok, List.map_toArray, List.map_cons, List.map_nil, hs, hx, hr]
    exact h av ac w' h2 h3
/-- the streets that a row meets, each once, after so many days. -/
def strF (zss : List (List Int)) (r : List Int) : Nat → List Int
  | 0 => []
  | k + 1 => if (strF zss r k).contains (nth (lth zss k) (nth r k).toNat) = true then strF zss r k else strF zss r k ++ [nth (lth zss k) (nth r k).toNat]
theorem strF_one (zss : List (List Int)) (r : List Int) (k : Nat) (h : (strF zss r k).contains (nth (lth zss k) (nth r k).toNat) = true) : strF zss r (k + 1) = strF zss r k := by
  show (if _ then _ else _) = _
  rw [if_pos h]
theorem strF_two (zss : List (List Int)) (r : List Int) (k : Nat) (h : (strF zss r k).contains (nth (lth zss k) (nth r k).toNat) = false) : strF zss r (k + 1) = strF zss r k ++ [nth (lth zss k) (nth r k).toNat] := by
  show (if _ then _ else _) = _
  rw [if_neg (by rw [h]; decide)]
theorem strF_len (zss : List (List Int)) (r : List Int) : ∀ k, (strF zss r k).length ≤ k
  | 0 => Nat.le_refl _
  | k + 1 => by
    have := strF_len zss r k
    unfold strF
    split
    · omega
    · rw [List.length_append]; simp; omega
/-- the crossings, as the reference finds them. -/
def crsR (n : Nat) (zss : List (List Int)) : List (List Int) := (ordT n n []).filter fun r => decide ((strF zss r n).length = n)
set_option maxRecDepth 100000 in
set_option maxHeartbeats 8000000 in
theorem rcrossings_any (n : Nat) (hn : n ≤ 5) (a : Option Addr) (cap : Nat) (zss : List (List Int)) (w : World) (hL : LstC w a zss) (hl : zss.length = n) (hz : ∀ k, k < n → (lth zss k).length = n) :
    Calls Try.prog 86 #[.slice a n cap] w fun e w' => ∃ v, e = .returned v ∧ OwnX w' w.heap.size v (crsR n zss) ∧ Fut w w' := by
  obtain ⟨i0, hi0, hz0, hz1, hz2⟩ := info_parts info3
  obtain ⟨i1, hi1, hy0, hy1, hy2⟩ := info_parts info28
  have HR := Lib.hid (rows_own n hn n none 0 [] w (by simp) (fun h => World.ownsRow_nil _ _ _ _) (nil_ints _ _))
  have HP := Lib.hid (ord_pos n)
  have HLE := Lib.hid (ord_le hn)
  have HLN := Lib.hid (fun r (h : r ∈ ordT n n []) => ord_len h)
  have HIN := Lib.hid (fun r (h : r ∈ ordT n n []) (k : Nat) (hk : k < n) => ord_in h hk)
  have HL := Lib.hid hL
  have HZ := Lib.hid hz
  have HLL := Lib.hid hl
  have hnx : (n : Int) ≤ 5 := by omega
  unfold crsR
  clear hL hl hz
  generalize hords : ordT n n [] = os at *
  have HOS := Lib.hid hords
  clear hords HOS
  go_enter Try.func86, Try.ntmps86
  go_wp2_with fail
  refine HR.out.mono ?_
  rintro _ w1 ⟨v, rfl, hX1, F1⟩
  obtain ⟨g, c, _, rfl, _⟩ := hX1.take HP.out
  have HX1 := Lib.hid hX1
  have HF1 := Lib.hid F1
  have hox : (os.length : Int) ≤ 5000 := by have := HLE.out; omega
  clear hX1 F1 HR
  go_wp2_with fail
  go_loopw [3, 5] (fun ov iv wx => ∃ i : Nat, i ≤ os.length ∧ iv = .int .i64 i ∧ Hid (OwnX wx w1.heap.size ov ((os.take i).filter fun r => decide ((strF zss r n).length = n))) ∧ Hid (Fut w1 wx)) (fun _ iv _ => os.length - (intOf iv).toNat)
  case atStart => exact ⟨0, Nat.zero_le _, rfl, Lib.hid (OwnX.nil _ _), Lib.hid Fut.rfl⟩
  case round =>
    obtain ⟨i, hin, rfl, HOX, HFX⟩ := hrel
    obtain ⟨wo, hwo⟩ : ∃ wo, wo = wr := ⟨_, rfl⟩
    subst hwo
    by_cases hlt : i < os.length
    · have hix : (i : Int) < os.length := by omega
      have hmem : lth os i ∈ os := by rw [lth_eq, List.getElem?_eq_getElem hlt]; exact List.getElem_mem _
      have HGL := Lib.hid (HLN.out _ hmem)
      have HGI := Lib.hid (HIN.out _ hmem)
      clear hmem
      have HTK : Hid ((os.take (i + 1)).filter (fun r => decide ((strF zss r n).length = n)) = (os.take i).filter (fun r => decide ((strF zss r n).length = n)) ++ (if (strF zss (lth os i) n).length = n then [lth os i] else [])) := Lib.hid (by
        have e : lth os i = os[i] := by rw [lth_eq, List.getElem?_eq_getElem hlt]; rfl
        rw [List.take_succ_eq_append_getElem hlt, List.filter_append, e, List.filter_cons, List.filter_nil]
        by_cases h : (strF zss os[i] n).length = n
        · simp [h]
        · simp [h])
      have HFL : Hid (((os.take i).filter fun r => decide ((strF zss r n).length = n)).length ≤ 5000) := Lib.hid (Nat.le_trans (List.length_filter_le _ _) (by rw [List.length_take]; have := HLE.out; omega))
      generalize (os.take i).filter (fun r => decide ((strF zss r n).length = n)) = acc at *
      have HSL := Lib.hid (strF_len zss (lth os i))
      obtain ⟨al, ac, hgs, hcell, hOr⟩ := (HX1.out.fut HFX.out).at i hlt
      rw [HGL.out] at hcell hOr
      have HOR := Lib.hid hOr
      have HCL := Lib.hid hcell
      clear hOr hcell
      go_wp2_with fail
      go_loopw [6, 7] (fun sv kv wx => ∃ k : Nat, k ≤ n ∧ kv = .int .i64 k ∧ Hid (Owns wx wo.heap.size sv (strF zss (lth os i) k)) ∧ Hid (Fut wo wx)) (fun _ kv _ => n - (intOf kv).toNat)
      case atStart => exact ⟨0, Nat.zero_le _, rfl, Lib.hid (World.ownsRow_nil _ _ _ _), Lib.hid Fut.rfl⟩
      case round =>
        obtain ⟨k, hkn, rfl, HOS, HFI⟩ := hrel
        by_cases hkl : k < n
        · have hkx : (k : Int) < n := by omega
          obtain ⟨pb, po, pl, plc, ea, hbb, d1, _, _, hIp⟩ := (HL.out.fut (HF1.out.trans HFX.out)) k (by rw [HLL.out]; exact hkl)
          subst ea
          have hzk := HZ.out k hkl
          obtain ⟨a', c', e, hIr⟩ := HOR.out.ints
          rw [HGL.out] at e
          simp only [Value.slice.injEq, true_and] at e
          obtain ⟨rfl, rfl⟩ := e
          obtain ⟨rb, ro, rfl, hrb, hcr⟩ := hIr k (by rw [HGL.out]; exact hkl)
          obtain ⟨m0, m1⟩ := HGI.out k hkl
          have HT1 := Lib.hid (strF_one zss (lth os i) k)
          have HT2 := Lib.hid (strF_two zss (lth os i) k)
          have HSK := Lib.hid (HSL.out k)
          obtain ⟨m, hm⟩ := Int.eq_ofNat_of_zero_le m0
          rw [hm] at hcr m1 HT1 HT2
          rw [show ((m : Int)).toNat = m by simp] at HT1 HT2
          have hml : m < n := by omega
          obtain ⟨qb, qo, rfl, hqb, hcq⟩ := hIp m (by rw [hzk]; exact hml)
          rw [hzk] at d1
          have d2 := HCL.out
          obtain ⟨sa, sc, rfl, hIs⟩ := HOS.out.ints
          have HIS := Lib.hid hIs
          clear hIp hIr m0 hzk hm hIs
          generalize nth (lth zss k) m = st at *
          generalize hstrs : strF zss (lth os i) k = strs at *
          have HE := Lib.hid hstrs
          clear hstrs HE
          have HHA := Lib.hid (rhas_any sa sc strs st wr.drew (HIS.out.fut (below_drewN Fut.rfl 1)) (by have := HSK.out; omega))
          have HCF : Hid (∀ W, Fut wo W → W.cell? ⟨pb, po + k, none⟩ = some (.slice (some ⟨qb, qo, none⟩) n plc) ∧ W.cell? ⟨g, i, none⟩ = some (.slice (some ⟨rb, ro, none⟩) n ac) ∧ W.cell? ⟨rb, ro + k, none⟩ = some (.int .i64 m) ∧ W.cell? ⟨qb, qo + m, none⟩ = some (.int .i64 st)) := Lib.hid (fun W F => ⟨(RowKit.Below.cell F (p := ⟨pb, po + k, none⟩) hbb).trans d1, (RowKit.Below.cell F (p := ⟨g, i, none⟩) hgs).trans d2, (RowKit.Below.cell F (p := ⟨rb, ro + k, none⟩) hrb).trans hcr, (RowKit.Below.cell F (p := ⟨qb, qo + m, none⟩) hqb).trans hcq⟩)
          clear d1 d2 hcr hcq
          obtain ⟨d1, d2, d3, d4⟩ := HCF.out wr HFI.out
          have hstx : (strs.length : Int) ≤ 5 := by have := HSK.out; omega
          go_upto_region 10 with fail
          cases hb : strs.contains st
          · have HT := Lib.hid (HT2.out hb)
            rw [hb] at HHA
            clear hb HT1 HT2
            go_region_held3 (fun w' => w'.cell? ⟨pb, po + k, none⟩ = some (.slice (some ⟨qb, qo, none⟩) n plc) ∧ w'.cell? ⟨g, i, none⟩ = some (.slice (some ⟨rb, ro, none⟩) n ac) ∧ w'.cell? ⟨rb, ro + k, none⟩ = some (.int .i64 m) ∧ w'.cell? ⟨qb, qo + m, none⟩ = some (.int .i64 st)) (go_keep) (first | (go_at_call 115; refine HHA.out.mono ?_; rintro _ _ ⟨rfl, rfl⟩))
            go_upto_region 11 with fail
            have F11 : Fut wr ((wr.alloc (.cells #[.int .i64 st] 3)).drew.drew) := below_drewN (below_drewN (Fut.alloc _ _) 1) 1
            have HF11 := Lib.hid F11
            have HRW : Hid (((wr.alloc (.cells #[.int .i64 st] 3)).drew.drew).ownsRow wo.heap.size 3 1 (.slice sa strs.length sc) strs.length (strs.map (Value.int .i64))) := Lib.hid (HOS.out.fut F11)
            have HFO := Lib.hid (HFI.out.trans F11)
            clear F11
            go_region_held3 (fun w' => w'.cell? ⟨pb, po + k, none⟩ = some (.slice (some ⟨qb, qo, none⟩) n plc) ∧ w'.cell? ⟨g, i, none⟩ = some (.slice (some ⟨rb, ro, none⟩) n ac) ∧ w'.cell? ⟨rb, ro + k, none⟩ = some (.int .i64 m) ∧ w'.cell? ⟨qb, qo + m, none⟩ = some (.int .i64 st)) (first | go_keep | exact ⟨y1, y2, y3, y4⟩) (first | (refine step_append_src (by rfl) _ _ _ (by rfl) wo.heap.size 3 i0 (.int .i64 0) 8 Try.underlying28 hi0 hz0 hz1 hz2 rfl (.slice sa strs.length sc) strs.length (strs.map (.int .i64)) (by rfl) (by exact HRW.out) (.slice (some ⟨wr.heap.size, 0, none⟩) 1 1) 1 [.int .i64 st] (by rfl) (.inr ⟨⟨wr.heap.size, 0, none⟩, 1, rfl, rfl, cell_one (by simp [go_sem]), by simp [Value.oneCell']⟩) (by unfold maxLen; omega) (by omega) (by exact RowKit.Below.size HFO.out) ?_; intro av9 ac9 w9 hown9 hgrow9; have F9 : Fut wo w9 := RowKit.Below.grown HFO.out hgrow9 (RowKit.Below.size HFO.out) (fun q hq => (World.ownsRow.lt HRW.out q hq).1); obtain ⟨y1, y2, y3, y4⟩ := HCF.out w9 F9))
            have HO9 : Hid (Owns w9 wo.heap.size (.slice av9 (strs.length + 1) ac9) (strs ++ [st])) := Lib.hid (by
              unfold Owns
              simpa using hown9)
            have HF9 := Lib.hid F9
            clear hown9 hgrow9 F9 y1 y2 y3 y4
            go_wp2
            go_round
            case rel => exact ⟨k + 1, by omega, by go_num, by rw [HT.out]; exact HO9, HF9⟩
            case measure => simp [intOf]; omega
          · have HT := Lib.hid (HT1.out hb)
            rw [hb] at HHA
            clear hb HT1 HT2
            go_region_held3 (fun w' => w'.cell? ⟨pb, po + k, none⟩ = some (.slice (some ⟨qb, qo, none⟩) n plc) ∧ w'.cell? ⟨g, i, none⟩ = some (.slice (some ⟨rb, ro, none⟩) n ac) ∧ w'.cell? ⟨rb, ro + k, none⟩ = some (.int .i64 m) ∧ w'.cell? ⟨qb, qo + m, none⟩ = some (.int .i64 st)) (go_keep) (first | (go_at_call 115; refine HHA.out.mono ?_; rintro _ _ ⟨rfl, rfl⟩))
            go_wp2
            go_round
            case rel => exact ⟨k + 1, by omega, by go_num, by rw [HT.out]; exact Lib.hid (HOS.out.fut (below_drewN Fut.rfl 1)), Lib.hid (below_drewN HFI.out 1)⟩
            case measure => simp [intOf]; omega
        · obtain rfl : k = n := by omega
          obtain ⟨sa, sc, rfl, _⟩ := HOS.out.ints
          generalize strF zss (lth os i) k = strs at *
          by_cases hq : strs.length = k
          · rw [if_pos hq] at HTK
            have hqx : (strs.length : Int) = k := by omega
            have hcell : wr.cell? ⟨g, i, none⟩ = some (.slice al k ac) := (RowKit.Below.cell HFI.out (p := ⟨g, i, none⟩) hgs).trans HCL.out
            have hgw : g < wr.heap.size := Nat.lt_of_lt_of_le hgs (RowKit.Below.size HFI.out)
            obtain ⟨vals, hrow, hel⟩ := HOX.out.fut HFI.out
            have HRW := Lib.hid hrow
            have HEL := Lib.hid hel
            have HFW := Lib.hid (HFX.out.trans HFI.out)
            have HBW : Hid (w1.heap.size ≤ wr.heap.size) := Lib.hid (RowKit.Below.size HFW.out)
            have HORW : Hid (Owns wr 0 (.slice al (lth os i).length ac) (lth os i)) := Lib.hid (by rw [HGL.out]; exact HOR.out.fut HFI.out)
            clear hrow hel
            go_wp2_with (at_builtin; refine wpList_append_lies _ rfl _ _ 22 rfl w1.heap.size 28 i1 (.slice none 0 0) 1 24 Try.underlying22 hi1 hy0 hy1 hy2 rfl (by decide) _ acc.length vals rfl (row_fut HRW.out (Fut.alloc _ _)) ⟨wr.heap.size, 0, none⟩ 1 1 [.slice al k ac] rfl rfl (cell_one (by simp [go_sem])) (by simp [Value.oneCell']) (by omega) (by have := HFL.out; unfold maxLen; omega) (by have := HFL.out; omega) (Nat.le_trans HBW.out (RowKit.Below.size (Fut.alloc wr _))) _ rfl ?_)
            intro g8 c8 w8 hown8 hgrow8 _ _
            rw [← HGL.out] at hown8
            have HX8 : Hid (OwnX w8 w1.heap.size (.slice (some ⟨g8, 0, none⟩) (acc.length + 1) c8) (acc ++ [lth os i])) := Lib.hid (OwnX.app (row_fut HRW.out (Fut.alloc _ _)) (HEL.out.fut (Fut.alloc _ _)) (HORW.out.fut (Fut.alloc _ _)) hown8 hgrow8)
            have HF8 : Hid (Fut w1 w8) := Lib.hid (RowKit.Below.grown (HFW.out.trans (Fut.alloc wr (.cells #[.slice al k ac] 28))) hgrow8 (RowKit.Below.size (HFW.out.trans (Fut.alloc wr (.cells #[.slice al k ac] 28)))) fun q hq => (World.ownsRow.lt HRW.out q hq).1)
            clear hown8 hgrow8
            go_wp2
            go_round
            case rel => exact ⟨i + 1, by omega, by go_num, by rw [HTK.out]; exact HX8, HF8⟩
            case measure => simp [intOf]; omega
          · rw [if_neg hq, List.append_nil] at HTK
            have hqx : ¬ (strs.length : Int) = k := by omega
            go_wp2
            go_round
            case rel => exact ⟨i + 1, by omega, by go_num, by rw [HTK.out]; exact Lib.hid (HOX.out.fut HFI.out), Lib.hid (HFX.out.trans HFI.out)⟩
            case measure => simp [intOf]; omega
    · obtain rfl : i = os.length := by omega
      go_wp2
      go_ret
      exact ⟨_, rfl, by have h := HOX.out; rw [List.take_length] at h; exact h.base (RowKit.Below.size HF1.out), HF1.out.trans HFX.out⟩
end Go.Proofs.Ytpgifeaejjjjnaa
