/- closure 88 of all: one tree more (in88); Concat of three -/
import Derived.Test.YtjapconhehdcjaaWA
import Derived.Test.YtjapconhehdcjaaVC
import Derived.Deep.DeepCutAuto
import Derived.Deep.AppendLies
namespace Go.Proofs.Ytjapconhehdcjaa
open Go.RowKit Go.Sort
theorem own_le {w : World} {B n c : Nat} {l : Option Addr} {L : List Int} (hn : L.length = n) (h : Owns w B (.slice l n c) L) : n ≤ c := by
  rcases Nat.eq_zero_or_pos n with h0 | h0
  · omega
  · obtain ⟨g, _, _, _, _, h5⟩ := h.row hn h0
    exact h5
theorem lst_three (w : World) {l k m : Option Addr} {zs ys xs : List Int} {zn yn xn lc kc mc : Nat} (h1 : IntsAt w l zs) (h2 : IntsAt w k ys) (h3 : IntsAt w m xs) (e1 : zs.length = zn) (e2 : ys.length = yn) (e3 : xs.length = xn) :
    LstAt (w.alloc (.cells #[.slice l zn lc, .slice k yn kc, .slice m xn mc] 22)) (some ⟨w.heap.size, 0, none⟩) [zs, ys, xs] := fun j hj => by
  subst e1; subst e2; subst e3
  have F : Fut w (w.alloc (.cells #[.slice l zs.length lc, .slice k ys.length kc, .slice m xs.length mc] 22)) := Fut.alloc _ _
  match j, hj with
  | 0, _ => exact ⟨w.heap.size, 0, l, lc, rfl, by rw [World.size_alloc]; omega, by rw [World.cell?_alloc_at _ _ _ _ rfl]; rfl, h1.fut F⟩
  | 1, _ => exact ⟨w.heap.size, 0, k, kc, rfl, by rw [World.size_alloc]; omega, by rw [World.cell?_alloc_at _ _ _ _ rfl]; rfl, h2.fut F⟩
  | 2, _ => exact ⟨w.heap.size, 0, m, mc, rfl, by rw [World.size_alloc]; omega, by rw [World.cell?_alloc_at _ _ _ _ rfl]; rfl, h3.fut F⟩
  | j + 3, h => simp at h; omega
theorem cat3 (s : Nat) (W : World) (zs ys xs : List Int) (n : Nat) (h : LstAt W (some ⟨s, 0, none⟩) [zs, ys, xs]) (hn : zs.length + (ys.length + xs.length) = n) (hb : zs.length ≤ 8 ∧ ys.length ≤ 8 ∧ xs.length ≤ 8) :
    Calls Try.prog 89 #[.slice (some ⟨s, 0, none⟩) 3 3] W fun e w' => ∃ l c, e = .returned (.slice l n c) ∧ Owns w' W.heap.size (.slice l n c) (zs ++ (ys ++ xs)) ∧ n ≤ c ∧ Fut W w' := by
  refine (concat_any (some ⟨s, 0, none⟩) 3 [zs, ys, xs] W h (by simp) (fun k hk => ?_)).mono ?_
  · match k, hk with
    | 0, _ => show zs.length ≤ 1000; omega
    | 1, _ => show ys.length ≤ 1000; omega
    | 2, _ => show xs.length ≤ 1000; omega
    | k + 3, h => simp at h; omega
  · rintro e w' ⟨v, rfl, hO, F⟩
    have ef : [zs, ys, xs].flatten = zs ++ (ys ++ xs) := by simp
    rw [ef] at hO
    obtain ⟨l, c, rfl, _⟩ := hO.ints
    have en : (zs ++ (ys ++ xs)).length = n := by rw [List.length_append, List.length_append]; exact hn
    rw [en] at hO ⊢
    exact ⟨l, c, rfl, hO, own_le en hO, F⟩
def upL (L : List Int) : List Int := L.map (· + 1)
theorem upL_len (L : List Int) : (upL L).length = L.length := by unfold upL; simp
theorem up_take (L : List Int) (i : Nat) (h : i < L.length) : upL (L.take (i + 1)) = upL (L.take i) ++ [nth L i + 1] := by
  unfold upL
  rw [List.take_succ_eq_append_getElem h, List.map_append, nth_eq, List.getElem?_eq_getElem h]; rfl
theorem up_full (L : List Int) : upL (L.take L.length) = upL L := by rw [List.take_length]
theorem up_node (l r : Sv.Tr) : castL (Sv.Tr.node l r).dep = upL (castL l.dep) ++ upL (castL r.dep) := by
  unfold castL upL
  rw [Sv.Tr.dep, List.map_map, List.map_map, List.map_map, ← List.map_append, List.map_append]
  simp [Function.comp_def]
theorem lst_node (a : Nat) (l r : Sv.Tr) : (Sv.Tr.node l r).lst a = [((a + l.size - 1 : Nat) : Int)] ++ (l.lst a ++ r.lst (a + l.size)) := rfl
set_option maxRecDepth 100000 in
set_option maxHeartbeats 8000000 in
theorem in88 {Z : Nat → Prop} {g : Nat} {cb : Array Value} {a : Nat} {L : List Sv.Tr} {P : List Sv.Tr → World → Prop} (C : Cb Z g cb a L P) {D : List Sv.Tr} {l r : Sv.Tr} {W : World} (hP : P D W) (hZ : ∀ q, Z q → q < W.heap.size) (hfx : D ++ [.node l r] <+: L) (hs : (Sv.Tr.node l r).size ≤ 8) {Bd Be Bk Bl k : Nat} {da la ra ea : Option Addr} {dn dc ln lc rn rc en ec : Nat}
    (hd : CellZ Z W Bd (.slice da dn dc)) (hdI : IntsZ Z W da (castL l.dep)) (hdn : l.dep.length = dn) (he : CellZ Z W Be (.func (.func g) #[] cb)) (hk : CellZ Z W Bk (.int .i64 (k : Nat))) (hkv : a + l.size = k + 1) (hk9 : k ≤ 100) (hl : CellZ Z W Bl (.slice la ln lc)) (hlI : IntsZ Z W la (l.lst a)) (hln : (l.lst a).length = ln)
    (hrI : IntsZ Z W ra (r.lst (k + 1))) (hrn : (r.lst (k + 1)).length = rn) (heI : IntsZ Z W ea (castL r.dep)) (hen : r.dep.length = en) :
    Calls Try.prog 88 #[.slice ra rn rc, .slice ea en ec, .pointer (some ⟨Bd, 0, none⟩), .pointer (some ⟨Be, 0, none⟩), .pointer (some ⟨Bk, 0, none⟩), .pointer (some ⟨Bl, 0, none⟩)] W fun e w' => e = .returned (.tuple #[]) ∧ But Z W w' ∧ P (D ++ [.node l r]) w' := by
  obtain ⟨i0, hi0, hz0, hz1, hz2⟩ := info_parts info3
  have hdl := fun d (h : d ∈ l.dep) => Sv.dep_lt l d h
  have hdr := fun d (h : d ∈ r.dep) => Sv.dep_lt r d h
  have hls : l.size ≤ 8 ∧ r.size ≤ 8 := by rw [Sv.Tr.size] at hs; omega
  have HST := Lib.hid (fun W2 l2 c2 d2 e2 (F : Fut W W2) h1 h2 h3 h4 => C.step D (.node l r) W2 l2 ((Sv.Tr.node l r).lst a).length c2 d2 (Sv.Tr.node l r).dep.length e2 (C.stay D W W2 hP F) (fun q hq => Nat.lt_of_lt_of_le (hZ q hq) (RowKit.Below.size F)) hfx h1 h2 rfl rfl h3 h4)
  have hnl : ((Sv.Tr.node l r).lst a).length = 1 + (ln + rn) := by rw [lst_node, List.length_append, List.length_append, hln, show a + l.size = k + 1 from hkv, hrn]; rfl
  have hnd : (Sv.Tr.node l r).dep.length = dn + en := by rw [Sv.dep_len, Sv.Tr.size, ← Sv.dep_len, ← Sv.dep_len, hdn, hen]
  rw [hnl, hnd, up_node, lst_node, hkv, show k + 1 - 1 = k by omega] at HST
  obtain ⟨LL, hLL⟩ : ∃ x, l.lst a = x := ⟨_, rfl⟩
  obtain ⟨RL, hRL⟩ : ∃ x, r.lst (k + 1) = x := ⟨_, rfl⟩
  obtain ⟨LD, hLD⟩ : ∃ x, castL l.dep = x := ⟨_, rfl⟩
  obtain ⟨RD, hRD⟩ : ∃ x, castL r.dep = x := ⟨_, rfl⟩
  have hld : LD.length = dn ∧ dn ≤ 8 := by rw [← hLD, castL_len, hdn]; rw [Sv.dep_len] at hdn; omega
  have hrd : RD.length = en ∧ en ≤ 8 := by rw [← hRD, castL_len, hen]; rw [Sv.dep_len] at hen; omega
  have HBL := Lib.hid (fun i (hi : i < LD.length) => show 0 ≤ nth LD i ∧ nth LD i ≤ 8 by
    have := nth_mem hi
    rw [← hLD] at this ⊢
    obtain ⟨d, h1, h2⟩ := Sv.castL_mem this
    have := hdl d h1
    rw [h2]; omega)
  have HBR := Lib.hid (fun i (hi : i < RD.length) => show 0 ≤ nth RD i ∧ nth RD i ≤ 8 by
    have := nth_mem hi
    rw [← hRD] at this ⊢
    obtain ⟨d, h1, h2⟩ := Sv.castL_mem this
    have := hdr d h1
    rw [h2]; omega)
  have hll8 : ln ≤ 8 ∧ rn ≤ 8 := by have := Sv.lst_len a l; have := Sv.lst_len (k + 1) r; omega
  rw [hLL] at hlI hln
  rw [hRL] at hrI hrn
  rw [hLD] at hdI
  rw [hRD] at heI
  rw [hLL, hRL, hLD, hRD] at HST
  have HZ := Lib.hid hZ
  have HD := Lib.hid hd
  have HE := Lib.hid he
  have HK := Lib.hid hk
  have HL := Lib.hid hl
  have HDI := Lib.hid hdI
  have HLI := Lib.hid hlI
  have HRI := Lib.hid hrI
  have HEI := Lib.hid heI
  have HEG := Lib.hid C.eg
  have HLD := Lib.hid hld.1
  have HRD := Lib.hid hrd.1
  have HLn := Lib.hid hln
  have HRn := Lib.hid hrn
  have hd8 := hld.2
  have he8 := hrd.2
  have hdx : (dn : Int) ≤ 8 := by omega
  have hex : (en : Int) ≤ 8 := by omega
  clear hP hZ hfx hs hd hdI he hk hl hlI hrI heI C hdl hdr hLL hRL hLD hRD hnl hnd hls hld hrd hdn hen hln hrn
  have c0 := HD.out.2.2
  go_enter Try.func88, Try.ntmps88
  go_wp2_with fail
  clear c0
  go_loopw [8, 15] (fun ov iv wr => ∃ (i : Nat) (oa : Option Addr) (oc : Nat), i ≤ dn ∧ iv = .int .i64 (i : Nat) ∧ ov = .slice oa i oc ∧ Hid (Owns wr W.heap.size (.slice oa i oc) (upL (LD.take i))) ∧ Hid (Fut W wr)) (fun _ iv _ => dn - (intOf iv).toNat)
  case atStart => exact ⟨0, none, 0, by omega, rfl, rfl, Lib.hid (World.ownsRow_nil _ _ _ _), Lib.hid Fut.rfl⟩
  case round =>
    obtain ⟨i, oa, oc, hi, rfl, rfl, HO, HF⟩ := hrel
    by_cases hil : i < dn
    · have hix : (i : Int) < dn := by omega
      obtain ⟨bb, oo, rfl, hbb, c1⟩ := (HDI.out.here.fut HF.out) i (by rw [HLD.out]; exact hil)
      have hxb := HBL.out i (by rw [HLD.out]; exact hil)
      have HSU := Lib.hid (up_take LD i (by rw [HLD.out]; exact hil))
      have HUl : Hid ((upL (LD.take i)).length = i) := Lib.hid (by rw [upL_len, List.length_take, HLD.out]; omega)
      generalize nth LD i = x at *
      have hwx : IntKind.i64.wrap (x + 1) = x + 1 := IntWalk.i64_in _ ⟨by omega, by omega⟩
      have hwi : IntKind.i64.wrap ((i : Int) + 1) = ((i + 1 : Nat) : Int) := by rw [IntWalk.i64_in _ ⟨by omega, by omega⟩]; omega
      have FA : Fut wr (wr.alloc (.cells #[.int .i64 (x + 1)] 3)) := Fut.alloc _ _
      have HOW : Hid ((wr.alloc (.cells #[.int .i64 (x + 1)] 3)).ownsRow W.heap.size 3 1 (.slice oa i oc) i ((upL (LD.take i)).map (Value.int .i64))) := Lib.hid (by have h := HO.out.fut FA; unfold Owns at h; rwa [HUl.out] at h)
      have HFA := Lib.hid (HF.out.trans FA)
      have HZA : Hid (W.heap.size ≤ (wr.alloc (.cells #[.int .i64 (x + 1)] 3)).heap.size) := Lib.hid (RowKit.Below.size HFA.out)
      clear FA HO
      go_wp2_with (at_builtin; refine wpList_append_lies _ rfl _ _ 22 rfl W.heap.size 3 i0 (.int .i64 0) 1 8 Try.underlying22 hi0 hz0 hz1 hz2 rfl (by decide) (.slice oa i oc) i ((upL (LD.take i)).map (Value.int .i64)) rfl HOW.out ⟨wr.heap.size, 0, none⟩ 1 1 [.int .i64 (x + 1)] rfl rfl (cell_one (by simp [go_sem])) (by simp [Value.oneCell']) (by omega) (by unfold maxLen; omega) (by omega) HZA.out _ rfl ?_)
      intro g8 c8 w8 hown8 hgrow8 hat8 _
      have HX8 : Hid (Owns w8 W.heap.size (.slice (some ⟨g8, 0, none⟩) (i + 1) c8) (upL (LD.take (i + 1)))) := Lib.hid (by
        unfold Owns
        rw [HSU.out, List.length_append, HUl.out, List.map_append]; exact hown8)
      have HF8 : Hid (Fut W w8) := Lib.hid (fut_own HFA.out hgrow8 (fun q hq => (World.ownsRow.lt HOW.out q hq).1))
      clear hown8 hgrow8 hat8 HOW HFA HZA c1
      go_wp2_with fail
      go_roundw
      case rel => first
        | exact ⟨i + 1, _, c8, by omega, rfl, rfl, HX8, HF8⟩
        | ((repeat apply Exists.intro); exact ⟨⟨i + 1, _, c8, by omega, rfl, rfl, HX8, HF8⟩, rfl⟩)
      case measure => simp [intOf]; omega
    · obtain rfl : i = dn := by omega
      have HUL : Hid (upL (LD.take i) = upL LD) := Lib.hid (by rw [← HLD.out, up_full])
      rw [HUL.out] at HO
      have HULl : Hid ((upL LD).length = i) := Lib.hid (by rw [upL_len, HLD.out])
      go_wp2_with fail
      go_loopw [8, 27] (fun ov jv wr => ∃ (j : Nat) (oa : Option Addr) (oc : Nat), j ≤ en ∧ jv = .int .i64 (j : Nat) ∧ ov = .slice oa (i + j) oc ∧ Hid (Owns wr W.heap.size (.slice oa (i + j) oc) (upL LD ++ upL (RD.take j))) ∧ Hid (Fut W wr)) (fun _ jv _ => en - (intOf jv).toNat)
      case atStart => exact ⟨0, oa, oc, by omega, rfl, rfl, Lib.hid (by have := HO.out; simpa [upL] using this), HF⟩
      case round =>
        clear HO HF
        obtain ⟨j, oa, oc, hj, rfl, rfl, HO, HF⟩ := hrel
        by_cases hjl : j < en
        · have hjx : (j : Int) < en := by omega
          obtain ⟨bb, oo, rfl, hbb, c1⟩ := (HEI.out.here.fut HF.out) j (by rw [HRD.out]; exact hjl)
          have hxb := HBR.out j (by rw [HRD.out]; exact hjl)
          have HSU := Lib.hid (up_take RD j (by rw [HRD.out]; exact hjl))
          have HUl : Hid ((upL LD ++ upL (RD.take j)).length = i + j) := Lib.hid (by rw [List.length_append, HULl.out, upL_len, List.length_take, HRD.out]; omega)
          generalize nth RD j = x at *
          have hwx : IntKind.i64.wrap (x + 1) = x + 1 := IntWalk.i64_in _ ⟨by omega, by omega⟩
          have hwi : IntKind.i64.wrap ((j : Int) + 1) = ((j + 1 : Nat) : Int) := by rw [IntWalk.i64_in _ ⟨by omega, by omega⟩]; omega
          have FA : Fut wr (wr.alloc (.cells #[.int .i64 (x + 1)] 3)) := Fut.alloc _ _
          have HOW : Hid ((wr.alloc (.cells #[.int .i64 (x + 1)] 3)).ownsRow W.heap.size 3 1 (.slice oa (i + j) oc) (i + j) ((upL LD ++ upL (RD.take j)).map (Value.int .i64))) := Lib.hid (by have h := HO.out.fut FA; unfold Owns at h; rwa [HUl.out] at h)
          have HFA := Lib.hid (HF.out.trans FA)
          have HZA : Hid (W.heap.size ≤ (wr.alloc (.cells #[.int .i64 (x + 1)] 3)).heap.size) := Lib.hid (RowKit.Below.size HFA.out)
          clear FA HO
          go_wp2_with (at_builtin; refine wpList_append_lies _ rfl _ _ 22 rfl W.heap.size 3 i0 (.int .i64 0) 1 8 Try.underlying22 hi0 hz0 hz1 hz2 rfl (by decide) (.slice oa (i + j) oc) (i + j) ((upL LD ++ upL (RD.take j)).map (Value.int .i64)) rfl HOW.out ⟨wr.heap.size, 0, none⟩ 1 1 [.int .i64 (x + 1)] rfl rfl (cell_one (by simp [go_sem])) (by simp [Value.oneCell']) (by omega) (by unfold maxLen; omega) (by omega) HZA.out _ rfl ?_)
          intro g8 c8 w8 hown8 hgrow8 hat8 _
          have HX8 : Hid (Owns w8 W.heap.size (.slice (some ⟨g8, 0, none⟩) (i + (j + 1)) c8) (upL LD ++ upL (RD.take (j + 1)))) := Lib.hid (by
            unfold Owns
            rw [show i + (j + 1) = i + j + 1 from rfl, HSU.out, ← List.append_assoc, List.length_append, HUl.out]; simpa using hown8)
          have HF8 : Hid (Fut W w8) := Lib.hid (fut_own HFA.out hgrow8 (fun q hq => (World.ownsRow.lt HOW.out q hq).1))
          clear hown8 hgrow8 hat8 HOW HFA HZA c1
          go_wp2_with fail
          go_roundw
          case rel => first
            | exact ⟨j + 1, _, c8, by omega, rfl, rfl, HX8, HF8⟩
            | ((repeat apply Exists.intro); exact ⟨⟨j + 1, _, c8, by omega, rfl, rfl, HX8, HF8⟩, rfl⟩)
          case measure => simp [intOf]; omega
        · obtain rfl : j = en := by omega
          have HUR : Hid (upL (RD.take j) = upL RD) := Lib.hid (by rw [← HRD.out, up_full])
          rw [HUR.out] at HO
          go_upto_region 11 with fail
          have HFU0 : Hid (Fut W wr.drew) := Lib.hid (HF.out.trans (Fut.drewN wr 1))
          have HO0 : Hid (Owns wr.drew W.heap.size (.slice oa (i + j) oc) (upL LD ++ upL RD)) := Lib.hid (HO.out.fut (Fut.drewN wr 1))
          have keep : ∀ V, Fut wr.drew V → V.cell? ⟨Be, 0, none⟩ = some (.func (.func g) #[] cb) ∧ V.cell? ⟨Bk, 0, none⟩ = some (.int .i64 (k : Nat)) ∧ V.cell? ⟨Bl, 0, none⟩ = some (.slice la ln lc) := fun V F => ⟨(HE.out.fut (HFU0.out.trans F)).2.2, (HK.out.fut (HFU0.out.trans F)).2.2, (HL.out.fut (HFU0.out.trans F)).2.2⟩
          have LI2 : Hid (∀ V, Fut wr.drew V → IntsAt V la LL) := Lib.hid (fun V F => HLI.out.here.fut (HFU0.out.trans F))
          have RI2 : Hid (∀ V, Fut wr.drew V → IntsAt V ra RL) := Lib.hid (fun V F => HRI.out.here.fut (HFU0.out.trans F))
          have HUl2 : Hid ((upL LD ++ upL RD).length = i + j) := Lib.hid (by rw [List.length_append, HULl.out, upL_len, HRD.out])
          have hl3 : LL.length ≤ 8 ∧ RL.length ≤ 8 := by have := HLn.out; have := HRn.out; omega
          have HLC : Hid (i + j ≤ oc) := Lib.hid (own_le HUl2.out HO.out)
          clear HO HF
          refine wp_region_held_drew (S := (fun w' => w'.cell? ⟨Be, 0, none⟩ = some (.func (.func g) #[] cb) ∧ w'.cell? ⟨Bk, 0, none⟩ = some (.int .i64 (k : Nat)) ∧ w'.cell? ⟨Bl, 0, none⟩ = some (.slice la ln lc))) (by kernel_rfl) ?_ (fun hHeld => ?_)
          · exact keep _ Fut.rfl
          generalize wr.drew = u0 at *
          refine wpAnyH_take (i := 0) (oi := { dst := some 37, op := Op.load 51 (Operand.tmp 3), type := 51, pos := "outright.go:52", after := #[], guard := none }) (v := ?_) rfl (by kernel_rfl) (by kernel_rfl) (by kernel_rfl) (fun _ _ _ h => h) (Or.inl ⟨by rfl, ?_⟩) (by assumption) ?_
          rotate_left
          · (intro w hSw; obtain ⟨s0, s1, s2⟩ := hSw; go_simp <;> with_reducible rfl)
          try simp only [Act.put, List.setIfInBounds_toArray, List.set_cons_zero, List.set_cons_succ]
          refine wpAnyH_take (i := 1) (oi := { dst := some 38, op := Op.load 3 (Operand.tmp 4), type := 3, pos := "outright.go:52", after := #[], guard := none }) (v := ?_) rfl (by kernel_rfl) (by kernel_rfl) (by kernel_rfl) (fun _ _ _ h => h) (Or.inl ⟨by rfl, ?_⟩) (by assumption) ?_
          rotate_left
          · (intro w hSw; obtain ⟨s0, s1, s2⟩ := hSw; go_simp <;> with_reducible rfl)
          try simp only [Act.put, List.setIfInBounds_toArray, List.set_cons_zero, List.set_cons_succ]
          refine wpAnyH_take (i := 4) (oi := { dst := some 41, op := Op.load 22 (Operand.tmp 5), type := 22, pos := "outright.go:52", after := #[], guard := none }) (v := ?_) rfl (by kernel_rfl) (by kernel_rfl) (by kernel_rfl) (fun _ _ _ h => h) (Or.inl ⟨by rfl, ?_⟩) (by assumption) ?_
          rotate_left
          · (intro w hSw; obtain ⟨s0, s1, s2⟩ := hSw; go_simp <;> with_reducible rfl)
          try simp only [Act.put, List.setIfInBounds_toArray, List.set_cons_zero, List.set_cons_succ]
          refine wpAnyH_take (i := 5) (oi := { dst := some 42, op := Op.move (Operand.tmp 0), type := 22, pos := "outright.go:52", after := #[], guard := none }) (v := ?_) rfl (by kernel_rfl) (by kernel_rfl) (by kernel_rfl) (fun _ _ _ h => h) (Or.inl ⟨by rfl, ?_⟩) (by assumption) ?_
          rotate_left
          · (intro w hSw; obtain ⟨s0, s1, s2⟩ := hSw; go_simp <;> with_reducible rfl)
          try simp only [Act.put, List.setIfInBounds_toArray, List.set_cons_zero, List.set_cons_succ]
          refine wpAnyH_take (i := 8) (oi := { dst := some 45, op := Op.move (Operand.tmp 8), type := 22, pos := "outright.go:52", after := #[], guard := none }) (v := ?_) rfl (by kernel_rfl) (by kernel_rfl) (by kernel_rfl) (fun _ _ _ h => h) (Or.inl ⟨by rfl, ?_⟩) (by assumption) ?_
          rotate_left
          · (intro w hSw; obtain ⟨s0, s1, s2⟩ := hSw; go_simp <;> with_reducible rfl)
          try simp only [Act.put, List.setIfInBounds_toArray, List.set_cons_zero, List.set_cons_succ]
          refine wpAnyH_ready (rs := [2]) (by kernel_rfl) (by simp) ?_
          refine AllReadyH.cons (o := { dst := some 39, op := Op.buildSlice 22 1 #[(0, Operand.tmp 38)], type := 22, pos := "outright.go:52", after := #[{ on := 1, ground := Ground.data }], guard := none }) rfl (fun K hK => ?_) AllReadyH.nil
          go_simp
          obtain ⟨v2, hv2⟩ : ∃ V, V = u0.alloc (.cells #[.int .i64 (k : Nat)] 3) := ⟨_, rfl⟩
          have F2 : Hid (Fut u0 v2) := Lib.hid (by rw [hv2]; exact Fut.alloc _ _)
          have I2 : Hid (IntsAt v2 (some ⟨u0.heap.size, 0, none⟩) [(k : Int)]) := Lib.hid (by rw [hv2]; exact ints_new u0 [(k : Int)])
          rw [← hv2]
          clear hv2
          refine hK.out _ _ ?_ (fun hHeld => ?_)
          · exact keep _ F2.out
          clear hK K
          try simp only [Act.put, List.setIfInBounds_toArray, List.set_cons_zero, List.set_cons_succ]
          refine wpAnyH_ready (rs := [3]) (by kernel_rfl) (by simp) ?_
          refine AllReadyH.cons (o := { dst := some 40, op := Op.call { callee := Callee.value (Operand.func 53), args := #[Operand.tmp 39], argTypes := #[22] }, type := 22, pos := "outright.go:52", after := #[{ on := 2, ground := Ground.data }], guard := none }) rfl (fun K hK => ?_) AllReadyH.nil
          go_simp
          go_at_call 53
          refine (list_id _ _).mono ?_
          rintro _ _ ⟨rfl, rfl⟩
          try go_wp2_with fail
          refine hK.out _ _ ?_ (fun hHeld => ?_)
          · exact keep _ F2.out
          clear hK K
          try simp only [Act.put, List.setIfInBounds_toArray, List.set_cons_zero, List.set_cons_succ]
          refine wpAnyH_ready (rs := [6]) (by kernel_rfl) (by simp) ?_
          refine AllReadyH.cons (o := { dst := some 43, op := Op.buildSlice 71 3 #[(0, Operand.tmp 40), (1, Operand.tmp 41), (2, Operand.tmp 42)], type := 71, pos := "outright.go:52", after := #[{ on := 3, ground := Ground.data }, { on := 4, ground := Ground.data }, { on := 5, ground := Ground.data }], guard := none }) rfl (fun K hK => ?_) AllReadyH.nil
          go_simp
          obtain ⟨v6, hv6⟩ : ∃ V, V = v2.alloc (.cells #[.slice (some ⟨u0.heap.size, 0, none⟩) 1 1, .slice la ln lc, .slice ra rn rc] 22) := ⟨_, rfl⟩
          have F6 : Hid (Fut u0 v6) := Lib.hid (F2.out.trans (by rw [hv6]; exact Fut.alloc _ _))
          have L6 : Hid (LstAt v6 (some ⟨v2.heap.size, 0, none⟩) [[(k : Int)], LL, RL]) := Lib.hid (by
            rw [hv6]
            exact lst_three v2 I2.out (LI2.out v2 F2.out) (RI2.out v2 F2.out) rfl HLn.out HRn.out)
          rw [← hv6]
          obtain ⟨s6, hs6⟩ : ∃ s, s = v2.heap.size := ⟨_, rfl⟩
          rw [← hs6] at L6 ⊢
          clear hv6 hs6
          refine hK.out _ _ ?_ (fun hHeld => ?_)
          · exact keep _ F6.out
          clear hK K
          try simp only [Act.put, List.setIfInBounds_toArray, List.set_cons_zero, List.set_cons_succ]
          refine wpAnyH_ready (rs := [7]) (by kernel_rfl) (by simp) ?_
          refine AllReadyH.cons (o := { dst := some 44, op := Op.call { callee := Callee.value (Operand.func 89), args := #[Operand.tmp 43], argTypes := #[71] }, type := 22, pos := "outright.go:52", after := #[{ on := 6, ground := Ground.data }, { on := 3, ground := Ground.chain }], guard := none }) rfl (fun K hK => ?_) AllReadyH.nil
          go_simp
          go_at_call 89
          refine (cat3 s6 v6 [(k : Int)] LL RL (1 + (ln + rn)) L6.out (by rw [HLn.out, HRn.out]; rfl) (by rw [HLn.out, HRn.out]; simp; omega)).mono ?_
          rintro _ v7 ⟨l7, c7, rfl, hO7, hc7, F7⟩
          have G7 : Hid (Fut u0 v7) := Lib.hid (F6.out.trans F7)
          have O7 : Hid (IntsZ Z v7 l7 ([(k : Int)] ++ (LL ++ RL))) := Lib.hid (IntsZ.own hO7 (by rw [List.length_append, List.length_append, HLn.out, HRn.out]; rfl) (fun q hq => Nat.lt_of_lt_of_le (HZ.out q hq) (RowKit.Below.size (HFU0.out.trans F6.out))))
          have C7 := Lib.hid hc7
          clear hO7 F7 hc7
          try go_wp2_with fail
          refine hK.out _ _ ?_ (fun hHeld => ?_)
          · exact keep _ G7.out
          clear hK K
          try simp only [Act.put, List.setIfInBounds_toArray, List.set_cons_zero, List.set_cons_succ]
          refine wpAnyH_ready (rs := [9]) (by kernel_rfl) (by simp) ?_
          refine AllReadyH.cons (o := { dst := some 46, op := Op.call { callee := Callee.value (Operand.tmp 37), args := #[Operand.tmp 44, Operand.tmp 45], argTypes := #[22, 22] }, type := 0, pos := "outright.go:52", after := #[{ on := 0, ground := Ground.data }, { on := 7, ground := Ground.data }, { on := 8, ground := Ground.data }, { on := 7, ground := Ground.chain }], guard := none }) rfl (fun K hK => ?_) AllReadyH.nil
          have ST := Lib.hid (HST.out v7 l7 c7 oa oc (HFU0.out.trans G7.out) O7.out (IntsZ.own (HO0.out.fut G7.out) HUl2.out HZ.out) C7.out HLC.out)
          have eg := HEG.out
          go_simp
          go_at_fn g
          refine ST.out.mono ?_
          rintro _ v9 ⟨rfl, hB9, hP9⟩
          have HB9 : Hid (But Z W v9) := Lib.hid ((But.of_below (HFU0.out.trans G7.out)).trans hB9)
          have HP9 := Lib.hid hP9
          clear hB9 hP9 eg
          try go_wp2_with fail
          refine hK.out _ _ ?_ (fun hHeld => ?_)
          · exact ⟨(HE.out.but HB9.out).2.2, (HK.out.but HB9.out).2.2, (HL.out.but HB9.out).2.2⟩
          clear hK K
          try simp only [Act.put, List.setIfInBounds_toArray, List.set_cons_zero, List.set_cons_succ]
          refine wpAnyH_done (by kernel_rfl) ?_ _
          go_wp2_with fail
          first | refine bodyPost_ret (results_none rfl _ _ _) rfl ?_ | refine bodyPost_end (results_none rfl _ _ _) rfl ?_
          exact ⟨rfl, HB9.out, HP9.out⟩
end Go.Proofs.Ytjapconhehdcjaa
