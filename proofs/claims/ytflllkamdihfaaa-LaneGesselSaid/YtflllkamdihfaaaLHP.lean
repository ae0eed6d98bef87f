/- LaneGessel's callback 43: gess_any -/
import Derived.Test.YtflllkamdihfaaaLHA
import Derived.Test.YtflllkamdihfaaaLNC
import Derived.Test.YtflllkamdihfaaaLHG
import Derived.Test.YtflllkamdihfaaaLHJ
import Derived.Test.YtflllkamdihfaaaLHN
namespace Go.Proofs.Ytflllkamdihfaaa
open Go.RowKit Go.Sort
theorem cell_of1 {w : World} {B : Nat} {t : TypeId} {x : Value} (h : w.heap[B]? = some (.cells #[x] t)) : w.cell? ⟨B, 0, none⟩ = some x := by unfold World.cell?; rw [h]; rfl
theorem froz_of1 {w : World} {B : Nat} {t : TypeId} {x : Value} (h : w.heap[B]? = some (.cells #[x] t)) : w.frozen? ⟨B, 0, none⟩ = false := by unfold World.frozen?; rw [h]; rfl
theorem set_of1 {w : World} {B : Nat} {t : TypeId} {x : Value} (u : Value) (h : w.heap[B]? = some (.cells #[x] t)) : (w.setCell ⟨B, 0, none⟩ u).heap[B]? = some (.cells #[u] t) := by
  rw [setCell_eq_setRow w B 0 _ t (0, 0) u h, setRow_heap _ _ _ _ _ _ h]; rfl
set_option maxRecDepth 100000 in
set_option maxHeartbeats 4000000 in
/-- LaneGessel's callback: it adds the sign, counts, and keeps the least family. -/
theorem gess_any (B1 B2 B3 : Nat) (h12 : B1 ≠ B2) (h13 : B1 ≠ B3) (h23 : B2 ≠ B3) (s : Int) (n : Nat) (hs1 : -1000000000000000 ≤ s ∧ s ≤ 1000000000000000) (hn1 : n ≤ 1000000000000000) (fa : Option Addr) (fc : Nat) (M : List (List Int)) (a : Option Addr) (cap : Nat) (F : List (List Int)) (oa : Option Addr) (oc : Nat) (o : List Int) (w : World)
    (hs : w.heap[B1]? = some (.cells #[.int .i64 s] 3)) (hn : w.heap[B2]? = some (.cells #[.int .i64 (n : Nat)] 3)) (hf : w.heap[B3]? = some (.cells #[.slice fa M.length fc] 35))
    (hM : ∀ W, But (fun q => q = B1 ∨ q = B2 ∨ q = B3) w W → LstAt W fa M) (hF : ∀ W, But (fun q => q = B1 ∨ q = B2 ∨ q = B3) w W → LstAt W a F) (hO : IntsAt w oa o)
    (hMl : M.length ≤ 3) (hFl : F.length ≤ 3) (hol : o.length ≤ 3) (hMk : ∀ k, k < M.length → (lth M k).length ≤ 16) (hFk : ∀ k, k < F.length → (lth F k).length ≤ 16) :
    Calls Try.prog 43 #[.slice a F.length cap, .slice oa o.length oc, .pointer (some ⟨B1, 0, none⟩), .pointer (some ⟨B2, 0, none⟩), .pointer (some ⟨B3, 0, none⟩)] w fun e w' => e = .returned (.tuple #[]) ∧ But (fun q => q = B1 ∨ q = B2 ∨ q = B3) w w' ∧
      w'.heap[B1]? = some (.cells #[.int .i64 (s + sgnO o)] 3) ∧ w'.heap[B2]? = some (.cells #[.int .i64 ((n + 1 : Nat) : Int)] 3) ∧ w'.heap[B3]? = some (.cells #[if n = 0 ∨ lsB F.flatten M.flatten = true then .slice a F.length cap else .slice fa M.length fc] 35) := by
  obtain ⟨fv, hfv⟩ : ∃ fv, fv = (if n = 0 ∨ lsB F.flatten M.flatten = true then Value.slice a F.length cap else .slice fa M.length fc) := ⟨_, rfl⟩
  rw [← hfv]
  have HFV := Lib.hid hfv
  clear hfv
  have HS := Lib.hid hs
  have HN := Lib.hid hn
  have HFH := Lib.hid hf
  have HSG : Hid (∀ W, Fut w W → Calls Try.prog 44 #[.slice oa o.length oc] W fun e w' => e = .returned (.int .i64 (sgnO o)) ∧ Fut W w') := Lib.hid (fun W X => by
    refine (sign_any oa oc o W (hO.fut X) (by omega)).mono ?_
    rintro _ w' ⟨rfl, qq, rfl⟩
    exact ⟨rfl, Fut.drewN _ _⟩)
  have hsb : -1 ≤ sgnO o ∧ sgnO o ≤ 1 := by unfold sgnO; split <;> omega
  generalize sgnO o = g at *
  have HC1 := Lib.hid (fun W X => concat_any a cap F W (hF W X) (by omega) (fun k hk => by have := hFk k hk; omega))
  have HC2 := Lib.hid (fun W X => concat_any fa fc M W (hM W X) (by omega) (fun k hk => by have := hMk k hk; omega))
  have HL1 := Lib.hid (flat_short hFl hFk)
  have HL2 := Lib.hid (flat_short hMl hMk)
  have HFU : Hid (Fut w w.drew) := Lib.hid (below_drewN Fut.rfl 1)
  have H3 := Lib.hid (And.intro h12 (And.intro h13 h23))
  have hb1 : B1 < w.heap.size := (Array.getElem?_eq_some_iff.1 hs).1
  have hb2 : B2 < w.heap.size := (Array.getElem?_eq_some_iff.1 hn).1
  have hb3 : B3 < w.heap.size := (Array.getElem?_eq_some_iff.1 hf).1
  clear hs hn hf hM hF hO hMk hFk h12 h13 h23
  go_enter Try.func43, Try.ntmps43
  go_upto_region 0 with fail
  go_cut [10] from 7 to 9 (fun _ wx => Hid (But (fun q => q = B1 ∨ q = B2 ∨ q = B3) w wx) ∧ Hid (wx.heap[B1]? = some (.cells #[.int .i64 (s + g)] 3)) ∧ Hid (wx.heap[B2]? = some (.cells #[.int .i64 (n : Nat)] 3)) ∧ Hid (wx.heap[B3]? = some (.cells #[.slice fa M.length fc] 35)))
  case first =>
    refine wp_region_held_drew (S := (fun _ => True)) (by kernel_rfl) ?_ (fun hHeld => ?_)
    · exact trivial
    generalize w.drew = u0 at *
    refine wpAnyH_take (i := 1) (oi := { dst := some 8, op := Op.move (Operand.tmp 1), type := 22, pos := "outright.go:150", after := #[], guard := none }) (v := ?_) rfl (by kernel_rfl) (by kernel_rfl) (by kernel_rfl) (fun _ _ _ h => h) (Or.inl ⟨by rfl, ?_⟩) (by assumption) ?_
    rotate_left
    · (intro w hSw; skip; go_simp <;> with_reducible rfl)
    try simp only [Act.put, List.setIfInBounds_toArray, List.set_cons_zero, List.set_cons_succ]
    refine wpAnyH_ready (rs := [0, 2]) (by kernel_rfl) (by simp) ?_
    refine AllReadyH.cons (o := { dst := some 7, op := Op.load 3 (Operand.tmp 2), type := 3, pos := "outright.go:150", after := #[], guard := none }) rfl (fun K hK => ?_) (AllReadyH.cons (o := { dst := some 9, op := Op.call { callee := Callee.value (Operand.func 44), args := #[Operand.tmp 8], argTypes := #[22] }, type := 3, pos := "outright.go:150", after := #[{ on := 1, ground := Ground.data }], guard := none }) rfl (fun K hK => ?_) (AllReadyH.nil))
    · have c1 := cell_of1 (heap_fut HS.out HFU.out)
      go_simp
      refine hK.out _ _ ?_ (fun hHeld => ?_)
      · exact trivial
      clear hK K
      try simp only [Act.put, List.setIfInBounds_toArray, List.set_cons_zero, List.set_cons_succ]
      refine wpAnyH_ready (rs := [2]) (by kernel_rfl) (by simp) ?_
      refine AllReadyH.cons (o := { dst := some 9, op := Op.call { callee := Callee.value (Operand.func 44), args := #[Operand.tmp 8], argTypes := #[22] }, type := 3, pos := "outright.go:150", after := #[{ on := 1, ground := Ground.data }], guard := none }) rfl (fun K hK => ?_) AllReadyH.nil
      go_simp
      go_at_call 44
      refine (HSG.out u0 HFU.out).mono ?_
      rintro _ w2 ⟨rfl, F2⟩
      have HF2 := Lib.hid (HFU.out.trans F2)
      clear F2
      try go_wp2_with fail
      refine hK.out _ _ ?_ (fun hHeld => ?_)
      · exact trivial
      clear hK K
      try simp only [Act.put, List.setIfInBounds_toArray, List.set_cons_zero, List.set_cons_succ]
      refine wpAnyH_take (i := 3) (oi := { dst := some 10, op := Op.binOp BinOp.add 3 (Operand.tmp 7) (Operand.tmp 9) 3, type := 3, pos := "outright.go:150", after := #[{ on := 0, ground := Ground.data }, { on := 2, ground := Ground.data }], guard := none }) (v := ?_) rfl (by kernel_rfl) (by kernel_rfl) (by kernel_rfl) (fun _ _ _ h => h) (Or.inl ⟨by rfl, ?_⟩) (by assumption) ?_
      rotate_left
      · (intro w hSw; skip; go_simp <;> with_reducible rfl)
      try simp only [Act.put, List.setIfInBounds_toArray, List.set_cons_zero, List.set_cons_succ]
      refine wpAnyH_ready (rs := [4]) (by kernel_rfl) (by simp) ?_
      refine AllReadyH.cons (o := { dst := none, op := Op.store 3 (Operand.tmp 2) (Operand.tmp 10), type := 0, pos := "outright.go:150", after := #[{ on := 3, ground := Ground.data }, { on := 2, ground := Ground.chain }, { on := 0, ground := Ground.phase }, { on := 1, ground := Ground.phase }, { on := 2, ground := Ground.phase }, { on := 3, ground := Ground.phase }], guard := none }) rfl (fun K hK => ?_) AllReadyH.nil
      have f1 := froz_of1 (heap_fut HS.out HF2.out)
      have c1 := cell_of1 (heap_fut HS.out HF2.out)
      go_simp
      refine hK.out _ _ ?_ (fun hHeld => ?_)
      · exact trivial
      clear hK K
      try simp only [Act.put, List.setIfInBounds_toArray, List.set_cons_zero, List.set_cons_succ]
      refine wpAnyH_done (by kernel_rfl) ?_ _
      have hE : IntKind.i64.wrap (s + g) = s + g := IntWalk.i64_in _ ⟨by omega, by omega⟩
      rw [hE]
      have hB : But (fun q => q = B1 ∨ q = B2 ∨ q = B3) w (w2.setCell ⟨B1, 0, none⟩ (.int .i64 (s + g))) := (But.of_below HF2.out).setCell (.inl (.inl rfl)) _
      have k1 := set_of1 (.int .i64 (s + g)) (heap_fut HS.out HF2.out)
      have k2 := heap_kept (heap_fut HN.out HF2.out) (set_grown w2 B1 0 (.int .i64 (s + g))) (fun e => H3.out.1 (Option.some.inj e))
      have k3 := heap_kept (heap_fut HFH.out HF2.out) (set_grown w2 B1 0 (.int .i64 (s + g))) (fun e => H3.out.2.1 (Option.some.inj e))
      go_wp2_with fail
      go_meet
      exact ⟨Lib.hid hB, Lib.hid k1, Lib.hid k2, Lib.hid k3⟩
    · go_simp
      go_at_call 44
      refine (HSG.out u0 HFU.out).mono ?_
      rintro _ w2 ⟨rfl, F2⟩
      have HF2 := Lib.hid (HFU.out.trans F2)
      clear F2
      try go_wp2_with fail
      refine hK.out _ _ ?_ (fun hHeld => ?_)
      · exact trivial
      clear hK K
      try simp only [Act.put, List.setIfInBounds_toArray, List.set_cons_zero, List.set_cons_succ]
      refine wpAnyH_ready (rs := [0]) (by kernel_rfl) (by simp) ?_
      refine AllReadyH.cons (o := { dst := some 7, op := Op.load 3 (Operand.tmp 2), type := 3, pos := "outright.go:150", after := #[], guard := none }) rfl (fun K hK => ?_) AllReadyH.nil
      have c1 := cell_of1 (heap_fut HS.out HF2.out)
      go_simp
      refine hK.out _ _ ?_ (fun hHeld => ?_)
      · exact trivial
      clear hK K
      try simp only [Act.put, List.setIfInBounds_toArray, List.set_cons_zero, List.set_cons_succ]
      refine wpAnyH_take (i := 3) (oi := { dst := some 10, op := Op.binOp BinOp.add 3 (Operand.tmp 7) (Operand.tmp 9) 3, type := 3, pos := "outright.go:150", after := #[{ on := 0, ground := Ground.data }, { on := 2, ground := Ground.data }], guard := none }) (v := ?_) rfl (by kernel_rfl) (by kernel_rfl) (by kernel_rfl) (fun _ _ _ h => h) (Or.inl ⟨by rfl, ?_⟩) (by assumption) ?_
      rotate_left
      · (intro w hSw; skip; go_simp <;> with_reducible rfl)
      try simp only [Act.put, List.setIfInBounds_toArray, List.set_cons_zero, List.set_cons_succ]
      refine wpAnyH_ready (rs := [4]) (by kernel_rfl) (by simp) ?_
      refine AllReadyH.cons (o := { dst := none, op := Op.store 3 (Operand.tmp 2) (Operand.tmp 10), type := 0, pos := "outright.go:150", after := #[{ on := 3, ground := Ground.data }, { on := 2, ground := Ground.chain }, { on := 0, ground := Ground.phase }, { on := 1, ground := Ground.phase }, { on := 2, ground := Ground.phase }, { on := 3, ground := Ground.phase }], guard := none }) rfl (fun K hK => ?_) AllReadyH.nil
      have f1 := froz_of1 (heap_fut HS.out HF2.out)
      have c1 := cell_of1 (heap_fut HS.out HF2.out)
      go_simp
      refine hK.out _ _ ?_ (fun hHeld => ?_)
      · exact trivial
      clear hK K
      try simp only [Act.put, List.setIfInBounds_toArray, List.set_cons_zero, List.set_cons_succ]
      refine wpAnyH_done (by kernel_rfl) ?_ _
      have hE : IntKind.i64.wrap (s + g) = s + g := IntWalk.i64_in _ ⟨by omega, by omega⟩
      rw [hE]
      have hB : But (fun q => q = B1 ∨ q = B2 ∨ q = B3) w (w2.setCell ⟨B1, 0, none⟩ (.int .i64 (s + g))) := (But.of_below HF2.out).setCell (.inl (.inl rfl)) _
      have k1 := set_of1 (.int .i64 (s + g)) (heap_fut HS.out HF2.out)
      have k2 := heap_kept (heap_fut HN.out HF2.out) (set_grown w2 B1 0 (.int .i64 (s + g))) (fun e => H3.out.1 (Option.some.inj e))
      have k3 := heap_kept (heap_fut HFH.out HF2.out) (set_grown w2 B1 0 (.int .i64 (s + g))) (fun e => H3.out.2.1 (Option.some.inj e))
      go_wp2_with fail
      go_meet
      exact ⟨Lib.hid hB, Lib.hid k1, Lib.hid k2, Lib.hid k3⟩
  case rest =>
    obtain ⟨HB, K1, K2, K3⟩ := hcut
    generalize wc = w3 at *
    have HC1 : Hid (∀ W, Fut w3.drew W → Calls Try.prog 46 #[.slice a F.length cap] W fun e w' => ∃ v, e = .returned v ∧ Owns w' W.heap.size v F.flatten ∧ Fut W w') := Lib.hid (fun W X => HC1.out W (HB.out.trans (But.of_below ((below_drewN Fut.rfl 1 : Fut w3 w3.drew).trans X))))
    have HC2 : Hid (∀ W, Fut w3.drew W → Calls Try.prog 46 #[.slice fa M.length fc] W fun e w' => ∃ v, e = .returned v ∧ Owns w' W.heap.size v M.flatten ∧ Fut W w') := Lib.hid (fun W X => HC2.out W (HB.out.trans (But.of_below ((below_drewN Fut.rfl 1 : Fut w3 w3.drew).trans X))))
    have HLS := Lib.hid (cmL_ls F.flatten M.flatten)
    generalize F.flatten = A at *
    generalize M.flatten = Bl at *
    have keepI : ∀ W, Fut w3.drew W → W.cell? ⟨B2, 0, none⟩ = some (.int .i64 (n : Nat)) ∧ W.cell? ⟨B3, 0, none⟩ = some (.slice fa M.length fc) := fun W X => ⟨cell_of1 (heap_fut K2.out ((below_drewN Fut.rfl 1 : Fut w3 w3.drew).trans X)), cell_of1 (heap_fut K3.out ((below_drewN Fut.rfl 1 : Fut w3 w3.drew).trans X))⟩
    obtain ⟨nz, hnz⟩ : ∃ nz : Bool, nz = decide (n = 0) := ⟨_, rfl⟩
    have HNZ := Lib.hid hnz
    go_upto_region 1 with fail
    go_cut [20] from 11 to 19 (fun s20 wx => ∃ b, s20 = .bool b ∧ Hid (b = (decide (n = 0) || lsB A Bl)) ∧ Hid (Fut w3.drew wx))
    case first =>
      by_cases hn0 : n = 0
      · subst hn0
        refine wp_region_held_drew (S := (fun w' => w'.cell? ⟨B2, 0, none⟩ = some (.int .i64 (0 : Nat)) ∧ w'.cell? ⟨B3, 0, none⟩ = some (.slice fa M.length fc))) (by kernel_rfl) ?_ (fun hHeld => ?_)
        · exact keepI _ Fut.rfl
        generalize w3.drew = u0 at *
        refine wpAnyH_take (i := 0) (oi := { dst := some 11, op := Op.load 3 (Operand.tmp 3), type := 3, pos := "outright.go:151", after := #[], guard := none }) (v := ?_) rfl (by kernel_rfl) (by kernel_rfl) (by kernel_rfl) (fun _ _ _ h => h) (Or.inl ⟨by rfl, ?_⟩) (by assumption) ?_
        rotate_left
        · (intro w hSw; (obtain ⟨s0, s1⟩ := hSw); go_simp <;> with_reducible rfl)
        try simp only [Act.put, List.setIfInBounds_toArray, List.set_cons_zero, List.set_cons_succ]
        refine wpAnyH_take (i := 1) (oi := { dst := some 12, op := Op.binOp BinOp.eql 3 (Operand.tmp 11) (Operand.const (Value.int IntKind.i64 0)) 3, type := 4, pos := "outright.go:151", after := #[{ on := 0, ground := Ground.data }], guard := none }) (v := ?_) rfl (by kernel_rfl) (by kernel_rfl) (by kernel_rfl) (fun _ _ _ h => h) (Or.inl ⟨by rfl, ?_⟩) (by assumption) ?_
        rotate_left
        · (intro w hSw; (obtain ⟨s0, s1⟩ := hSw); go_simp <;> with_reducible rfl)
        try simp only [Act.put, List.setIfInBounds_toArray, List.set_cons_zero, List.set_cons_succ]
        refine wpAnyH_take (i := 2) (oi := { dst := some 13, op := Op.move (Operand.tmp 12), type := 4, pos := "outright.go:151", after := #[{ on := 1, ground := Ground.data }], guard := none }) (v := ?_) rfl (by kernel_rfl) (by kernel_rfl) (by kernel_rfl) (fun _ _ _ h => h) (Or.inl ⟨by rfl, ?_⟩) (by assumption) ?_
        rotate_left
        · (intro w hSw; (obtain ⟨s0, s1⟩ := hSw); go_simp <;> with_reducible rfl)
        try simp only [Act.put, List.setIfInBounds_toArray, List.set_cons_zero, List.set_cons_succ]
        refine wpAnyH_take (i := 3) (oi := { dst := some 14, op := Op.move (Operand.tmp 0), type := 35, pos := "outright.go:151", after := #[{ on := 2, ground := Ground.guard }], guard := some (2, false) }) (v := undef) rfl (by kernel_rfl) (by kernel_rfl) (by kernel_rfl) (fun _ _ _ h => h) (Or.inr ⟨by rfl, rfl⟩) (by assumption) ?_
        try simp only [Act.put, List.setIfInBounds_toArray, List.set_cons_zero, List.set_cons_succ]
        refine wpAnyH_take (i := 4) (oi := { dst := some 15, op := Op.call { callee := Callee.value (Operand.func 46), args := #[Operand.tmp 14], argTypes := #[35] }, type := 22, pos := "outright.go:151", after := #[{ on := 3, ground := Ground.data }, { on := 2, ground := Ground.chain }, { on := 2, ground := Ground.guard }], guard := some (2, false) }) (v := undef) rfl (by kernel_rfl) (by kernel_rfl) (by kernel_rfl) (fun _ _ _ h => h) (Or.inr ⟨by rfl, rfl⟩) (by assumption) ?_
        try simp only [Act.put, List.setIfInBounds_toArray, List.set_cons_zero, List.set_cons_succ]
        refine wpAnyH_take (i := 5) (oi := { dst := some 16, op := Op.load 35 (Operand.tmp 4), type := 35, pos := "outright.go:151", after := #[{ on := 2, ground := Ground.guard }], guard := some (2, false) }) (v := undef) rfl (by kernel_rfl) (by kernel_rfl) (by kernel_rfl) (fun _ _ _ h => h) (Or.inr ⟨by rfl, rfl⟩) (by assumption) ?_
        try simp only [Act.put, List.setIfInBounds_toArray, List.set_cons_zero, List.set_cons_succ]
        refine wpAnyH_take (i := 6) (oi := { dst := some 17, op := Op.call { callee := Callee.value (Operand.func 46), args := #[Operand.tmp 16], argTypes := #[35] }, type := 22, pos := "outright.go:151", after := #[{ on := 5, ground := Ground.data }, { on := 4, ground := Ground.chain }, { on := 2, ground := Ground.guard }], guard := some (2, false) }) (v := undef) rfl (by kernel_rfl) (by kernel_rfl) (by kernel_rfl) (fun _ _ _ h => h) (Or.inr ⟨by rfl, rfl⟩) (by assumption) ?_
        try simp only [Act.put, List.setIfInBounds_toArray, List.set_cons_zero, List.set_cons_succ]
        refine wpAnyH_take (i := 7) (oi := { dst := some 18, op := Op.call { callee := Callee.value (Operand.func 45), args := #[Operand.tmp 15, Operand.tmp 17], argTypes := #[22, 22] }, type := 3, pos := "outright.go:151", after := #[{ on := 4, ground := Ground.data }, { on := 6, ground := Ground.data }, { on := 6, ground := Ground.chain }, { on := 2, ground := Ground.guard }], guard := some (2, false) }) (v := undef) rfl (by kernel_rfl) (by kernel_rfl) (by kernel_rfl) (fun _ _ _ h => h) (Or.inr ⟨by rfl, rfl⟩) (by assumption) ?_
        try simp only [Act.put, List.setIfInBounds_toArray, List.set_cons_zero, List.set_cons_succ]
        refine wpAnyH_take (i := 8) (oi := { dst := some 19, op := Op.binOp BinOp.lss 3 (Operand.tmp 18) (Operand.const (Value.int IntKind.i64 0)) 3, type := 4, pos := "outright.go:151", after := #[{ on := 7, ground := Ground.data }, { on := 2, ground := Ground.guard }], guard := some (2, false) }) (v := undef) rfl (by kernel_rfl) (by kernel_rfl) (by kernel_rfl) (fun _ _ _ h => h) (Or.inr ⟨by rfl, rfl⟩) (by assumption) ?_
        try simp only [Act.put, List.setIfInBounds_toArray, List.set_cons_zero, List.set_cons_succ]
        refine wpAnyH_take (i := 9) (oi := { dst := some 20, op := Op.pick (Operand.tmp 13) (Operand.const (Value.bool true)) (Operand.tmp 19), type := 4, pos := "outright.go:151", after := #[{ on := 2, ground := Ground.data }, { on := 8, ground := Ground.data }], guard := none }) (v := ?_) rfl (by kernel_rfl) (by kernel_rfl) (by kernel_rfl) (fun _ _ _ h => h) (Or.inl ⟨by rfl, ?_⟩) (by assumption) ?_
        rotate_left
        · (intro w hSw; (obtain ⟨s0, s1⟩ := hSw); go_simp <;> with_reducible rfl)
        try simp only [Act.put, List.setIfInBounds_toArray, List.set_cons_zero, List.set_cons_succ]
        refine wpAnyH_done (by kernel_rfl) ?_ _
        go_wp2_with fail
        go_meet
        exact ⟨true, rfl, Lib.hid (by simp), Lib.hid Fut.rfl⟩
      · have hnx : ¬ (n : Int) = 0 := by omega
        have hq1 : ((n : Int) == 0) = false := by simpa using hn0
        have hq2 : decide ((n : Int) = 0) = false := by simpa using hn0
        have hq3 : decide (n = 0) = false := by simpa using hn0
        have HNZ := Lib.hid hq3
        clear hnz
        refine wp_region_held_drew (S := (fun w' => w'.cell? ⟨B2, 0, none⟩ = some (.int .i64 (n : Nat)) ∧ w'.cell? ⟨B3, 0, none⟩ = some (.slice fa M.length fc))) (by kernel_rfl) ?_ (fun hHeld => ?_)
        · exact keepI _ Fut.rfl
        generalize w3.drew = u0 at *
        refine wpAnyH_take (i := 0) (oi := { dst := some 11, op := Op.load 3 (Operand.tmp 3), type := 3, pos := "outright.go:151", after := #[], guard := none }) (v := ?_) rfl (by kernel_rfl) (by kernel_rfl) (by kernel_rfl) (fun _ _ _ h => h) (Or.inl ⟨by rfl, ?_⟩) (by assumption) ?_
        rotate_left
        · (intro w hSw; (obtain ⟨s0, s1⟩ := hSw); go_simp <;> with_reducible rfl)
        try simp only [Act.put, List.setIfInBounds_toArray, List.set_cons_zero, List.set_cons_succ]
        refine wpAnyH_take (i := 1) (oi := { dst := some 12, op := Op.binOp BinOp.eql 3 (Operand.tmp 11) (Operand.const (Value.int IntKind.i64 0)) 3, type := 4, pos := "outright.go:151", after := #[{ on := 0, ground := Ground.data }], guard := none }) (v := ?_) rfl (by kernel_rfl) (by kernel_rfl) (by kernel_rfl) (fun _ _ _ h => h) (Or.inl ⟨by rfl, ?_⟩) (by assumption) ?_
        rotate_left
        · (intro w hSw; (obtain ⟨s0, s1⟩ := hSw); go_simp <;> with_reducible rfl)
        try simp only [Act.put, List.setIfInBounds_toArray, List.set_cons_zero, List.set_cons_succ]
        refine wpAnyH_take (i := 2) (oi := { dst := some 13, op := Op.move (Operand.tmp 12), type := 4, pos := "outright.go:151", after := #[{ on := 1, ground := Ground.data }], guard := none }) (v := ?_) rfl (by kernel_rfl) (by kernel_rfl) (by kernel_rfl) (fun _ _ _ h => h) (Or.inl ⟨by rfl, ?_⟩) (by assumption) ?_
        rotate_left
        · (intro w hSw; (obtain ⟨s0, s1⟩ := hSw); go_simp <;> with_reducible rfl)
        try simp only [Act.put, List.setIfInBounds_toArray, List.set_cons_zero, List.set_cons_succ]
        refine wpAnyH_take (i := 3) (oi := { dst := some 14, op := Op.move (Operand.tmp 0), type := 35, pos := "outright.go:151", after := #[{ on := 2, ground := Ground.guard }], guard := some (2, false) }) (v := ?_) rfl (by kernel_rfl) (by kernel_rfl) (by kernel_rfl) (fun _ _ _ h => h) (Or.inl ⟨by rfl, ?_⟩) (by assumption) ?_
        rotate_left
        · (intro w hSw; (obtain ⟨s0, s1⟩ := hSw); go_simp <;> with_reducible rfl)
        try simp only [Act.put, List.setIfInBounds_toArray, List.set_cons_zero, List.set_cons_succ]
        refine wpAnyH_take (i := 5) (oi := { dst := some 16, op := Op.load 35 (Operand.tmp 4), type := 35, pos := "outright.go:151", after := #[{ on := 2, ground := Ground.guard }], guard := some (2, false) }) (v := ?_) rfl (by kernel_rfl) (by kernel_rfl) (by kernel_rfl) (fun _ _ _ h => h) (Or.inl ⟨by rfl, ?_⟩) (by assumption) ?_
        rotate_left
        · (intro w hSw; (obtain ⟨s0, s1⟩ := hSw); go_simp <;> with_reducible rfl)
        try simp only [Act.put, List.setIfInBounds_toArray, List.set_cons_zero, List.set_cons_succ]
        refine wpAnyH_ready (rs := [4]) (by kernel_rfl) (by simp) ?_
        refine AllReadyH.cons (o := { dst := some 15, op := Op.call { callee := Callee.value (Operand.func 46), args := #[Operand.tmp 14], argTypes := #[35] }, type := 22, pos := "outright.go:151", after := #[{ on := 3, ground := Ground.data }, { on := 2, ground := Ground.chain }, { on := 2, ground := Ground.guard }], guard := some (2, false) }) rfl (fun K hK => ?_) AllReadyH.nil
        go_simp
        go_at_call 46
        refine (HC1.out u0 (Fut.rfl)).mono ?_
        rintro _ v4 ⟨y4, rfl, hO4, F4⟩
        obtain ⟨a4, c4, e4, _, _, hI4⟩ := hO4.form
        subst e4
        have G4 : Hid (Fut u0 v4) := Lib.hid (F4)
        have HI4 := Lib.hid hI4
        clear hO4 F4 hI4
        try go_wp2_with fail
        refine hK.out _ _ ?_ (fun hHeld => ?_)
        · exact keepI _ G4.out
        clear hK K
        try simp only [Act.put, List.setIfInBounds_toArray, List.set_cons_zero, List.set_cons_succ]
        refine wpAnyH_ready (rs := [6]) (by kernel_rfl) (by simp) ?_
        refine AllReadyH.cons (o := { dst := some 17, op := Op.call { callee := Callee.value (Operand.func 46), args := #[Operand.tmp 16], argTypes := #[35] }, type := 22, pos := "outright.go:151", after := #[{ on := 5, ground := Ground.data }, { on := 4, ground := Ground.chain }, { on := 2, ground := Ground.guard }], guard := some (2, false) }) rfl (fun K hK => ?_) AllReadyH.nil
        go_simp
        go_at_call 46
        refine (HC2.out v4 (G4.out)).mono ?_
        rintro _ v6 ⟨y6, rfl, hO6, F6⟩
        obtain ⟨a6, c6, e6, _, _, hI6⟩ := hO6.form
        subst e6
        have G6 : Hid (Fut u0 v6) := Lib.hid (G4.out.trans F6)
        have HI6 := Lib.hid hI6
        have HI4 := Lib.hid (HI4.out.fut F6)
        clear hO6 F6 hI6
        try go_wp2_with fail
        refine hK.out _ _ ?_ (fun hHeld => ?_)
        · exact keepI _ G6.out
        clear hK K
        try simp only [Act.put, List.setIfInBounds_toArray, List.set_cons_zero, List.set_cons_succ]
        refine wpAnyH_ready (rs := [7]) (by kernel_rfl) (by simp) ?_
        refine AllReadyH.cons (o := { dst := some 18, op := Op.call { callee := Callee.value (Operand.func 45), args := #[Operand.tmp 15, Operand.tmp 17], argTypes := #[22, 22] }, type := 3, pos := "outright.go:151", after := #[{ on := 4, ground := Ground.data }, { on := 6, ground := Ground.data }, { on := 6, ground := Ground.chain }, { on := 2, ground := Ground.guard }], guard := some (2, false) }) rfl (fun K hK => ?_) AllReadyH.nil
        go_simp
        go_at_call 45
        refine (cmL_any a4 a6 c4 c6 A Bl _ HL1.out HL2.out HI4.out HI6.out).mono ?_
        rintro _ _ ⟨rfl, rfl⟩
        try go_wp2_with fail
        refine hK.out _ _ ?_ (fun hHeld => ?_)
        · exact keepI _ G6.out
        clear hK K
        try simp only [Act.put, List.setIfInBounds_toArray, List.set_cons_zero, List.set_cons_succ]
        refine wpAnyH_take (i := 8) (oi := { dst := some 19, op := Op.binOp BinOp.lss 3 (Operand.tmp 18) (Operand.const (Value.int IntKind.i64 0)) 3, type := 4, pos := "outright.go:151", after := #[{ on := 7, ground := Ground.data }, { on := 2, ground := Ground.guard }], guard := some (2, false) }) (v := ?_) rfl (by kernel_rfl) (by kernel_rfl) (by kernel_rfl) (fun _ _ _ h => h) (Or.inl ⟨by rfl, ?_⟩) (by assumption) ?_
        rotate_left
        · (intro w hSw; (obtain ⟨s0, s1⟩ := hSw); go_simp <;> with_reducible rfl)
        try simp only [Act.put, List.setIfInBounds_toArray, List.set_cons_zero, List.set_cons_succ]
        refine wpAnyH_take (i := 9) (oi := { dst := some 20, op := Op.pick (Operand.tmp 13) (Operand.const (Value.bool true)) (Operand.tmp 19), type := 4, pos := "outright.go:151", after := #[{ on := 2, ground := Ground.data }, { on := 8, ground := Ground.data }], guard := none }) (v := ?_) rfl (by kernel_rfl) (by kernel_rfl) (by kernel_rfl) (fun _ _ _ h => h) (Or.inl ⟨by rfl, ?_⟩) (by assumption) ?_
        rotate_left
        · (intro w hSw; (obtain ⟨s0, s1⟩ := hSw); go_simp <;> with_reducible rfl)
        try simp only [Act.put, List.setIfInBounds_toArray, List.set_cons_zero, List.set_cons_succ]
        refine wpAnyH_done (by kernel_rfl) ?_ _
        go_wp2_with fail
        go_meet
        exact ⟨_, rfl, Lib.hid (by rw [HLS.out, HNZ.out, Bool.false_or]), Lib.hid G6.out⟩
    case rest =>
      obtain ⟨b, rfl, HBV, HF4⟩ := hcut
      have HF34 : Fut w3 wc := (below_drewN Fut.rfl 1 : Fut w3 w3.drew).trans HF4.out
      have HB4 := Lib.hid (HB.out.trans (But.of_below HF34))
      have J1 := Lib.hid (heap_fut K1.out HF34)
      have J2 := Lib.hid (heap_fut K2.out HF34)
      have J3 := Lib.hid (heap_fut K3.out HF34)
      have HIF : Hid (b = true ↔ (n = 0 ∨ lsB A Bl = true)) := Lib.hid (by rw [HBV.out, Bool.or_eq_true, decide_eq_true_eq])
      clear HF34 keepI HC1 HC2 hnz
      generalize wc = w4 at *
      have hnx : (n : Int) ≤ 1000000000000000 := by omega
      cases b
      · have c2 := cell_of1 J2.out
        have f2 := froz_of1 J2.out
        have HIF2 : Hid (¬ (n = 0 ∨ lsB A Bl = true)) := Lib.hid (fun h => by have := HIF.out.2 h; cases this)
        go_wp2_with fail
        refine bodyPost_end (results_none rfl _ _ _) rfl ?_
        rw [HFV.out, if_neg HIF2.out]
        exact ⟨rfl, HB4.out.setCell (.inl (.inr (.inl rfl))) _, heap_kept J1.out (set_grown w4 B2 0 _) (fun e => H3.out.1 (Option.some.inj e).symm), set_of1 _ J2.out, heap_kept J3.out (set_grown w4 B2 0 _) (fun e => H3.out.2.2 (Option.some.inj e))⟩
      · have c3 := cell_of1 J3.out
        have f3 := froz_of1 J3.out
        have k2 := heap_kept J2.out (set_grown w4 B3 0 (.slice a F.length cap)) (fun e => H3.out.2.2 (Option.some.inj e).symm)
        have k1 := heap_kept J1.out (set_grown w4 B3 0 (.slice a F.length cap)) (fun e => H3.out.2.1 (Option.some.inj e).symm)
        have k3 := set_of1 (.slice a F.length cap) J3.out
        have hb4 := HB4.out.setCell (p := ⟨B3, 0, none⟩) (.inl (.inr (.inr rfl))) (.slice a F.length cap)
        have c2 := cell_of1 k2
        have f2 := froz_of1 k2
        have HIF2 := Lib.hid (HIF.out.1 rfl)
        have L1 := Lib.hid k1
        have L2 := Lib.hid k2
        have L3 := Lib.hid k3
        have L4 := Lib.hid hb4
        clear k1 k2 k3 hb4
        go_wp2_with fail
        refine bodyPost_end (results_none rfl _ _ _) rfl ?_
        rw [HFV.out, if_pos HIF2.out]
        exact ⟨rfl, L4.out.setCell (.inl (.inr (.inl rfl))) _, heap_kept L1.out (set_grown _ B2 0 _) (fun e => H3.out.1 (Option.some.inj e).symm), set_of1 _ L2.out, heap_kept L3.out (set_grown _ B2 0 _) (fun e => H3.out.2.2 (Option.some.inj e))⟩
end Go.Proofs.Ytflllkamdihfaaa
