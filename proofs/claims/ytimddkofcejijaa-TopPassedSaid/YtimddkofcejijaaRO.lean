/- Layer 2: the next street. -/
import Derived.Test.YtimddkofcejijaaRN
namespace Go.Proofs.Ytimddkofcejijaa
open Go.RowKit Go.Sort
/-- a world behind this one: more in its heap, maybe. -/
structure After (w : World) where
  w' : World
  F : Fut w w'
instance (w : World) : Inhabited (After w) := ⟨⟨w, Fut.rfl⟩⟩
theorem region_fut {id : Nat} {Q : Exit → Act → World → Prop} {a : Act} {w : World} {l : List Oper} (hm : Try.prog.follows .mixedOrders = true) (hB : Region.lexB .any l.toArray = true)
    (h : wpQuiet Try.prog l.toArray (fun w' => ∃ p : After w, w' = p.w') (fun a' => ∀ w', (∃ p : After w, w' = p.w') → Q .normal a' w') l a) : (Code.region id l.toArray true).wp Try.prog Q a w :=
  wp_region_quiet (C := fun w' => ∃ p : After w, w' = p.w') hm hB ⟨⟨_, Fut.drewN w 1⟩, rfl⟩ (by simpa using h)
theorem after_of {f : FuncId} {args : Array Value} {w : World} {p : After w} {v : Value}
    (h : Calls Try.prog f args p.w' fun e w' => e = .returned v ∧ Fut p.w' w') : Calls Try.prog f args p.w' fun e w'' => e = .returned v ∧ ∃ q : After w, w'' = q.w' :=
  h.mono fun _ _ ⟨he, F⟩ => ⟨he, ⟨_, p.F.trans F⟩, rfl⟩
theorem after_same {f : FuncId} {args : Array Value} {w : World} {p : After w} {v : Value}
    (h : Calls Try.prog f args p.w' fun e w' => e = .returned v ∧ p.w' = w') : Calls Try.prog f args p.w' fun e w'' => e = .returned v ∧ ∃ q : After w, w'' = q.w' :=
  h.mono fun _ _ ⟨he, F⟩ => ⟨he, p, F.symm⟩
theorem BoxM.after {w w0 : World} {b : Nat} {c : Int} {a : Option Addr} {n cap : Nat} (h : BoxM w0 b c a n cap) (F : Fut w0 w) : (∀ p : After w, p.w'.cell? ⟨b, 0, none⟩ = some (.int .i64 c)) ∧ (∀ p : After w, p.w'.cell? ⟨b, 1, none⟩ = some (.slice a n cap)) :=
  ⟨fun p => (h.fut (F.trans p.F)).2.1, fun p => (h.fut (F.trans p.F)).2.2⟩
theorem BoxC.after {w w0 : World} {b : Nat} {x : Int} {l g : Nat} (h : BoxC w0 b x l g) (F : Fut w0 w) : (∀ p : After w, p.w'.cell? ⟨b, 0, none⟩ = some (.int .i64 x)) ∧ (∀ p : After w, p.w'.cell? ⟨b, 1, none⟩ = some (sv l)) ∧ (∀ p : After w, p.w'.cell? ⟨b, 2, none⟩ = some (sv g)) :=
  ⟨fun p => (h.fut (F.trans p.F)).2.1, fun p => (h.fut (F.trans p.F)).2.2.1, fun p => (h.fut (F.trans p.F)).2.2.2.1⟩
theorem thr_le (ss : List (Int × Int)) (x l g i : Nat) : (thr ss x l g i).2.1 ≤ l ∧ (thr ss x l g i).2.2 ≤ g := by
  refine ⟨?_, ?_⟩ <;> (unfold thr; dsimp only; split)
  · exact Nat.le_refl _
  · exact dif_le _ _
  · exact dif_le _ _
  · exact Nat.le_refl _
theorem retn {N : Option Nat} {o : Option Nat} (h : o = N) : Ending.returned (.tuple #[.int .i64 ((o.getD 0 : Nat) : Int), .bool o.isSome]) = .returned (.tuple #[.int .i64 ((N.getD 0 : Nat) : Int), .bool N.isSome]) := by rw [h]
set_option maxRecDepth 100000 in
set_option maxHeartbeats 4000000 in
theorem next_any (c : Nat) (a : Option Addr) (cap : Nat) (ss : List (Int × Int)) (x l g : Nat) (w : World) (hS : StrAt w a ss) (hl : ss.length ≤ 15) (hp : SmL ss) (hx : x ≤ 15) (hc : c ≤ 15) (hll : l < 2 ^ ss.length) (hg : g < 65536) :
    Calls Try.prog 99 #[mapV c a ss.length cap, cartN x l g] w fun e w' => e = .returned (.tuple #[.int .i64 (((nextO ss c x l g).getD 0 : Nat) : Int), .bool (nextO ss c x l g).isSome]) ∧ Fut w w' := by
  have HS := Lib.hid hS
  have HP := Lib.hid hp
  have hlx : (ss.length : Int) ≤ 15 := by omega
  have hl16 : l < 65536 := by have := pow_lt ss.length hl; omega
  have HLI := Lib.hid (fun W => list_sl l W hl16)
  have HG : Hid (nextO ss c x l g = (listN l).find? (okB ss c x l g)) := Lib.hid rfl
  generalize nextO ss c x l g = N at *
  have HB2 : Hid (∀ i, l.testBit i = true → i < ss.length) := Lib.hid (fun i hi => by
    rcases Nat.lt_or_ge i ss.length with h | h
    · exact h
    · rw [Nat.testBit_lt_two_pow (Nat.lt_of_lt_of_le hll (Nat.pow_le_pow_right (by decide) h))] at hi; cases hi)
  have hll16 := list_le l
  have HL1 := Lib.hid (list_len l)
  have HNT := Lib.hid (nth_list l)
  have HLL := Lib.hid hll
  clear hS hp hll
  generalize hM : listM l = M at *
  have hmx : (M.length : Int) ≤ 16 := by omega
  clear hM
  go_enter Try.func99, Try.ntmps99
  go_wp2_with fail
  have hB := BoxM.new w c a ss.length cap 24
  have hF : Fut w (w.alloc (.cells #[.int .i64 c, .slice a ss.length cap] 24)) := Fut.alloc _ _
  have hz : (w.alloc (.cells #[.int .i64 c, .slice a ss.length cap] 24)).heap.size = w.heap.size + 1 := by simp
  generalize w.alloc (.cells #[.int .i64 c, .slice a ss.length cap] 24) = W1 at *
  have hC := BoxC.new W1 x l g 123
  have hF2 : Fut W1 (W1.alloc (.cells #[.int .i64 x, sv l, sv g] 123)) := Fut.alloc _ _
  generalize W1.alloc (.cells #[.int .i64 x, sv l, sv g] 123) = W2 at *
  rw [hz] at hC
  clear hz
  generalize w.heap.size = B at *
  have hBm := hB.fut hF2
  refine (HLI.out _).mono ?_
  rintro _ w2 ⟨la, lcap, rfl, hI, F⟩
  have HI := Lib.hid hI
  have HBY := Lib.hid (hBm.fut F)
  have HCY := Lib.hid (hC.fut F)
  have HF3 := Lib.hid ((hF.trans hF2).trans F)
  clear hBm hC hB hF hF2 hI F
  go_wp2_with fail
  go_loopw [12] (fun iv wr => ∃ (k : Nat), k ≤ M.length ∧ iv = .int .i64 k ∧ Hid (((listN l).drop k).find? (okB ss c x l g) = N) ∧ Hid (Fut w2 wr)) (fun iv _ => M.length - (intOf iv).toNat)
  case atStart => exact ⟨0, Nat.zero_le _, rfl, Lib.hid HG.out.symm, Lib.hid Fut.rfl⟩
  case round =>
    obtain ⟨k, hk, rfl, HO, HR⟩ := hrel
    obtain ⟨hb, b0, b1⟩ := HBY.out.fut HR.out
    obtain ⟨hcb, c0, c1, c2, _, _, _⟩ := HCY.out.fut HR.out
    obtain ⟨m0, m1⟩ := HBY.out.after HR.out
    obtain ⟨n0, n1, n2⟩ := HCY.out.after HR.out
    have HFD : Hid (Fut w wr) := Lib.hid (HF3.out.trans HR.out)
    by_cases hlt : k < M.length
    · have hkx : (k : Int) < M.length := by omega
      obtain ⟨b, off, ea, hbb, d1⟩ := (HI.out.fut HR.out) k hlt
      subst ea
      obtain ⟨i, hi, _, hbit, hget⟩ := HNT.out k hlt
      have hil := HB2.out i hbit
      rw [hi] at d1
      have hd : (listN l).drop k = i :: (listN l).drop (k + 1) := by
        obtain ⟨h1, h2⟩ := List.getElem?_eq_some_iff.1 hget
        rw [List.drop_eq_getElem_cons h1, h2]
      rw [hd, List.find?_cons] at HO
      have hpi := HP.out.at i hil
      have HE := Lib.hid (fun W (F : Fut w W) => ends_any c a cap ss i W (HS.out.fut F) hil (by omega) hpi)
      have hel := ends_lt hpi
      have HH := Lib.hid (fun W => has_any (endsM (str ss i)) x W hel (by omega))
      have hok : okB ss c x l g i = ((endsM (str ss i)).testBit x && goesB ss c (thr ss x l g i).1 (thr ss x l g i).2.1) := rfl
      clear hi hbit hget hd
      cases ht : (endsM (str ss i)).testBit x
      · rw [ht, Bool.false_and] at hok
        rw [hok] at HO
        rw [ht] at HH
        generalize endsM (str ss i) = E at *
        clear ht hok hpi
        go_wp2_with fail
        refine region_fut (by kernel_rfl) (by kernel_rfl) ?_
        repeat (go_big_quiet_step (first
          | (go_at_call 70; rename_i p; exact after_of (HE.out _ (HFD.out.trans p.F)))
          | (go_at_call 71; exact after_same (HH.out _))))
        refine wpQuiet_nil ?_
        intro _ hw'
        obtain ⟨⟨wq, Fq⟩, rfl⟩ := hw'
        clear m0 m1 n0 n1 n2
        have HRA := Lib.hid (HR.out.trans Fq)
        clear Fq
        go_wp2
        go_roundw
        case rel => exact ⟨k + 1, by omega, by go_num, HO, HRA⟩
        case measure => simp [intOf]; omega
      · rw [ht, Bool.true_and] at hok
        rw [hok] at HO
        obtain ⟨t1, t2, t3⟩ := thr_lt ss hpi ht hl16 hg
        have HT := Lib.hid (fun W (F : Fut w W) => through_any c a cap ss x l g i W (HS.out.fut F) hl hil hpi hx hl16 hg ht)
        have HGO := Lib.hid (fun W (F : Fut w W) => goesOn_any c a cap ss (thr ss x l g i).1 (thr ss x l g i).2.1 (thr ss x l g i).2.2 W (HS.out.fut F) hl HP.out t1 hc (Nat.lt_of_le_of_lt (thr_le ss x l g i).1 HLL.out))
        rw [ht] at HH
        generalize thr ss x l g i = T at *
        obtain ⟨T1, T2, T3⟩ := T
        dsimp only at *
        generalize endsM (str ss i) = E at *
        clear ht hok hpi
        cases hq : goesB ss c T1 T2
        · rw [hq] at HGO HO
          clear hq
          go_wp2_with fail
          refine region_fut (by kernel_rfl) (by kernel_rfl) ?_
          repeat (go_big_quiet_step (first
            | (go_at_call 70; rename_i p; exact after_of (HE.out _ (HFD.out.trans p.F)))
            | (go_at_call 71; exact after_same (HH.out _))
            | (go_at_call 100; rename_i p; exact after_of (HT.out _ (HFD.out.trans p.F)))
            | (go_at_call 115; rename_i p; exact after_of (HGO.out _ (HFD.out.trans p.F)))))
          refine wpQuiet_nil ?_
          intro _ hw'
          obtain ⟨⟨wq, Fq⟩, rfl⟩ := hw'
          clear m0 m1 n0 n1 n2
          have HRA := Lib.hid (HR.out.trans Fq)
          clear Fq
          go_wp2
          go_roundw
          case rel => exact ⟨k + 1, by omega, by go_num, HO, HRA⟩
          case measure => simp [intOf]; omega
        · rw [hq] at HGO HO
          have hN : some i = N := HO.out
          clear hq
          go_wp2_with fail
          refine region_fut (by kernel_rfl) (by kernel_rfl) ?_
          repeat (go_big_quiet_step (first
            | (go_at_call 70; rename_i p; exact after_of (HE.out _ (HFD.out.trans p.F)))
            | (go_at_call 71; exact after_same (HH.out _))
            | (go_at_call 100; rename_i p; exact after_of (HT.out _ (HFD.out.trans p.F)))
            | (go_at_call 115; rename_i p; exact after_of (HGO.out _ (HFD.out.trans p.F)))))
          refine wpQuiet_nil ?_
          intro _ hw'
          obtain ⟨⟨wq, Fq⟩, rfl⟩ := hw'
          clear m0 m1 n0 n1 n2
          have HRA := Lib.hid (HFD.out.trans Fq)
          clear Fq
          go_wp2
          go_ret2
          exact ⟨retn hN, HRA.out⟩
    · obtain rfl : k = M.length := by omega
      rw [List.drop_of_length_le (by rw [← HL1.out]; exact Nat.le_refl _), List.find?_nil] at HO
      have hN : none = N := HO.out
      have HW := Lib.hid (HF3.out.trans HR.out)
      go_wp2
      go_ret2
      exact ⟨retn hN, HW.out⟩
end Go.Proofs.Ytimddkofcejijaa
