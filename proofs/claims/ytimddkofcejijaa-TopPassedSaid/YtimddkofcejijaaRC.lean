/- Layer 2: odd corners. -/
import Derived.Test.YtimddkofcejijaaRB
namespace Go.Proofs.Ytimddkofcejijaa
open Go.RowKit Go.Sort
/-- the corners that an odd number of streets of a set have. -/
def oddL (s : Nat) : Nat → List (Int × Int) → Nat → Nat
  | _, [], o => o
  | i, p :: l, o => oddL s (i + 1) l (if s.testBit i then o ^^^ endsM p else o)
def oddM (ss : List (Int × Int)) (s : Nat) : Nat := oddL s 0 ss 0
theorem str_drop (ss : List (Int × Int)) (k : Nat) (h : k < ss.length) : ss.drop k = str ss k :: ss.drop (k + 1) := by
  rw [str_eq, List.getElem?_eq_getElem h]
  exact List.drop_eq_getElem_cons h
theorem xor_lt {a b : Nat} (ha : a < 65536) (hb : b < 65536) : a ^^^ b < 65536 := Nat.xor_lt_two_pow (n := 16) ha hb
theorem or_lt {a b : Nat} (ha : a < 65536) (hb : b < 65536) : a ||| b < 65536 := Nat.or_lt_two_pow (n := 16) ha hb
theorem and_lt {a b : Nat} (ha : a < 65536) : a &&& b < 65536 := Nat.lt_of_le_of_lt Nat.and_le_left ha
theorem oddL_lt (s : Nat) : ∀ (i : Nat) (l : List (Int × Int)) (o : Nat), (∀ p ∈ l, Sm p) → o < 65536 → oddL s i l o < 65536
  | _, [], _, _, h => h
  | i, p :: l, o, hp, h => by
    unfold oddL
    refine oddL_lt s (i + 1) l _ (fun q hq => hp q (List.mem_cons_of_mem _ hq)) ?_
    split
    · exact xor_lt h (ends_lt (hp p (List.mem_cons_self ..)))
    · exact h
/-- all streets of a map have small corners. -/
def SmL (ss : List (Int × Int)) : Prop := ∀ p ∈ ss, Sm p
theorem SmL.at {ss : List (Int × Int)} (h : SmL ss) (k : Nat) (hk : k < ss.length) : Sm (str ss k) := by
  rw [str_eq, List.getElem?_eq_getElem hk]; exact h _ (List.getElem_mem hk)
theorem oddM_lt {ss : List (Int × Int)} (h : SmL ss) (s : Nat) : oddM ss s < 65536 := oddL_lt s 0 ss 0 h (by decide)
/-- the block b holds a map. -/
def BoxM (w : World) (b : Nat) (c : Int) (a : Option Addr) (n cap : Nat) : Prop := b < w.heap.size ∧ w.cell? ⟨b, 0, none⟩ = some (.int .i64 c) ∧ w.cell? ⟨b, 1, none⟩ = some (.slice a n cap)
theorem BoxM.new (w : World) (c : Int) (a : Option Addr) (n cap : Nat) (t : TypeId) : BoxM (w.alloc (.cells #[.int .i64 c, .slice a n cap] t)) w.heap.size c a n cap := by
  refine ⟨by simp, ?_, ?_⟩ <;> rw [World.cell?_alloc_at _ _ _ _ rfl] <;> rfl
theorem BoxM.fut {w w' : World} {b : Nat} {c : Int} {a : Option Addr} {n cap : Nat} (h : BoxM w b c a n cap) (F : Fut w w') : BoxM w' b c a n cap :=
  ⟨Nat.lt_of_lt_of_le h.1 (RowKit.Below.size F), (RowKit.Below.cell F (p := ⟨b, 0, none⟩) h.1).trans h.2.1, (RowKit.Below.cell F (p := ⟨b, 1, none⟩) h.1).trans h.2.2⟩
set_option maxRecDepth 100000 in
set_option maxHeartbeats 2000000 in
theorem odd_any (c : Int) (a : Option Addr) (cap : Nat) (ss : List (Int × Int)) (s : Nat) (w : World) (hS : StrAt w a ss) (hl : ss.length ≤ 15) (hp : SmL ss) (hs : s < 65536) :
    Calls Try.prog 54 #[mapV c a ss.length cap, sv s] w fun e w' => e = .returned (sv (oddM ss s)) ∧ Fut w w' := by
  have HS := Lib.hid hS
  have HP := Lib.hid hp
  have hlx : (ss.length : Int) ≤ 15 := by omega
  clear hS hp
  go_enter Try.func54, Try.ntmps54
  go_wp2_with fail
  have hB := BoxM.new w c a ss.length cap 24
  have hF : Fut w (w.alloc (.cells #[.int .i64 c, .slice a ss.length cap] 24)) := Fut.alloc _ _
  generalize w.alloc (.cells #[.int .i64 c, .slice a ss.length cap] 24) = W1 at *
  generalize w.heap.size = B at *
  have HB := Lib.hid hB
  have HF := Lib.hid hF
  clear hB hF
  go_loopw [5, 10] (fun ov iv wr => ∃ (k o : Nat), k ≤ ss.length ∧ iv = .int .i64 k ∧ ov = sv o ∧ o < 65536 ∧ Hid (oddL s k (ss.drop k) o = oddM ss s) ∧ Hid (Fut W1 wr)) (fun _ iv _ => ss.length - (intOf iv).toNat)
  case atStart => exact ⟨0, 0, Nat.zero_le _, rfl, rfl, by decide, Lib.hid rfl, Lib.hid Fut.rfl⟩
  case round =>
    obtain ⟨k, o, hk, rfl, rfl, ho, HO, HR⟩ := hrel
    obtain ⟨hb, b0, b1⟩ := HB.out.fut HR.out
    by_cases hlt : k < ss.length
    · have hkx : (k : Int) < ss.length := by omega
      have HH := Lib.hid (has_any s k wr hs (by omega))
      have hd := str_drop ss k hlt
      rw [hd] at HO
      have HE := Lib.hid (fun w2 (F : Fut wr w2) => ends_any c a cap ss k w2 ((HS.out.fut HF.out).fut (HR.out.trans F)) hlt (by omega) (HP.out.at k hlt))
      have hel := ends_lt (HP.out.at k hlt)
      generalize str ss k = p at *
      clear hd
      unfold oddL at HO
      cases ht : s.testBit k
      · rw [ht] at HH HO
        clear ht HE hel
        go_wp2_with fail
        refine HH.out.mono ?_
        rintro _ _ ⟨rfl, rfl⟩
        go_wp2
        go_roundw
        case rel => exact ⟨k + 1, o, by omega, by go_num, rfl, ho, HO, HR⟩
        case measure => simp [intOf]; omega
      · rw [ht] at HH HO
        have e : bits BinOp.xor IntKind.u64 (o : Int) (endsM p : Int) = ((o ^^^ endsM p : Nat) : Int) := u64_xor_nat _ _ (by omega) (by omega)
        have hx := xor_lt ho hel
        clear ht
        generalize endsM p = E at *
        go_wp2_with fail
        refine HH.out.mono ?_
        rintro _ _ ⟨rfl, rfl⟩
        go_wp2_with fail
        refine (HE.out _ Fut.rfl).mono ?_
        rintro _ wa ⟨rfl, F⟩
        have HRA := Lib.hid (HR.out.trans F)
        clear F HE
        go_wp2
        go_roundw
        case rel => exact ⟨k + 1, o ^^^ E, by omega, by go_num, rfl, hx, HO, HRA⟩
        case measure => simp [intOf]; omega
    · obtain rfl : k = ss.length := by omega
      rw [List.drop_of_length_le (Nat.le_refl _)] at HO
      have HW := Lib.hid (HF.out.trans HR.out)
      go_wp2
      go_ret
      exact ⟨by rw [← HO.out]; rfl, HW.out⟩
end Go.Proofs.Ytimddkofcejijaa
