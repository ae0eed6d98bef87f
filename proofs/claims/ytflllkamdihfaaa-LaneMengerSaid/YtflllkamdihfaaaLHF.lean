/- bits 50: bits_any; a way as a set -/
import Derived.Test.YtflllkamdihfaaaLHA
import Derived.Test.YtflllkamdihfaaaLNC
namespace Go.Proofs.Ytflllkamdihfaaa
open Go.RowKit Go.Sort
theorem u32_wrap (n : Int) : IntKind.u32.wrap n = n % 4294967296 := by simp [IntKind.wrap, IntKind.signed, IntKind.bits]
theorem u32_and_nat (a b : Nat) (ha : a < 4294967296) (hb : b < 4294967296) : bits BinOp.and IntKind.u32 (a : Int) (b : Int) = ((a &&& b : Nat) : Int) := by
  have hx : a &&& b < 2 ^ 32 := Nat.and_lt_two_pow _ (by omega)
  have h1 : (BitVec.ofInt 32 (a : Int)).toNat = a := by
    rw [BitVec.ofInt_natCast, BitVec.toNat_ofNat]; exact Nat.mod_eq_of_lt (by omega)
  have h2 : (BitVec.ofInt 32 (b : Int)).toNat = b := by
    rw [BitVec.ofInt_natCast, BitVec.toNat_ofNat]; exact Nat.mod_eq_of_lt (by omega)
  show IntKind.u32.wrap ((BitVec.ofInt 32 (a : Int) &&& BitVec.ofInt 32 (b : Int)).toNat : Int) = _
  rw [BitVec.toNat_and, h1, h2, u32_wrap]
  omega
theorem u32_or_nat (a b : Nat) (ha : a < 4294967296) (hb : b < 4294967296) : bits BinOp.or IntKind.u32 (a : Int) (b : Int) = ((a ||| b : Nat) : Int) := by
  have hx : a ||| b < 2 ^ 32 := Nat.or_lt_two_pow (by omega) (by omega)
  have h1 : (BitVec.ofInt 32 (a : Int)).toNat = a := by
    rw [BitVec.ofInt_natCast, BitVec.toNat_ofNat]; exact Nat.mod_eq_of_lt (by omega)
  have h2 : (BitVec.ofInt 32 (b : Int)).toNat = b := by
    rw [BitVec.ofInt_natCast, BitVec.toNat_ofNat]; exact Nat.mod_eq_of_lt (by omega)
  show IntKind.u32.wrap ((BitVec.ofInt 32 (a : Int) ||| BitVec.ofInt 32 (b : Int)).toNat : Int) = _
  rw [BitVec.toNat_or, h1, h2, u32_wrap]
  omega
/-- a way as a set. -/
def bsN (L : List Int) : Nat := L.foldl (fun a x => a ||| 2 ^ x.toNat) 0
theorem bs_snoc (L : List Int) (x : Int) : bsN (L ++ [x]) = bsN L ||| 2 ^ x.toNat := by unfold bsN; rw [List.foldl_append]; rfl
theorem bs_bit (L : List Int) (k : Nat) : (bsN L).testBit k = L.any fun x => decide (x.toNat = k) := by
  have : ∀ (L : List Int) (a : Nat), (L.foldl (fun a x => a ||| 2 ^ x.toNat) a).testBit k = (a.testBit k || L.any fun x => decide (x.toNat = k)) := fun L => by
    induction L with
    | nil => intro a; simp
    | cons x L ih =>
      intro a
      rw [List.foldl_cons, ih, Nat.testBit_or, List.any_cons, Nat.testBit_two_pow, Bool.or_assoc]
  have h := this L 0
  simpa [bsN] using h
theorem bs_lt {L : List Int} (h : ∀ x ∈ L, 0 ≤ x ∧ x < 16) : bsN L < 65536 := by
  have : ∀ (L : List Int) (a : Nat), (∀ x ∈ L, 0 ≤ x ∧ x < 16) → a < 2 ^ 16 → (L.foldl (fun a x => a ||| 2 ^ x.toNat) a) < 2 ^ 16 := fun L => by
    induction L with
    | nil => intro a _ h; exact h
    | cons x L ih =>
      intro a hl ha
      rw [List.foldl_cons]
      have hx := hl x (by simp)
      exact ih _ (fun y hy => hl y (by simp [hy])) (Nat.or_lt_two_pow ha (Nat.pow_lt_pow_right (by decide) (by omega)))
  exact this L 0 h (by decide)
theorem bs_meet {a b : List Int} (ha : ∀ x ∈ a, 0 ≤ x ∧ x < 16) (hb : ∀ x ∈ b, 0 ≤ x ∧ x < 16) : (bsN a &&& bsN b = 0) ↔ metW a b = false := by
  rw [Bool.eq_false_iff, ne_eq, metW_iff]
  constructor
  · rintro h ⟨x, h1, h2⟩
    have e : (bsN a &&& bsN b).testBit x.toNat = true := by
      rw [Nat.testBit_and, bs_bit, bs_bit, Bool.and_eq_true, List.any_eq_true, List.any_eq_true]
      exact ⟨⟨x, h1, by simp⟩, ⟨x, h2, by simp⟩⟩
    rw [h] at e
    simp at e
  · intro h
    refine Nat.eq_of_testBit_eq fun k => ?_
    rw [Nat.zero_testBit, Bool.eq_false_iff]
    intro e
    rw [Nat.testBit_and, bs_bit, bs_bit, Bool.and_eq_true, List.any_eq_true, List.any_eq_true] at e
    obtain ⟨⟨x, h1, h2⟩, ⟨y, h3, h4⟩⟩ := e
    have h5 := ha x h1
    have h6 := hb y h3
    simp at h2 h4
    have : x = y := by omega
    exact h ⟨x, h1, this ▸ h3⟩
set_option maxRecDepth 100000 in
set_option maxHeartbeats 4000000 in
theorem bits_any (l : Option Addr) (lc : Nat) (L : List Int) (w : World) (hI : IntsAt w l L) (hl : L.length ≤ 1000) (hL : ∀ x ∈ L, 0 ≤ x ∧ x < 16) :
    Calls Try.prog 50 #[.slice l L.length lc] w fun e w' => e = .returned (.int .u32 (bsN L : Nat)) ∧ w = w' := by
  have HI := Lib.hid hI
  have HL := Lib.hid hL
  have hlx : (L.length : Int) ≤ 1000 := by omega
  have HB := Lib.hid (fun i (hi : i < L.length) => show bsN (L.take (i + 1)) = bsN (L.take i) ||| 2 ^ (nth L i).toNat by rw [List.take_succ_eq_append_getElem hi, bs_snoc, nth_get hi])
  have HBL := Lib.hid (fun i => bs_lt (L := L.take i) (fun x hx => hL x (List.mem_of_mem_take hx)))
  have HE : Hid (bsN (L.take L.length) = bsN L) := Lib.hid (by rw [List.take_length])
  obtain ⟨g, hg⟩ : ∃ g : Nat → Nat, g = fun i => bsN (L.take i) := ⟨_, rfl⟩
  have HG := Lib.hid hg
  have HG0 : Hid (g 0 = 0) := Lib.hid (by rw [hg]; rfl)
  clear hI hL hg
  go_enter Try.func50, Try.ntmps50
  go_wp2_with fail
  go_loopw [3, 8] (fun ov iv wr => ∃ i : Nat, i ≤ L.length ∧ iv = .int .i64 i ∧ ov = .int .u32 (g i : Nat) ∧ w = wr) (fun _ iv _ => L.length - (intOf iv).toNat)
  case atStart => exact ⟨0, Nat.zero_le _, rfl, by rw [HG0.out]; rfl, rfl⟩
  case round =>
    obtain ⟨i, hi, rfl, rfl, rfl⟩ := hrel
    by_cases hil : i < L.length
    · have hix : (i : Int) < L.length := by omega
      obtain ⟨lb, lo, e0, _, cl⟩ := HI.out i hil
      subst e0
      have hx := HL.out _ (nth_mem hil)
      obtain ⟨n, hn⟩ : ∃ n : Nat, (n : Int) = nth L i := ⟨(nth L i).toNat, by omega⟩
      have HN : Hid (g (i + 1) = g i ||| 2 ^ n) := Lib.hid (by rw [HG.out]; show bsN _ = _; rw [HB.out i hil, ← hn]; rfl)
      have hn16 : n < 16 := by omega
      rw [← hn] at cl
      have hnx : (n : Int) < 16 := by omega
      have h2n : (2 : Nat) ^ n < 65536 := Nat.pow_lt_pow_right (a := 2) (n := 16) (by decide) hn16
      have hgi : g i < 65536 := by rw [HG.out]; exact HBL.out i
      have hE : (2 : Int) ^ n % 4294967296 = ((2 ^ n : Nat) : Int) := by rw [show (2 : Int) ^ n = ((2 ^ n : Nat) : Int) by simp]; exact Int.emod_eq_of_lt (Int.natCast_nonneg _) (Int.ofNat_lt.2 (Nat.lt_of_lt_of_le h2n (by decide)))
      have hOr : bits BinOp.or IntKind.u32 ((g i : Nat) : Int) (((2 : Nat) ^ n : Nat) : Int) = ((g (i + 1) : Nat) : Int) := by rw [u32_or_nat _ _ (by omega) (by omega), HN.out]
      have HEX := Lib.hid hE
      have HOX := Lib.hid hOr
      clear hn hx HN h2n hgi hE hOr
      go_wp2_with fail
      exact ⟨⟨i + 1, by omega, by go_num, by rw [HEX.out, HOX.out], trivial⟩, by simp [intOf]; omega⟩
    · obtain rfl : i = L.length := by omega
      have HEE : Hid (g L.length = bsN L) := Lib.hid (by rw [HG.out]; exact HE.out)
      go_wp2_with fail
      go_wp2
      go_ret
      exact ⟨by rw [← HEE.out]; rfl, rfl⟩
end Go.Proofs.Ytflllkamdihfaaa
