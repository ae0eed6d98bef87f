/- Layer 2: maps, and the corners of a street. -/
import Derived.Test.YtimddkofcejijaaRA
namespace Go.Proofs.Ytimddkofcejijaa
open Go.RowKit Go.Sort
/-- w' is w, or w with more in its heap. -/
def Fut (w w' : World) : Prop := RowKit.Below w.heap.size w w'
theorem Fut.rfl {w : World} : Fut w w := RowKit.Below.refl _ _
theorem Fut.trans {a b c : World} (h : Fut a b) (h' : Fut b c) : Fut a c :=
  RowKit.Below.trans h (RowKit.Below.mono h' (RowKit.Below.size h))
theorem Fut.alloc (w : World) (o : Obj) : Fut w (w.alloc o) := RowKit.Below.alloc (RowKit.Below.refl _ _) (Nat.le_refl _) o
theorem Fut.drewN (w : World) (n : Nat) : Fut w (w.drewN n) := below_drewN (RowKit.Below.refl _ _) n
theorem IntsAt.fut {w w' : World} {a : Option Addr} {zs : List Int} (h : IntsAt w a zs) (hb : Fut w w') : IntsAt w' a zs := h.below hb
/-- a street of a list. -/
def str (ss : List (Int × Int)) (k : Nat) : Int × Int := ss[k]?.getD (0, 0)
theorem str_eq (ss : List (Int × Int)) (k : Nat) : str ss k = ss[k]?.getD (0, 0) := rfl
/-- the slice at a reads as these streets. -/
def StrAt (w : World) (a : Option Addr) (ss : List (Int × Int)) : Prop :=
  ∀ j, j < ss.length → ∃ b off, a = some ⟨b, off, none⟩ ∧ b < w.heap.size ∧ w.cell? ⟨b, off + j * 2, none⟩ = some (.int .i64 (str ss j).1) ∧ w.cell? ⟨b, off + j * 2 + 1, none⟩ = some (.int .i64 (str ss j).2)
theorem StrAt.fut {w w' : World} {a : Option Addr} {ss : List (Int × Int)} (h : StrAt w a ss) (hb : Fut w w') : StrAt w' a ss := fun j hj => by
  obtain ⟨b, off, rfl, h1, h2, h3⟩ := h j hj
  exact ⟨b, off, rfl, Nat.lt_of_lt_of_le h1 (RowKit.Below.size hb), (RowKit.Below.cell hb (p := ⟨b, off + j * 2, none⟩) h1).trans h2, (RowKit.Below.cell hb (p := ⟨b, off + j * 2 + 1, none⟩) h1).trans h3⟩
abbrev mapV (c : Int) (a : Option Addr) (n cap : Nat) : Value := .agg #[.int .i64 c, .slice a n cap]
def endsM (p : Int × Int) : Nat := 2 ^ p.1.toNat ||| 2 ^ p.2.toNat
/-- a street's corners are small numbers. -/
def Sm (p : Int × Int) : Prop := 0 ≤ p.1 ∧ p.1 ≤ 15 ∧ 0 ≤ p.2 ∧ p.2 ≤ 15
theorem pow_lt (i : Nat) (h : i ≤ 15) : 2 ^ i < 65536 := Nat.lt_of_le_of_lt (Nat.pow_le_pow_right (by decide) h) (by decide)
theorem ends_lt {p : Int × Int} (h : Sm p) : endsM p < 65536 := by
  obtain ⟨h1, h2, h3, h4⟩ := h
  exact Nat.or_lt_two_pow (n := 16) (pow_lt _ (by omega)) (pow_lt _ (by omega))
set_option maxRecDepth 100000 in
set_option maxHeartbeats 1000000 in
theorem ends_any (c : Int) (a : Option Addr) (cap : Nat) (ss : List (Int × Int)) (k : Nat) (w : World) (hS : StrAt w a ss) (hk : k < ss.length) (_hl : ss.length ≤ 1000) (hp : Sm (str ss k)) :
    Calls Try.prog 70 #[mapV c a ss.length cap, .int .i64 k] w fun e w' => e = .returned (sv (endsM (str ss k))) ∧ Fut w w' := by
  obtain ⟨b, off, rfl, hb, c1, c2⟩ := hS k hk
  have hkx : (k : Int) < ss.length := by omega
  have hE : endsM (str ss k) = 2 ^ (str ss k).1.toNat ||| 2 ^ (str ss k).2.toNat := rfl
  obtain ⟨h1, h2, h3, h4⟩ := hp
  generalize str ss k = p at *
  obtain ⟨x, y⟩ := p
  obtain ⟨x, rfl⟩ := Int.eq_ofNat_of_zero_le h1
  obtain ⟨y, rfl⟩ := Int.eq_ofNat_of_zero_le h3
  simp only [Int.toNat_natCast] at hE
  have e : bits BinOp.or IntKind.u64 ((2 ^ x : Nat) : Int) ((2 ^ y : Nat) : Int) = ((2 ^ x ||| 2 ^ y : Nat) : Int) := u64_or_nat _ _ (by have := pow_lt x (by omega); omega) (by have := pow_lt y (by omega); omega)
  have H1 := Lib.hid (fun w => one_any x w (by omega))
  have H2 := Lib.hid (fun w => one_any y w (by omega))
  have HE := Lib.hid hE
  clear hE h1 h2 h3 h4 hS
  generalize 2 ^ x = X at *
  generalize 2 ^ y = Y at *
  go_enter Try.func70, Try.ntmps70
  go_wp2_with fail
  go_quiet (first | (go_at_call 96; exact Calls.quiet_of_same ((H1.out _).mono fun _ _ h => ⟨h.1, h.2.symm⟩)) | (go_at_call 96; exact Calls.quiet_of_same ((H2.out _).mono fun _ _ h => ⟨h.1, h.2.symm⟩)))
  go_wp2
  go_ret
  exact ⟨by rw [HE.out]; rfl, ((Fut.alloc _ _).trans (Fut.alloc _ _)).trans (Fut.drewN _ _)⟩

set_option maxRecDepth 100000 in
set_option maxHeartbeats 1000000 in
theorem other_any (c : Int) (a : Option Addr) (cap : Nat) (ss : List (Int × Int)) (k : Nat) (x : Int) (w : World) (hS : StrAt w a ss) (hk : k < ss.length) (_hl : ss.length ≤ 1000) (hp : Sm (str ss k)) (hx : 0 ≤ x ∧ x ≤ 15) :
    Calls Try.prog 72 #[mapV c a ss.length cap, .int .i64 k, .int .i64 x] w fun e w' => e = .returned (.int .i64 ((str ss k).1 + (str ss k).2 - x)) ∧ Fut w w' := by
  obtain ⟨b, off, rfl, hb, c1, c2⟩ := hS k hk
  have hkx : (k : Int) < ss.length := by omega
  obtain ⟨h1, h2, h3, h4⟩ := hp
  obtain ⟨hx1, hx2⟩ := hx
  generalize str ss k = p at *
  obtain ⟨y, z⟩ := p
  dsimp only at *
  clear hS
  go_enter Try.func72, Try.ntmps72
  go_wp2
  go_ret
  exact ⟨rfl, (Fut.alloc _ _).trans (Fut.alloc _ _)⟩
theorem all_any (c : Int) (a : Option Addr) (n cap : Nat) (w : World) (hl : n ≤ 62) :
    Calls Try.prog 55 #[mapV c a n cap] w fun e w' => e = .returned (sv (2 ^ n - 1)) ∧ Fut w w' := by
  have H := Lib.hid (fun w => below_any n w hl)
  have hn : (n : Int) ≤ 62 := by omega
  go_enter Try.func55, Try.ntmps55
  go_wp2_with fail
  refine (H.out _).mono ?_
  rintro _ _ ⟨rfl, rfl⟩
  go_wp2
  go_ret
  exact ⟨rfl, Fut.alloc _ _⟩
end Go.Proofs.Ytimddkofcejijaa
