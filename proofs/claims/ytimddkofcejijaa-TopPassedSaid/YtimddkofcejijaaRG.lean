/- Layer 2: streets that are enough. -/
import Derived.Test.YtimddkofcejijaaRF
namespace Go.Proofs.Ytimddkofcejijaa
open Go.RowKit Go.Sort
theorem retp {a b : Bool} (h : a = b) : Ending.returned (.bool a) = .returned (.bool b) := by rw [h]
def enoughB (ss : List (Int × Int)) (s : Nat) : Bool := oddM ss s == oddM ss (2 ^ ss.length - 1)
theorem mask_lt {n : Nat} (h : n ≤ 15) : 2 ^ n - 1 < 65536 := by have := pow_lt n h; omega
set_option maxRecDepth 100000 in
set_option maxHeartbeats 1000000 in
theorem isEnough_any (c : Int) (a : Option Addr) (cap : Nat) (ss : List (Int × Int)) (s : Nat) (w : World) (hS : StrAt w a ss) (hl : ss.length ≤ 15) (hp : SmL ss) (hs : s < 65536) :
    Calls Try.prog 65 #[mapV c a ss.length cap, sv s] w fun e w' => e = .returned (.bool (enoughB ss s)) ∧ Fut w w' := by
  have H1 := Lib.hid (fun t (ht : t < 65536) W (F : Fut w W) => odd_any c a cap ss t W (hS.fut F) hl hp ht)
  have H2 := Lib.hid (fun W => all_any c a ss.length cap W (by omega))
  have hm := mask_lt hl
  have hb1 := Lib.hid (fun s => oddM_lt hp s)
  have HE : Hid (enoughB ss s = (oddM ss s == oddM ss (2 ^ ss.length - 1))) := Lib.hid rfl
  rw [HE.out]
  clear HE hS hp
  generalize oddM ss = od at *
  generalize 2 ^ ss.length - 1 = m at *
  go_enter Try.func65, Try.ntmps65
  go_wp2_with fail
  have hB := BoxM.new w c a ss.length cap 24
  have hF : Fut w (w.alloc (.cells #[.int .i64 c, .slice a ss.length cap] 24)) := Fut.alloc _ _
  generalize w.alloc (.cells #[.int .i64 c, .slice a ss.length cap] 24) = W1 at *
  generalize w.heap.size = B at *
  have HB := Lib.hid hB
  have HF := Lib.hid hF
  obtain ⟨hb, b0, b1⟩ := hB
  clear hF
  have HFD : Hid (Fut w W1.drew) := Lib.hid (HF.out.trans (Fut.drewN _ 1))
  have HBD : Hid (BoxM W1.drew B c a ss.length cap) := Lib.hid (HB.out.fut (Fut.drewN _ 1))
  go_region_held3 (fun w' => w'.cell? ⟨B, 0, none⟩ = some (.int .i64 c) ∧ w'.cell? ⟨B, 1, none⟩ = some (.slice a ss.length cap)) (first | exact ⟨a0, a1⟩ | exact ⟨b0', b1'⟩ | exact ⟨d0', d1'⟩ | go_keep)
    (first
      | (go_at_call 55; (with_reducible refine (H2.out _).mono ?_); rintro _ wb ⟨rfl, Fb⟩; have gb := BoxM.fut ⟨ha, a0, a1⟩ Fb; obtain ⟨hb', b0', b1'⟩ := gb)
      | (go_at_call 54; (with_reducible refine (H1.out s hs _ HFD.out).mono ?_); rintro _ wa ⟨rfl, Fa⟩; have ga := HBD.out.fut Fa; obtain ⟨ha, a0, a1⟩ := ga)
      | (go_at_call 54; (with_reducible refine (H1.out m hm _ ((HFD.out.trans Fa).trans Fb)).mono ?_); rintro _ wd ⟨rfl, Fd⟩; have gd := BoxM.fut ⟨hb', b0', b1'⟩ Fd; obtain ⟨hd', d0', d1'⟩ := gd))
  go_wp2

  go_ret
  refine ⟨retp ?_, ((HFD.out.trans Fa).trans Fb).trans Fd⟩
  by_cases h : od s = od m
  · rw [h]; simp
  · have h' : (od s : Int) ≠ od m := by omega
    rw [beq_eq_false_iff_ne.2 h, beq_eq_false_iff_ne.2 h']
end Go.Proofs.Ytimddkofcejijaa
