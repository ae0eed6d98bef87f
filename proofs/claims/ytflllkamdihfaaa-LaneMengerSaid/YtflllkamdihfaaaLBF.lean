/- all families: apart's closure 110 as a sequence (apart_seq) -/
import Derived.Test.YtflllkamdihfaaaLBE
namespace Go.Proofs.Ytflllkamdihfaaa
open Go.RowKit Go.Sort
section
attribute [local go_sem] Oper.semAt_some
open Go.Shelf
section
variable (w0 : World) (B : Nat) (Z : Nat → Prop) (r c m : Int) (a : Option Addr) (cap : Nat) (S : List Int) (ya : Option Addr) (yc : Nat) (Y : List Int) (ta : Option Addr) (tc : Nat) (T : List Int) (l : Nat) (J Jx : List (List (List Int)) → World → Prop) (xs : List (List (List Int)))
theorem go_all (hC : Srch w0 B Z r c m a S ya yc Y ta tc T) (hJ : OldJ B J) (n : Nat) (HS : SendP w0 B Z r c m a cap S ya yc Y ta tc T l J Jx xs n) : ∀ f, GoP w0 B Z r c m a cap S ya yc Y ta tc T l J Jx xs n f
  | 0 => by
    intro F vF vals way vw pre W d _ _ _ _ _ _ h0 h1 h2
    omega
  | f + 1 => go_step w0 B Z r c m a cap S ya yc Y ta tc T l J Jx xs n f hC hJ HS (go_all hC hJ n HS f)
theorem send_all (hC : Srch w0 B Z r c m a S ya yc Y ta tc T) (hJ : OldJ B J) (hY : YldF B Z l J Jx xs) : ∀ n, SendP w0 B Z r c m a cap S ya yc Y ta tc T l J Jx xs n
  | 0 => send_zero w0 B Z r c m a cap S ya yc Y ta tc T l J Jx xs hC hJ hY
  | n + 1 => send_succ w0 B Z r c m a cap S ya yc Y ta tc T l J Jx xs n hC hJ (go_all w0 B Z r c m a cap S ya yc Y ta tc T l J Jx xs hC hJ n (send_all hC hJ hY n) 16)
end
/-- all families that are apart (the code). -/
def famL (c m : Int) (S Y T : List Int) : List (List (List Int)) := sendF (stL c m S) Y T Y.length []
set_option maxRecDepth 100000 in
set_option maxHeartbeats 1000000 in
theorem apart_seq (w0 : World) (r c m : Int) (hs : Side r c m) (a : Option Addr) (cap : Nat) (S : List Int) (ya : Option Addr) (yc : Nat) (Y : List Int) (ta : Option Addr) (tc : Nat) (T : List Int) (hin : InPQ w0 a S ya yc Y ta tc T) (hy : ∀ y ∈ Y, 0 ≤ y ∧ y < m) (Bp Bq : Nat) :
    SeqV Try.prog 110 #[.pointer (some ⟨Bq, 0, none⟩), .pointer (some ⟨Bp, 0, none⟩)] RdF (famL c m S Y T) w0.heap.size (fun W => Fut w0 W ∧ BoxP W Bp r c a S.length cap ∧ BoxQ W Bq ya Y.length yc ta T.length tc) := fun l Z J Jx W d hZ hN hc hJ _ hY h0 => by
  obtain ⟨hF, hP, hQ⟩ := hc
  have HE := Lib.hid (fun dd => send_all w0 W.heap.size Z r c m a cap S ya yc Y ta tc T l J Jx (famL c m S Y T) ⟨hs, hin, hZ, hN, hy⟩ hJ hY Y.length [] (.slice none 0 0) [] [] W dd (by simp) (fun k hk => absurd hk (by simp)) ⟨World.ownsRow_nil _ _ _ _, rfl, fun j hj => absurd hj (by simp)⟩ (Nat.le_refl _) hF h0 (List.prefix_refl _))
  have HG : Hid (famL c m S Y T = sendF (stL c m S) Y T Y.length []) := Lib.hid rfl
  generalize famL c m S Y T = G at *
  rw [← HG.out] at HE
  obtain ⟨_, p0, p1, p2⟩ := hP
  obtain ⟨_, q0, q1⟩ := hQ
  clear hY hZ hJ hF hin hy hs hN
  show CallsIn Fence.wide d Try.prog 110 #[.func (.yield l) #[] #[], .pointer (some ⟨Bq, 0, none⟩), .pointer (some ⟨Bp, 0, none⟩)] W _
  refine callsIn_of_wp Try.func110 rfl trivial ?_ rfl
  simp only [Try.ntmps110, List.size_toArray, List.length_cons, List.length_nil, Nat.reduceAdd, Nat.reduceSub, Array.replicate_succ, Array.replicate_zero, List.push_toArray, List.append_toArray, List.nil_append, List.cons_append]
  gi_wp2_with (refine ⟨trivial, fun hh => (by cases hh), ?_⟩; gi_at_call 111; refine (HE.out _).mono ?_; clear HE; rintro e w3 ⟨hbu, (⟨rfl, hJ3, hO3⟩ | ⟨rfl, q, hq, hJx3⟩)⟩)
  · go_end0
    exact ⟨⟨_, rfl⟩, .inl hJ3⟩
  · go_end0
    exact ⟨⟨_, rfl⟩, .inr ⟨q, hq, hJx3⟩⟩
end
end Go.Proofs.Ytflllkamdihfaaa
