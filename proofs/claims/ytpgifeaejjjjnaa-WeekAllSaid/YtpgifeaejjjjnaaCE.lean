/- orders. -/
import Derived.Test.YtpgifeaejjjjnaaCD
namespace Go.Proofs.Ytpgifeaejjjjnaa
open Go.RowKit Go.Sort
attribute [local go_sem] Oper.semAt_some
open Go.Shelf
theorem orders_any (n : Int) (w : World) : Calls Try.prog 113 #[.int .i64 n] w fun e w' => e = .returned (.func (.func 135) #[] #[.pointer (some ⟨w.heap.size, 0, none⟩)]) ∧ w' = w.alloc (.cells #[.int .i64 n] 3) := by
  go_enter Try.func113, Try.ntmps113
  go_wp2
  go_ret
  exact ⟨rfl, rfl⟩
set_option maxRecDepth 100000 in
set_option maxHeartbeats 1000000 in
theorem orders_seq (n : Nat) (hn : n ≤ 5) (Bm : Nat) :
    SeqV Try.prog 135 #[.pointer (some ⟨Bm, 0, none⟩)] Rd (ordT n n []) 0 (fun w => w.cell? ⟨Bm, 0, none⟩ = some (.int .i64 n)) := fun l Z J Jx W d hZ _ hc hJ _ hY h0 => by
  have HE := Lib.hid (fun dd => each_any n hn l W.heap.size Z (fun k hk => (hZ k hk).2) J Jx hJ (ordT n n []) hY n [] (.slice none 0 0) [] W dd (by simp) (World.ownsRow_nil _ _ _ _) (Nat.le_refl _) h0 (List.prefix_refl _))
  clear hY hZ hJ
  show CallsIn Fence.wide d Try.prog 135 #[.func (.yield l) #[] #[], .pointer (some ⟨Bm, 0, none⟩)] W _
  refine callsIn_of_wp Try.func135 rfl trivial ?_ rfl
  simp only [Try.ntmps135, List.size_toArray, List.length_cons, List.length_nil, Nat.reduceAdd, Nat.reduceSub, Array.replicate_succ, Array.replicate_zero, List.push_toArray, List.append_toArray, List.nil_append, List.cons_append]
  gi_wp2_with (refine ⟨trivial, fun hh => (by cases hh), ?_⟩; gi_at_call 136; refine (HE.out _).mono ?_; clear HE; rintro e w3 ⟨hbu, (⟨rfl, hJ3, hO3⟩ | ⟨rfl, q, hq, hJx3⟩)⟩)
  · go_end0
    exact ⟨⟨_, rfl⟩, .inl hJ3⟩
  · go_end0
    exact ⟨⟨_, rfl⟩, .inr ⟨q, hq, hJx3⟩⟩
end Go.Proofs.Ytpgifeaejjjjnaa
