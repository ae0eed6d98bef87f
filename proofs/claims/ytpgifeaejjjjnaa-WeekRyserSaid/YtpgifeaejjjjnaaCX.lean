/- the law's fitting. -/
import Derived.Test.YtpgifeaejjjjnaaCW
namespace Go.Proofs.Ytpgifeaejjjjnaa
open Go.RowKit Go.Sort
theorem OwnL.base {w : World} {B B' : Nat} {v : Value} {zss : List (List Int)} (h : OwnL w B v zss) (hB : B' ≤ B) : OwnL w B' v zss := by
  obtain ⟨vals, h1, h2⟩ := h
  refine ⟨vals, ⟨h1.1, ?_⟩, h2.1, fun j hj => ?_⟩
  · rcases h1.2 with h3 | ⟨g, cap, cur, h3, h4, h5⟩
    · exact .inl h3
    · exact .inr ⟨g, cap, cur, h3, by omega, h5⟩
  · obtain ⟨u, e, hu⟩ := h2.2 j hj
    exact ⟨u, e, hu.base hB⟩
set_option maxRecDepth 100000 in
set_option maxHeartbeats 4000000 in
theorem fitlaw_any (n : Nat) (hn : n ≤ 5) (a : Option Addr) (cap : Nat) (zss : List (List Int)) (w : World) (hL : LstAt w a zss) (hz : zss.length ≤ 5) (hd : ∀ k, k < zss.length → n ≤ (lth zss k).length) :
    Calls Try.prog 47 #[.int .i64 n, .slice a zss.length cap] w fun e w' => ∃ v, e = .returned v ∧ OwnL w' w.heap.size v (fitL n zss) ∧ Fut w w' := by
  have hpw : n ^ n ≤ 10000 := by
    rcases (by omega : n = 0 ∨ n = 1 ∨ n = 2 ∨ n = 3 ∨ n = 4 ∨ n = 5) with rfl | rfl | rfl | rfl | rfl | rfl <;> decide
  have HP : Hid (∀ W : World, Pst w n a cap zss W → Got w (.slice none 0 0) [] W → Calls Try.prog 93 #[.slice none 0 0, .pointer (some ⟨w.heap.size, 0, none⟩), .pointer (some ⟨w.heap.size + 2, 0, none⟩), .pointer (some ⟨w.heap.size + 1, 0, none⟩), .pointer (some ⟨w.heap.size + 3, 0, none⟩)] W (PutP w (.slice none 0 0) (fitL n zss) W)) := Lib.hid (fun W hP hG => by
    have h := put_any w n hn a cap zss hL hz hd n none 0 [] (.slice none 0 0) [] W (by simp) (World.ownsRow_nil _ _ _ _) hP hG (by rw [List.length_nil, Nat.zero_add]; exact hpw)
    rw [fit_law, List.nil_append] at h
    exact h)
  clear hL hd
  go_enter Try.func47, Try.ntmps47
  go_wp2_with fail
  have hF : Fut w ((((w.alloc (.cells #[.int .i64 (n : Int)] 3)).alloc (.cells #[.slice a zss.length cap] 22)).alloc (.cells #[.slice none 0 0] 22)).alloc (.cells #[.func (.func 93) #[] (putV w.heap.size)] 90)) := (((Fut.alloc _ _).trans (Fut.alloc _ _)).trans (Fut.alloc _ _)).trans (Fut.alloc _ _)
  have hsz : ((((w.alloc (.cells #[.int .i64 (n : Int)] 3)).alloc (.cells #[.slice a zss.length cap] 22)).alloc (.cells #[.slice none 0 0] 22)).alloc (.cells #[.func (.func 93) #[] (putV w.heap.size)] 90)).heap.size = w.heap.size + 4 := by simp
  have hc0 : ((((w.alloc (.cells #[.int .i64 (n : Int)] 3)).alloc (.cells #[.slice a zss.length cap] 22)).alloc (.cells #[.slice none 0 0] 22)).alloc (.cells #[.func (.func 93) #[] (putV w.heap.size)] 90)).cell? ⟨w.heap.size, 0, none⟩ = some (.int .i64 n) := alloc_old _ _ (alloc_old _ _ (alloc_old _ _ (alloc_cell w _ _)))
  have hc1 : ((((w.alloc (.cells #[.int .i64 (n : Int)] 3)).alloc (.cells #[.slice a zss.length cap] 22)).alloc (.cells #[.slice none 0 0] 22)).alloc (.cells #[.func (.func 93) #[] (putV w.heap.size)] 90)).cell? ⟨w.heap.size + 1, 0, none⟩ = some (.slice a zss.length cap) := by
    have h := alloc_cell (w.alloc (.cells #[.int .i64 (n : Int)] 3)) (.slice a zss.length cap) 22
    rw [World.size_alloc] at h
    exact alloc_old _ _ (alloc_old _ _ h)
  have hh2 : (((w.alloc (.cells #[.int .i64 (n : Int)] 3)).alloc (.cells #[.slice a zss.length cap] 22)).alloc (.cells #[.slice none 0 0] 22)).heap[w.heap.size + 2]? = some (.cells #[.slice none 0 0] 22) := by
    have h := World.alloc_heap_new ((w.alloc (.cells #[.int .i64 (n : Int)] 3)).alloc (.cells #[.slice a zss.length cap] 22)) (.cells #[.slice none 0 0] 22)
    rwa [World.size_alloc, World.size_alloc] at h
  have hh3 := (RowKit.Below.heap_alloc (((w.alloc (.cells #[.int .i64 (n : Int)] 3)).alloc (.cells #[.slice a zss.length cap] 22)).alloc (.cells #[.slice none 0 0] 22)) (.cells #[.func (.func 93) #[] (putV w.heap.size)] 90) (w.heap.size + 2) (by simp)).trans hh2
  have hc3 : ((((w.alloc (.cells #[.int .i64 (n : Int)] 3)).alloc (.cells #[.slice a zss.length cap] 22)).alloc (.cells #[.slice none 0 0] 22)).alloc (.cells #[.func (.func 93) #[] (putV w.heap.size)] 90)).cell? ⟨w.heap.size + 3, 0, none⟩ = some (.func (.func 93) #[] (putV w.heap.size)) := by
    have h := alloc_cell (((w.alloc (.cells #[.int .i64 (n : Int)] 3)).alloc (.cells #[.slice a zss.length cap] 22)).alloc (.cells #[.slice none 0 0] 22)) (.func (.func 93) #[] (putV w.heap.size)) 90
    rwa [World.size_alloc, World.size_alloc, World.size_alloc] at h
  rw [show w.heap.size + 1 + 1 + 1 = w.heap.size + 3 from rfl, show w.heap.size + 1 + 1 = w.heap.size + 2 from rfl]
  generalize ((((w.alloc (.cells #[.int .i64 (n : Int)] 3)).alloc (.cells #[.slice a zss.length cap] 22)).alloc (.cells #[.slice none 0 0] 22)).alloc (.cells #[.func (.func 93) #[] #[.pointer (some ⟨w.heap.size, 0, none⟩), .pointer (some ⟨w.heap.size + 2, 0, none⟩), .pointer (some ⟨w.heap.size + 1, 0, none⟩), .pointer (some ⟨w.heap.size + 3, 0, none⟩)]] 90)) = W at *
  refine (HP.out W ⟨hF, by omega, hc0, hc1, hc3⟩ ⟨?_, ?_, OwnL.nil _ _⟩).mono ?_
  · unfold World.cell?; rw [hh3]; rfl
  · unfold World.frozen?; rw [hh3]; rfl
  rintro _ w2 ⟨rfl, ov, hG, hb, hv⟩
  have hF2 : Fut w w2 := hF.trans' (hb.below w.heap.size (by omega) fun k hk => by
    rcases hk with hk | hk
    · omega
    · cases hk) (Nat.le_refl _)
  have hc := hG.c
  have HG := Lib.hid hG
  have HF2 := Lib.hid hF2
  clear hF hsz hc0 hc1 hh2 hh3 hc3 hb hv hG hF2 HP
  go_wp2
  go_ret
  exact ⟨ov, rfl, HG.out.own.base (by omega), HF2.out⟩
end Go.Proofs.Ytpgifeaejjjjnaa
