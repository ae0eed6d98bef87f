/- the law's crossings 54: crslaw_any -/
import Derived.Test.YtpgifeaejjjjnaaFO
namespace Go.Proofs.Ytpgifeaejjjjnaa
open Go.RowKit Go.Sort
set_option maxRecDepth 100000 in
set_option maxHeartbeats 4000000 in
theorem crslaw_any (n : Nat) (hn : n ≤ 5) (a : Option Addr) (cap : Nat) (zss : List (List Int)) (w : World) (hL : LstAt w a zss) (hz : zss.length = n) (hd : ∀ k, k < n → (lth zss k).length = n) :
    Calls Try.prog 54 #[.slice a n cap] w fun e w' => ∃ v, e = .returned v ∧ OwnL w' w.heap.size v (crsL n zss) ∧ Fut w w' := by
  have hpw : n ^ n ≤ 10000 := by
    rcases (by omega : n = 0 ∨ n = 1 ∨ n = 2 ∨ n = 3 ∨ n = 4 ∨ n = 5) with rfl | rfl | rfl | rfl | rfl | rfl <;> decide
  have HP : Hid (∀ W : World, Pcr w n a cap zss W → Got w (.slice none 0 0) [] W → Calls Try.prog 95 #[.slice none 0 0, .slice none 0 0, .pointer (some ⟨w.heap.size + 1, 0, none⟩), .pointer (some ⟨w.heap.size + 2, 0, none⟩), .pointer (some ⟨w.heap.size, 0, none⟩), .pointer (some ⟨w.heap.size + 3, 0, none⟩)] W (PutP w (.slice none 0 0) (crsL n zss) W)) := Lib.hid (fun W hP hG => by
    have h := put_crs w n hn a cap zss hL hz hd n none 0 none 0 [] [] (.slice none 0 0) [] W (by simp) rfl (by simp) (World.ownsRow_nil _ _ _ _) (World.ownsRow_nil _ _ _ _) hP hG (by rw [List.length_nil, Nat.zero_add]; exact hpw)
    rw [crs_law, List.nil_append] at h
    exact h)
  have hnx : (n : Int) ≤ 5 := by omega
  clear hL hd
  go_enter Try.func54, Try.ntmps54
  go_wp2_with fail
  have hF : Fut w ((((w.alloc (.cells #[.slice a n cap] 22)).alloc (.cells #[.int .i64 (n : Int)] 3)).alloc (.cells #[.slice none 0 0] 22)).alloc (.cells #[.func (.func 95) #[] (putC w.heap.size)] 92)) := (((Fut.alloc _ _).trans (Fut.alloc _ _)).trans (Fut.alloc _ _)).trans (Fut.alloc _ _)
  have hsz : ((((w.alloc (.cells #[.slice a n cap] 22)).alloc (.cells #[.int .i64 (n : Int)] 3)).alloc (.cells #[.slice none 0 0] 22)).alloc (.cells #[.func (.func 95) #[] (putC w.heap.size)] 92)).heap.size = w.heap.size + 4 := by simp
  have hc0 : ((((w.alloc (.cells #[.slice a n cap] 22)).alloc (.cells #[.int .i64 (n : Int)] 3)).alloc (.cells #[.slice none 0 0] 22)).alloc (.cells #[.func (.func 95) #[] (putC w.heap.size)] 92)).cell? ⟨w.heap.size, 0, none⟩ = some (.slice a n cap) := alloc_old _ _ (alloc_old _ _ (alloc_old _ _ (alloc_cell w _ _)))
  have hc1 : ((((w.alloc (.cells #[.slice a n cap] 22)).alloc (.cells #[.int .i64 (n : Int)] 3)).alloc (.cells #[.slice none 0 0] 22)).alloc (.cells #[.func (.func 95) #[] (putC w.heap.size)] 92)).cell? ⟨w.heap.size + 1, 0, none⟩ = some (.int .i64 n) := by
    have h := alloc_cell (w.alloc (.cells #[.slice a n cap] 22)) (.int .i64 (n : Int)) 3
    rw [World.size_alloc] at h
    exact alloc_old _ _ (alloc_old _ _ h)
  have hh2 : (((w.alloc (.cells #[.slice a n cap] 22)).alloc (.cells #[.int .i64 (n : Int)] 3)).alloc (.cells #[.slice none 0 0] 22)).heap[w.heap.size + 2]? = some (.cells #[.slice none 0 0] 22) := by
    have h := World.alloc_heap_new ((w.alloc (.cells #[.slice a n cap] 22)).alloc (.cells #[.int .i64 (n : Int)] 3)) (.cells #[.slice none 0 0] 22)
    rwa [World.size_alloc, World.size_alloc] at h
  have hh3 := (RowKit.Below.heap_alloc (((w.alloc (.cells #[.slice a n cap] 22)).alloc (.cells #[.int .i64 (n : Int)] 3)).alloc (.cells #[.slice none 0 0] 22)) (.cells #[.func (.func 95) #[] (putC w.heap.size)] 92) (w.heap.size + 2) (by simp)).trans hh2
  have hc3 : ((((w.alloc (.cells #[.slice a n cap] 22)).alloc (.cells #[.int .i64 (n : Int)] 3)).alloc (.cells #[.slice none 0 0] 22)).alloc (.cells #[.func (.func 95) #[] (putC w.heap.size)] 92)).cell? ⟨w.heap.size + 3, 0, none⟩ = some (.func (.func 95) #[] (putC w.heap.size)) := by
    have h := alloc_cell (((w.alloc (.cells #[.slice a n cap] 22)).alloc (.cells #[.int .i64 (n : Int)] 3)).alloc (.cells #[.slice none 0 0] 22)) (.func (.func 95) #[] (putC w.heap.size)) 92
    rwa [World.size_alloc, World.size_alloc, World.size_alloc] at h
  rw [show w.heap.size + 1 + 1 + 1 = w.heap.size + 3 from rfl, show w.heap.size + 1 + 1 = w.heap.size + 2 from rfl]
  generalize ((((w.alloc (.cells #[.slice a n cap] 22)).alloc (.cells #[.int .i64 (n : Int)] 3)).alloc (.cells #[.slice none 0 0] 22)).alloc (.cells #[.func (.func 95) #[] #[.pointer (some ⟨w.heap.size + 1, 0, none⟩), .pointer (some ⟨w.heap.size + 2, 0, none⟩), .pointer (some ⟨w.heap.size, 0, none⟩), .pointer (some ⟨w.heap.size + 3, 0, none⟩)]] 92)) = W at *
  refine (HP.out W ⟨hF, by omega, hc0, hc1, hc3⟩ ⟨?_, ?_, OwnL.nil _ _⟩).mono ?_
  · unfold World.cell?; rw [hh3]; rfl
  · unfold World.frozen?; rw [hh3]; rfl
  rintro _ w2 ⟨rfl, ov, hG, hb, hv⟩
  have hF2 : Fut w w2 := hF.trans' (hb.below w.heap.size (by omega) fun k hk => by
    rcases hk with hk | hk
    · omega
    · cases hk) (Nat.le_refl _)
  have hc := hG.c
  have HG := Lib.hid hG
  have HF2 := Lib.hid hF2
  clear hF hsz hc0 hc1 hh2 hh3 hc3 hb hv hG hF2 HP
  go_wp2
  go_ret
  exact ⟨ov, rfl, HG.out.own.base (by omega), HF2.out⟩
end Go.Proofs.Ytpgifeaejjjjnaa
