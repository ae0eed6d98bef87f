/- Layer 1: the division in an order. -/
import Derived.Test.YtdnbdaegahcoeaaM
namespace Go.Proofs.Ytdnbdaegahcoeaa
open Go.RowKit Go.Sort
theorem onceF_val (n : Nat) : ∀ (os : List Int) (g : Fin 5 → Bool), onceF n os g = 0 → ∃ ds : List (Fin 5), valL ds = os ∧ ∀ d ∈ ds, d.val < n
  | [], _, _ => ⟨[], rfl, by simp⟩
  | i :: o, g, h => by
    unfold onceF at h
    split at h
    · rename_i hi
      split at h
      · omega
      · obtain ⟨ds, hd, hm⟩ := onceF_val n o _ h
        refine ⟨⟨i.toNat, hi.2.2⟩ :: ds, ?_, ?_⟩
        · rw [← hd]
          show ((i.toNat : Nat) : Int) :: valL ds = i :: valL ds
          rw [Int.toNat_of_nonneg hi.1]
        · intro d hd'
          rcases List.mem_cons.1 hd' with rfl | hd'
          · show i.toNat < n; omega
          · exact hm d hd'
    · omega
theorem order_err1 (x : Int) (a c : Option Addr) (cap dap : Nat) (zs os : List Int) (w : World) (hl : zs.length ≤ 9223372036854775807) (hA : IntsAt w a zs) (hc : chk x zs ≠ 0) :
    Calls Try.prog 28 #[.int .i64 x, .slice a zs.length cap, .slice c os.length dap] w fun e w' => e = .returned (.tuple #[.slice none 0 0, .int .i64 (chk x zs)]) ∧ RowKit.Below w.heap.size w w' := by
  have hk := known_err x a cap zs w hl hA hc
  have hne' : (chk x zs != 0) = true := by simpa using hc
  generalize chk x zs = r at hk hne' ⊢
  clear hA hc
  have HK := Lib.hid hk; clear hk
  go_enter Try.func28, Try.ntmps28
  go_wp2_with (go_at_call 54; refine (HK.out).mono ?_; rintro e w1 ⟨rfl, hB⟩)
  go_ret2
  exact ⟨rfl, hB.alloc hB.size _⟩
theorem order_err2 (x : Int) (a c : Option Addr) (cap dap : Nat) (zs os : List Int) (w : World) (hlo : os.length ≤ 9223372036854775807) (hA : IntsAt w a zs) (hG : IntsAt w c os) (hc : chk x zs = 0) (ho : onceE zs.length os ≠ 0) :
    Calls Try.prog 28 #[.int .i64 x, .slice a zs.length cap, .slice c os.length dap] w fun e w' => e = .returned (.tuple #[.slice none 0 0, .int .i64 (onceE zs.length os)]) ∧ RowKit.Below w.heap.size w w' := by
  have hk := known_ok x a cap zs w hA hc
  obtain ⟨h1, h2, h3, _, _⟩ := chk_ok hc
  have HO : Hid (∀ W, RowKit.Below w.heap.size w W → Calls Try.prog 69 #[hv zs.length (x * 120) (K zs 0) (K zs 1) (K zs 2) (K zs 3) (K zs 4), .slice c os.length dap] W fun e w' => e = .returned (.int .i64 (onceE zs.length os)) ∧ RowKit.Below W.heap.size W w') := fun W hW =>
    eachOnce_any zs.length h2 (x * 120) (K zs) c dap os W hlo (hG.below hW)
  have hne' : (onceE zs.length os != 0) = true := by simpa using ho
  generalize onceE zs.length os = r at HO hne' ⊢
  generalize K zs = f at hk HO
  clear hA hc h3 hG ho
  have HK := Lib.hid hk; clear hk
  go_enter Try.func28, Try.ntmps28
  go_wp2_with (first | (go_at_call 54; refine (HK.out).mono ?_; rintro e w1 ⟨rfl, hB⟩) | (go_at_call 69; refine (HO.out _ (hB.alloc hB.size _)).mono ?_; rintro e w2 ⟨rfl, hB2⟩))
  go_ret2
  exact ⟨rfl, (hB.alloc hB.size _).trans (hB2.mono (by have := hB.size; simp; omega))⟩
set_option maxHeartbeats 1000000 in
theorem order_ok (x : Int) (a c : Option Addr) (cap dap : Nat) (zs : List Int) (ds : List (Fin 5)) (w : World) (hA : IntsAt w a zs) (hG : IntsAt w c (valL ds)) (hc : chk x zs = 0) (ho : onceE zs.length (valL ds) = 0) :
    Calls Try.prog 28 #[.int .i64 x, .slice a zs.length cap, .slice c ds.length dap] w fun e w' => ∃ v, e = .returned (.tuple #[v, .int .i64 0]) ∧ Owns w' w.heap.size v ((list5 (inF (K zs) ds (x * 120) (fun _ => 0))).take zs.length) ∧ RowKit.Below w.heap.size w w' := by
  have hk := known_ok x a cap zs w hA hc
  obtain ⟨h1, h2, h3, _, _⟩ := chk_ok hc
  obtain ⟨hx1, hx2⟩ := chk_bd hc
  have hf := K_pt h3
  have hdl : ds.length = zs.length := by
    unfold onceE at ho
    split at ho
    · omega
    · rename_i h; rw [valL_length] at h; omega
  have HO : Hid (∀ W, RowKit.Below w.heap.size w W → Calls Try.prog 69 #[hv zs.length (x * 120) (K zs 0) (K zs 1) (K zs 2) (K zs 3) (K zs 4), .slice c ds.length dap] W fun e w' => e = .returned (.int .i64 0) ∧ RowKit.Below W.heap.size W w') := fun W hW => by
    have := eachOnce_any zs.length h2 (x * 120) (K zs) c dap (valL ds) W (by rw [valL_length]; omega) (hG.below hW)
    rw [ho, valL_length] at this; exact this
  have HI : Hid (∀ W, RowKit.Below w.heap.size w W → Calls Try.prog 70 #[hv zs.length (x * 120) (K zs 0) (K zs 1) (K zs 2) (K zs 3) (K zs 4), .slice c ds.length dap] W fun e w' => e = .returned (agg5 (inF (K zs) ds (x * 120) (fun _ => 0))) ∧ RowKit.Below W.heap.size W w') := fun W hW =>
    inOrder_any zs.length (x * 120) (K zs) c dap ds W ⟨by omega, by omega⟩ hf (by omega) (hG.below hW)
  have HLi := Lib.hid (fun r W => list_f zs.length h1 h2 (x * 120) (K zs) r W)
  generalize inF (K zs) ds (x * 120) (fun _ => 0) = lo at HI ⊢
  generalize hfe : K zs = f at hk hf HO HI HLi
  clear hA hc h3 hfe hG ho hf hdl
  have HK := Lib.hid hk; clear hk
  go_enter Try.func28, Try.ntmps28
  go_wp2_with (first | (go_at_call 54; refine (HK.out).mono ?_; rintro e w1 ⟨rfl, hB⟩) | (go_at_call 69; refine (HO.out _ (hB.alloc hB.size _)).mono ?_; rintro e w2 ⟨rfl, hB2⟩; obtain ⟨hcc, hff⟩ := bcell hB2))
  have hBs := hB.size
  have hz2 := hB2.size
  simp only [World.size_alloc] at hz2
  have hs2 : w1.heap.size < w2.heap.size := by omega
  have hBw := (hB.alloc hB.size _).trans (hB2.mono (by simp; omega))
  go_region_held3 (fun w' => w'.cell? ⟨w1.heap.size, 0, none⟩ = some (.int .i64 zs.length) ∧ w'.cell? ⟨w1.heap.size, 1, none⟩ = some (.int .i64 (x * 120)) ∧ w'.cell? ⟨w1.heap.size, 2, none⟩ = some (.int .i64 (f 0)) ∧ w'.cell? ⟨w1.heap.size, 3, none⟩ = some (.int .i64 (f 1)) ∧ w'.cell? ⟨w1.heap.size, 4, none⟩ = some (.int .i64 (f 2)) ∧ w'.cell? ⟨w1.heap.size, 5, none⟩ = some (.int .i64 (f 3)) ∧ w'.cell? ⟨w1.heap.size, 6, none⟩ = some (.int .i64 (f 4))) (simp [go_sem, *]) (first
      | (go_at_call 70; refine (HI.out _ hBw.drew).mono ?_; rintro r w3 ⟨rfl, hB3⟩; obtain ⟨hcc3, hff3⟩ := bcellD hB3; have hz3 := hB3.size; (try simp at hz3); have hs3 : w1.heap.size < w3.heap.size := (by omega))
      | (go_at_call 57; refine (HLi.out _ _).mono ?_; rintro r w4 ⟨v, rfl, hO, hB4⟩; obtain ⟨hcc4, hff4⟩ := bcell hB4))
  all_goals go_wp2
  all_goals go_ret2
  exact ⟨v, rfl, hO.base (by omega), (hBw.drew.trans (hB3.mono hBw.size)).trans (hB4.mono (by omega))⟩
end Go.Proofs.Ytdnbdaegahcoeaa
