/- slices.Sort 56 (sort_any) -/
import Derived.Test.YtjapconhehdcjaaLD
import Derived.Test.YtjapconhehdcjaaLC
import Derived.Test.YtjapconhehdcjaaLB
import Derived.Shelf.SortM.Plain
import Derived.Shelf.SortM.SortNone
namespace Go.Proofs.Ytjapconhehdcjaa
open Go.RowKit Go.Sort
open Go.Shelf in
def srtL_ren : Go.Shelf.Ren := ⟨fun | 5 => 48 | 8 => 86 | 7 => 85 | 19 => 111 | 20 => 112 | 10 => 102 | 11 => 103 | 12 => 104 | 13 => 105 | 14 => 106 | 15 => 107 | 16 => 108 | 17 => 109 | 18 => 110 | 30 => 126 | 31 => 127 | 32 => 128 | 33 => 129 | 34 => 130 | 35 => 131 | 40 => 135 | n => n, fun | 23 => 22 | 25 => 3 | 3 => 3 | 32 => 99 | 22 => 22 | 0 => 0 | 44 => 128 | 46 => 130 | 4 => 4 | 36 => 121 | 35 => 120 | 41 => 125 | 5 => 5 | 9 => 9 | 53 => 140 | 57 => 144 | 63 => 148 | 64 => 149 | n => n, fun | n => n⟩
open Go.Shelf in
theorem srtL : Go.Proofs.SlLaysM.n5 Try.prog srtL_ren := {
  mixed := by kernel_rfl,
  f5 := ⟨Try.f48.name, by decide, Try.func48.trans (congrArg some (by kernel_rfl))⟩,
  f7 := ⟨Try.f85.name, by decide, Try.func85.trans (congrArg some (by kernel_rfl))⟩,
  f8 := Try.func86.trans (congrArg some (by kernel_rfl)),
  f10 := ⟨Try.f102.name, by decide, Try.func102.trans (congrArg some (by kernel_rfl))⟩,
  f11 := ⟨Try.f103.name, by decide, Try.func103.trans (congrArg some (by kernel_rfl))⟩,
  f12 := ⟨Try.f104.name, by decide, Try.func104.trans (congrArg some (by kernel_rfl))⟩,
  f13 := ⟨Try.f105.name, by decide, Try.func105.trans (congrArg some (by kernel_rfl))⟩,
  f14 := ⟨Try.f106.name, by decide, Try.func106.trans (congrArg some (by kernel_rfl))⟩,
  f15 := ⟨Try.f107.name, by decide, Try.func107.trans (congrArg some (by kernel_rfl))⟩,
  f16 := ⟨Try.f108.name, by decide, Try.func108.trans (congrArg some (by kernel_rfl))⟩,
  f17 := ⟨Try.f109.name, by decide, Try.func109.trans (congrArg some (by kernel_rfl))⟩,
  f18 := ⟨Try.f110.name, by decide, Try.func110.trans (congrArg some (by kernel_rfl))⟩,
  f19 := Try.func111.trans (congrArg some (by kernel_rfl)),
  f20 := Try.func112.trans (congrArg some (by kernel_rfl)),
  f30 := ⟨Try.f126.name, by decide, Try.func126.trans (congrArg some (by kernel_rfl))⟩,
  f31 := Try.func127.trans (congrArg some (by kernel_rfl)),
  f32 := Try.func128.trans (congrArg some (by kernel_rfl)),
  f33 := ⟨Try.f129.name, by decide, Try.func129.trans (congrArg some (by kernel_rfl))⟩,
  f34 := ⟨Try.f130.name, by decide, Try.func130.trans (congrArg some (by kernel_rfl))⟩,
  f35 := ⟨Try.f131.name, by decide, Try.func131.trans (congrArg some (by kernel_rfl))⟩,
  f40 := ⟨Try.f135.name, by decide, Try.func135.trans (congrArg some (by kernel_rfl))⟩,
  t0 := Try.underlying0,
  a0 := Try.isAgg0,
  z0 := Try.sizeOf0,
  v0 := Try.zeroValue0,
  t3 := Try.underlying3,
  a3 := Try.isAgg3,
  z3 := Try.sizeOf3,
  v3 := Try.zeroValue3,
  t4 := Try.underlying4,
  a4 := Try.isAgg4,
  z4 := Try.sizeOf4,
  v4 := Try.zeroValue4,
  t5 := Try.underlying5,
  a5 := Try.isAgg5,
  z5 := Try.sizeOf5,
  v5 := Try.zeroValue5,
  t9 := Try.underlying9,
  a9 := Try.isAgg9,
  z9 := Try.sizeOf9,
  v9 := Try.zeroValue9,
  t22 := Try.underlying22,
  a22 := Try.isAgg22,
  z22 := Try.sizeOf22,
  v22 := Try.zeroValue22,
  t23 := Try.underlying22,
  a23 := Try.isAgg22,
  z23 := Try.sizeOf22,
  v23 := Try.zeroValue22,
  t25 := Try.underlying3,
  a25 := Try.isAgg3,
  z25 := Try.sizeOf3,
  v25 := Try.zeroValue3,
  t32 := Try.underlying99,
  a32 := Try.isAgg99,
  z32 := Try.sizeOf99,
  v32 := Try.zeroValue99,
  t35 := Try.underlying120,
  a35 := Try.isAgg120,
  z35 := Try.sizeOf120,
  v35 := Try.zeroValue120,
  t36 := Try.underlying121,
  a36 := Try.isAgg121,
  z36 := Try.sizeOf121,
  v36 := Try.zeroValue121,
  t41 := Try.underlying125,
  a41 := Try.isAgg125,
  z41 := Try.sizeOf125,
  v41 := Try.zeroValue125,
  t44 := Try.underlying128,
  a44 := Try.isAgg128,
  z44 := Try.sizeOf128,
  v44 := Try.zeroValue128,
  t46 := Try.underlying130,
  a46 := Try.isAgg130,
  z46 := Try.sizeOf130,
  v46 := Try.zeroValue130,
  t53 := Try.underlying140,
  a53 := Try.isAgg140,
  z53 := Try.sizeOf140,
  v53 := Try.zeroValue140,
  t57 := Try.underlying144,
  a57 := Try.isAgg144,
  z57 := Try.sizeOf144,
  v57 := Try.zeroValue144,
  t63 := Try.underlying148,
  a63 := Try.isAgg148,
  z63 := Try.sizeOf148,
  v63 := Try.zeroValue148,
  t64 := Try.underlying149,
  a64 := Try.isAgg149,
  z64 := Try.sizeOf149,
  v64 := Try.zeroValue149 }
/-- a list put in order. -/
def srtI (zs : List Int) : List Int := zs.mergeSort fun x y => decide (x ≤ y)
theorem srt_len (zs : List Int) : (srtI zs).length = zs.length := by unfold srtI; exact List.length_mergeSort _
theorem srt_perm (zs : List Int) : (srtI zs).Perm zs := List.mergeSort_perm _ _
theorem srt_mem (zs : List Int) (x : Int) : x ∈ srtI zs ↔ x ∈ zs := (srt_perm zs).mem_iff
theorem srt_le (zs : List Int) : (srtI zs).Pairwise (· ≤ ·) := by
  have h := List.pairwise_mergeSort (le := fun x y : Int => decide (x ≤ y)) (fun a b c h1 h2 => by simp at *; omega) (fun a b => by simp; omega) zs
  exact h.imp (fun h => by simpa using h)
theorem srt_lt {zs : List Int} (hd : zs.Nodup) : (srtI zs).Pairwise (· < ·) := by
  have hn : (srtI zs).Nodup := (srt_perm zs).nodup_iff.2 hd
  exact ((srt_le zs).and hn).imp (fun h => by omega)
theorem le_eq : ∀ (l l' : List Int), l.Pairwise (· ≤ ·) → l'.Pairwise (· ≤ ·) → l.Perm l' → l = l'
  | [], l', _, _, h => (List.nil_perm.1 h).symm
  | a :: l, [], _, _, h => by have := h.length_eq; simp at this
  | a :: l, b :: l', h1, h2, h => by
    obtain ⟨a1, a2⟩ := List.pairwise_cons.1 h1
    obtain ⟨b1, b2⟩ := List.pairwise_cons.1 h2
    have hab : a = b := by
      rcases List.mem_cons.1 (h.mem_iff.1 (show a ∈ a :: l by simp)) with e | e
      · exact e
      · rcases List.mem_cons.1 (h.mem_iff.2 (show b ∈ b :: l' by simp)) with e' | e'
        · exact e'.symm
        · have := a1 b e'; have := b1 a e; omega
    subst hab
    rw [le_eq l l' a2 b2 (h.cons_inv)]
theorem srt_eq_of_perm {l l' : List Int} (h : l.Perm l') : srtI l = srtI l' := le_eq _ _ (srt_le _) (srt_le _) ((srt_perm l).trans (h.trans (srt_perm l').symm))
open Go.Shelf in
/-- slices.Sort: a row of one's own is put in order. -/
theorem sort_any (g cap : Nat) (zs : List Int) (w : World) (hR : RowN w g zs) (hg : g < w.heap.size) (hl : zs.length ≤ 100000) :
    Calls Try.prog 48 #[.slice (some ⟨g, 0, none⟩) zs.length cap] w fun e w' => e = .returned (.tuple #[]) ∧ RowN w' g (srtI zs) ∧ (∀ B, B ≤ g → RowKit.Below B w w') ∧ w.heap.size ≤ w'.heap.size ∧ ∀ k, k < w.heap.size → k ≠ g → w'.heap[k]? = w.heap[k]? := by
  have h := AnyM.slices_Sort_int srtL g 0 cap zs w hR.holds hg (by omega)
  refine Calls.mono h ?_
  rintro e w' ⟨rfl, n, os, rfl⟩
  have hR1 : RowN (Sort.ahead w n) g zs := hR
  have hR2 : RowN (putRow (Value.int .i64) (Sort.ahead w n) g 0 (srtI zs).toArray) g (srtI zs) := hR1.put (srt_len zs)
  have hsz : g < (putRow (Value.int .i64) (Sort.ahead w n) g 0 (srtI zs).toArray).heap.size := by simpa using hg
  have hF : Fut (putRow (Value.int .i64) (Sort.ahead w n) g 0 (srtI zs).toArray) (grow (putRow (Value.int .i64) (Sort.ahead w n) g 0 (srtI zs).toArray) os) :=
    ⟨rfl, rfl, rfl, by simp, fun k hk => by
      show ((putRow (Value.int .i64) (Sort.ahead w n) g 0 (srtI zs).toArray).heap ++ os)[k]? = _
      rw [Array.getElem?_append_left hk]⟩
  have hB : ∀ B, B ≤ g → RowKit.Below B w (putRow (Value.int .i64) (Sort.ahead w n) g 0 (srtI zs).toArray) := fun B hb => below_put (w := Sort.ahead w n) (below_drewN (RowKit.Below.refl _ _) n) hb _
  have hs2 : w.heap.size ≤ (putRow (Value.int .i64) (Sort.ahead w n) g 0 (srtI zs).toArray).heap.size := by simp [Sort.ahead]
  refine ⟨rfl, hR2.below hF hsz, fun B hb => ?_, Nat.le_trans hs2 (RowKit.Below.size hF), fun k hk hne => ?_⟩
  · exact RowKit.Below.trans (hB B hb) (RowKit.Below.mono hF (by have := hB B hb; omega))
  · show (grow (putRow (Value.int .i64) (Sort.ahead w n) g 0 (srtI zs).toArray) os).heap[k]? = _
    rw [RowKit.Below.block hF k (by omega)]
    show ((Sort.ahead w n).heap.modify g _)[k]? = _
    rw [Array.getElem?_modify, if_neg (fun e => hne e.symm)]
    rfl
open Go.Shelf in
theorem sort_none (p : Option Addr) (cap : Nat) (w : World) : Calls Try.prog 48 #[.slice p 0 cap] w fun e w' => e = .returned (.tuple #[]) ∧ w' = w :=
  AnyM.slices_Sort_int_none srtL p cap w
end Go.Proofs.Ytjapconhehdcjaa
