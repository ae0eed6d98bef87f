/- slices.Sort 56 (sort_any) -/
import Derived.Test.YtflllkamdihfaaaLEA
import Derived.Test.YtflllkamdihfaaaLMA
import Derived.Test.YtflllkamdihfaaaLB
import Derived.Shelf.SortM.Plain
import Derived.Shelf.SortM.SortNone
namespace Go.Proofs.Ytflllkamdihfaaa
open Go.RowKit Go.Sort
open Go.Shelf in
def srtL_ren : Go.Shelf.Ren := ⟨fun | 5 => 56 | 8 => 105 | 7 => 104 | 19 => 125 | 20 => 126 | 10 => 116 | 11 => 117 | 12 => 118 | 13 => 119 | 14 => 120 | 15 => 121 | 16 => 122 | 17 => 123 | 18 => 124 | 30 => 128 | 31 => 129 | 32 => 130 | 33 => 131 | 34 => 132 | 35 => 115 | 40 => 134 | n => n, fun | 23 => 22 | 25 => 3 | 3 => 3 | 32 => 130 | 22 => 22 | 0 => 0 | 44 => 76 | 46 => 149 | 4 => 4 | 36 => 141 | 35 => 140 | 41 => 145 | 5 => 5 | 9 => 9 | 53 => 151 | 57 => 155 | 63 => 158 | 64 => 159 | n => n, fun | n => n⟩
open Go.Shelf in
theorem srtL : Go.Proofs.SlLaysM.n5 Try.prog srtL_ren := {
  mixed := by kernel_rfl,
  f5 := ⟨Try.f56.name, by decide, Try.func56.trans (congrArg some (by kernel_rfl))⟩,
  f7 := ⟨Try.f104.name, by decide, Try.func104.trans (congrArg some (by kernel_rfl))⟩,
  f8 := Try.func105.trans (congrArg some (by kernel_rfl)),
  f10 := ⟨Try.f116.name, by decide, Try.func116.trans (congrArg some (by kernel_rfl))⟩,
  f11 := ⟨Try.f117.name, by decide, Try.func117.trans (congrArg some (by kernel_rfl))⟩,
  f12 := ⟨Try.f118.name, by decide, Try.func118.trans (congrArg some (by kernel_rfl))⟩,
  f13 := ⟨Try.f119.name, by decide, Try.func119.trans (congrArg some (by kernel_rfl))⟩,
  f14 := ⟨Try.f120.name, by decide, Try.func120.trans (congrArg some (by kernel_rfl))⟩,
  f15 := ⟨Try.f121.name, by decide, Try.func121.trans (congrArg some (by kernel_rfl))⟩,
  f16 := ⟨Try.f122.name, by decide, Try.func122.trans (congrArg some (by kernel_rfl))⟩,
  f17 := ⟨Try.f123.name, by decide, Try.func123.trans (congrArg some (by kernel_rfl))⟩,
  f18 := ⟨Try.f124.name, by decide, Try.func124.trans (congrArg some (by kernel_rfl))⟩,
  f19 := Try.func125.trans (congrArg some (by kernel_rfl)),
  f20 := Try.func126.trans (congrArg some (by kernel_rfl)),
  f30 := ⟨Try.f128.name, by decide, Try.func128.trans (congrArg some (by kernel_rfl))⟩,
  f31 := Try.func129.trans (congrArg some (by kernel_rfl)),
  f32 := Try.func130.trans (congrArg some (by kernel_rfl)),
  f33 := ⟨Try.f131.name, by decide, Try.func131.trans (congrArg some (by kernel_rfl))⟩,
  f34 := ⟨Try.f132.name, by decide, Try.func132.trans (congrArg some (by kernel_rfl))⟩,
  f35 := ⟨Try.f115.name, by decide, Try.func115.trans (congrArg some (by kernel_rfl))⟩,
  f40 := ⟨Try.f134.name, by decide, Try.func134.trans (congrArg some (by kernel_rfl))⟩,
  t0 := Try.underlying0,
  a0 := Try.isAgg0,
  z0 := Try.sizeOf0,
  v0 := Try.zeroValue0,
  t3 := Try.underlying3,
  a3 := Try.isAgg3,
  z3 := Try.sizeOf3,
  v3 := Try.zeroValue3,
  t4 := Try.underlying4,
  a4 := Try.isAgg4,
  z4 := Try.sizeOf4,
  v4 := Try.zeroValue4,
  t5 := Try.underlying5,
  a5 := Try.isAgg5,
  z5 := Try.sizeOf5,
  v5 := Try.zeroValue5,
  t9 := Try.underlying9,
  a9 := Try.isAgg9,
  z9 := Try.sizeOf9,
  v9 := Try.zeroValue9,
  t22 := Try.underlying22,
  a22 := Try.isAgg22,
  z22 := Try.sizeOf22,
  v22 := Try.zeroValue22,
  t23 := Try.underlying22,
  a23 := Try.isAgg22,
  z23 := Try.sizeOf22,
  v23 := Try.zeroValue22,
  t25 := Try.underlying3,
  a25 := Try.isAgg3,
  z25 := Try.sizeOf3,
  v25 := Try.zeroValue3,
  t32 := Try.underlying130,
  a32 := Try.isAgg130,
  z32 := Try.sizeOf130,
  v32 := Try.zeroValue130,
  t35 := Try.underlying140,
  a35 := Try.isAgg140,
  z35 := Try.sizeOf140,
  v35 := Try.zeroValue140,
  t36 := Try.underlying141,
  a36 := Try.isAgg141,
  z36 := Try.sizeOf141,
  v36 := Try.zeroValue141,
  t41 := Try.underlying145,
  a41 := Try.isAgg145,
  z41 := Try.sizeOf145,
  v41 := Try.zeroValue145,
  t44 := Try.underlying76,
  a44 := Try.isAgg76,
  z44 := Try.sizeOf76,
  v44 := Try.zeroValue76,
  t46 := Try.underlying149,
  a46 := Try.isAgg149,
  z46 := Try.sizeOf149,
  v46 := Try.zeroValue149,
  t53 := Try.underlying151,
  a53 := Try.isAgg151,
  z53 := Try.sizeOf151,
  v53 := Try.zeroValue151,
  t57 := Try.underlying155,
  a57 := Try.isAgg155,
  z57 := Try.sizeOf155,
  v57 := Try.zeroValue155,
  t63 := Try.underlying158,
  a63 := Try.isAgg158,
  z63 := Try.sizeOf158,
  v63 := Try.zeroValue158,
  t64 := Try.underlying159,
  a64 := Try.isAgg159,
  z64 := Try.sizeOf159,
  v64 := Try.zeroValue159 }
/-- a list put in order. -/
def srtI (zs : List Int) : List Int := zs.mergeSort fun x y => decide (x ≤ y)
theorem srt_len (zs : List Int) : (srtI zs).length = zs.length := by unfold srtI; exact List.length_mergeSort _
theorem srt_perm (zs : List Int) : (srtI zs).Perm zs := List.mergeSort_perm _ _
theorem srt_mem (zs : List Int) (x : Int) : x ∈ srtI zs ↔ x ∈ zs := (srt_perm zs).mem_iff
theorem srt_le (zs : List Int) : (srtI zs).Pairwise (· ≤ ·) := by
  have h := List.pairwise_mergeSort (le := fun x y : Int => decide (x ≤ y)) (fun a b c h1 h2 => by simp at *; omega) (fun a b => by simp; omega) zs
  exact h.imp (fun h => by simpa using h)
theorem srt_lt {zs : List Int} (hd : zs.Nodup) : (srtI zs).Pairwise (· < ·) := by
  have hn : (srtI zs).Nodup := (srt_perm zs).nodup_iff.2 hd
  exact ((srt_le zs).and hn).imp (fun h => by omega)
theorem le_eq : ∀ (l l' : List Int), l.Pairwise (· ≤ ·) → l'.Pairwise (· ≤ ·) → l.Perm l' → l = l'
  | [], l', _, _, h => (List.nil_perm.1 h).symm
  | a :: l, [], _, _, h => by have := h.length_eq; simp at this
  | a :: l, b :: l', h1, h2, h => by
    obtain ⟨a1, a2⟩ := List.pairwise_cons.1 h1
    obtain ⟨b1, b2⟩ := List.pairwise_cons.1 h2
    have hab : a = b := by
      rcases List.mem_cons.1 (h.mem_iff.1 (show a ∈ a :: l by simp)) with e | e
      · exact e
      · rcases List.mem_cons.1 (h.mem_iff.2 (show b ∈ b :: l' by simp)) with e' | e'
        · exact e'.symm
        · have := a1 b e'; have := b1 a e; omega
    subst hab
    rw [le_eq l l' a2 b2 (h.cons_inv)]
theorem srt_eq_of_perm {l l' : List Int} (h : l.Perm l') : srtI l = srtI l' := le_eq _ _ (srt_le _) (srt_le _) ((srt_perm l).trans (h.trans (srt_perm l').symm))
open Go.Shelf in
/-- slices.Sort: a row of one's own is put in order. -/
theorem sort_any (g cap : Nat) (zs : List Int) (w : World) (hR : RowN w g zs) (hg : g < w.heap.size) (hl : zs.length ≤ 100000) :
    Calls Try.prog 56 #[.slice (some ⟨g, 0, none⟩) zs.length cap] w fun e w' => e = .returned (.tuple #[]) ∧ RowN w' g (srtI zs) ∧ (∀ B, B ≤ g → RowKit.Below B w w') ∧ w.heap.size ≤ w'.heap.size ∧ ∀ k, k < w.heap.size → k ≠ g → w'.heap[k]? = w.heap[k]? := by
  have h := AnyM.slices_Sort_int srtL g 0 cap zs w hR.holds hg (by omega)
  refine Calls.mono h ?_
  rintro e w' ⟨rfl, n, os, rfl⟩
  have hR1 : RowN (Sort.ahead w n) g zs := hR
  have hR2 : RowN (putRow (Value.int .i64) (Sort.ahead w n) g 0 (srtI zs).toArray) g (srtI zs) := hR1.put (srt_len zs)
  have hsz : g < (putRow (Value.int .i64) (Sort.ahead w n) g 0 (srtI zs).toArray).heap.size := by simpa using hg
  have hF : Fut (putRow (Value.int .i64) (Sort.ahead w n) g 0 (srtI zs).toArray) (grow (putRow (Value.int .i64) (Sort.ahead w n) g 0 (srtI zs).toArray) os) :=
    ⟨rfl, rfl, rfl, by simp, fun k hk => by
      show ((putRow (Value.int .i64) (Sort.ahead w n) g 0 (srtI zs).toArray).heap ++ os)[k]? = _
      rw [Array.getElem?_append_left hk]⟩
  have hB : ∀ B, B ≤ g → RowKit.Below B w (putRow (Value.int .i64) (Sort.ahead w n) g 0 (srtI zs).toArray) := fun B hb => below_put (w := Sort.ahead w n) (below_drewN (RowKit.Below.refl _ _) n) hb _
  have hs2 : w.heap.size ≤ (putRow (Value.int .i64) (Sort.ahead w n) g 0 (srtI zs).toArray).heap.size := by simp [Sort.ahead]
  refine ⟨rfl, hR2.below hF hsz, fun B hb => ?_, Nat.le_trans hs2 (RowKit.Below.size hF), fun k hk hne => ?_⟩
  · exact RowKit.Below.trans (hB B hb) (RowKit.Below.mono hF (by have := hB B hb; omega))
  · show (grow (putRow (Value.int .i64) (Sort.ahead w n) g 0 (srtI zs).toArray) os).heap[k]? = _
    rw [RowKit.Below.block hF k (by omega)]
    show ((Sort.ahead w n).heap.modify g _)[k]? = _
    rw [Array.getElem?_modify, if_neg (fun e => hne e.symm)]
    rfl
open Go.Shelf in
theorem sort_none (p : Option Addr) (cap : Nat) (w : World) : Calls Try.prog 56 #[.slice p 0 cap] w fun e w' => e = .returned (.tuple #[]) ∧ w' = w :=
  AnyM.slices_Sort_int_none srtL p cap w
end Go.Proofs.Ytflllkamdihfaaa
