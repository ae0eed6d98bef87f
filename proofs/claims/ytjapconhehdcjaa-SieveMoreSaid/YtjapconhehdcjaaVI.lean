/- slices.SortFunc: the greatest first -/
import Derived.Test.YtjapconhehdcjaaLE
import Derived.Test.YtjapconhehdcjaaVF
import Derived.Shelf.SlSortCmp.NoneTotal
namespace Go.Proofs.Ytjapconhehdcjaa
open Go.RowKit Go.Sort
def fRen : Go.Shelf.Ren := ⟨fun | 6 => 83 | 14 => 101 | 15 => 86 | 28 => 111 | 29 => 112 | 46 => 132 | 47 => 127 | 48 => 128 | 49 => 133 | 50 => 134 | 57 => 136 | 20 => 118 | 21 => 119 | 22 => 120 | 23 => 121 | 24 => 122 | 25 => 123 | 26 => 124 | 27 => 125 | n => n, fun | 24 => 3 | 25 => 96 | 39 => 99 | 45 => 120 | 46 => 121 | 50 => 125 | 53 => 128 | 55 => 130 | 66 => 140 | 70 => 144 | 76 => 148 | 77 => 149 | n => n, fun n => n⟩
set_option maxRecDepth 100000 in
theorem fLay : SlLaysF.n6 Try.prog fRen :=
  { mixed := (by kernel_rfl)
    f6 := ⟨Try.f83.name, by decide, Try.func83.trans (congrArg some (by kernel_rfl))⟩
    f14 := ⟨Try.f101.name, by decide, Try.func101.trans (congrArg some (by kernel_rfl))⟩
    f15 := Try.func86.trans (congrArg some (by kernel_rfl))
    f20 := ⟨Try.f118.name, by decide, Try.func118.trans (congrArg some (by kernel_rfl))⟩
    f21 := ⟨Try.f119.name, by decide, Try.func119.trans (congrArg some (by kernel_rfl))⟩
    f22 := ⟨Try.f120.name, by decide, Try.func120.trans (congrArg some (by kernel_rfl))⟩
    f23 := ⟨Try.f121.name, by decide, Try.func121.trans (congrArg some (by kernel_rfl))⟩
    f24 := ⟨Try.f122.name, by decide, Try.func122.trans (congrArg some (by kernel_rfl))⟩
    f25 := ⟨Try.f123.name, by decide, Try.func123.trans (congrArg some (by kernel_rfl))⟩
    f26 := ⟨Try.f124.name, by decide, Try.func124.trans (congrArg some (by kernel_rfl))⟩
    f27 := ⟨Try.f125.name, by decide, Try.func125.trans (congrArg some (by kernel_rfl))⟩
    f28 := Try.func111.trans (congrArg some (by kernel_rfl))
    f29 := Try.func112.trans (congrArg some (by kernel_rfl))
    f46 := ⟨Try.f132.name, by decide, Try.func132.trans (congrArg some (by kernel_rfl))⟩
    f47 := Try.func127.trans (congrArg some (by kernel_rfl))
    f48 := Try.func128.trans (congrArg some (by kernel_rfl))
    f49 := ⟨Try.f133.name, by decide, Try.func133.trans (congrArg some (by kernel_rfl))⟩
    f50 := ⟨Try.f134.name, by decide, Try.func134.trans (congrArg some (by kernel_rfl))⟩
    f57 := ⟨Try.f136.name, by decide, Try.func136.trans (congrArg some (by kernel_rfl))⟩
    t0 := Try.underlying0
    a0 := Try.isAgg0
    z0 := Try.sizeOf0
    v0 := Try.zeroValue0
    t3 := Try.underlying3
    a3 := Try.isAgg3
    z3 := Try.sizeOf3
    v3 := Try.zeroValue3
    t4 := Try.underlying4
    a4 := Try.isAgg4
    z4 := Try.sizeOf4
    v4 := Try.zeroValue4
    t5 := Try.underlying5
    a5 := Try.isAgg5
    z5 := Try.sizeOf5
    v5 := Try.zeroValue5
    t9 := Try.underlying9
    a9 := Try.isAgg9
    z9 := Try.sizeOf9
    v9 := Try.zeroValue9
    t22 := Try.underlying22
    a22 := Try.isAgg22
    z22 := Try.sizeOf22
    v22 := Try.zeroValue22
    a24 := Try.isAgg3
    z24 := Try.sizeOf3
    t25 := Try.underlying96
    a25 := Try.isAgg96
    z25 := Try.sizeOf96
    v25 := Try.zeroValue96
    t39 := Try.underlying99
    a39 := Try.isAgg99
    z39 := Try.sizeOf99
    v39 := Try.zeroValue99
    t45 := Try.underlying120
    a45 := Try.isAgg120
    z45 := Try.sizeOf120
    v45 := Try.zeroValue120
    t46 := Try.underlying121
    a46 := Try.isAgg121
    z46 := Try.sizeOf121
    v46 := Try.zeroValue121
    t50 := Try.underlying125
    a50 := Try.isAgg125
    z50 := Try.sizeOf125
    v50 := Try.zeroValue125
    t53 := Try.underlying128
    a53 := Try.isAgg128
    z53 := Try.sizeOf128
    v53 := Try.zeroValue128
    t55 := Try.underlying130
    a55 := Try.isAgg130
    z55 := Try.sizeOf130
    v55 := Try.zeroValue130
    t66 := Try.underlying140
    a66 := Try.isAgg140
    z66 := Try.sizeOf140
    v66 := Try.zeroValue140
    t70 := Try.underlying144
    a70 := Try.isAgg144
    z70 := Try.sizeOf144
    v70 := Try.zeroValue144
    t76 := Try.underlying148
    a76 := Try.isAgg148
    z76 := Try.sizeOf148
    v76 := Try.zeroValue148
    t77 := Try.underlying149
    a77 := Try.isAgg149
    z77 := Try.sizeOf149
    v77 := Try.zeroValue149 }
abbrev NB : Nat := 1000000001
abbrev encF (x : Fin NB) : Value := .int .i64 (x.val : Nat)
theorem oneF : OneCell encF := fun _ => rfl
abbrev cfF (x y : Fin NB) : Int := (y.val : Int) - (x.val : Int)
theorem swoF : SWO (ltOf cfF) := by
  have e : ∀ i j, (ltOf cfF) i j = decide (cfF i j < 0) := fun i j => rfl
  refine ⟨fun x => ?_, fun x y z => ?_, fun x y z => ?_⟩ <;> simp only [e, decide_eq_true_eq, decide_eq_false_iff_not, cfF] <;> omega
theorem totF : ∀ x y, (ltOf cfF) x y = false → (ltOf cfF) y x = false → x = y := by
  have e : ∀ i j, (ltOf cfF) i j = decide (cfF i j < 0) := fun i j => rfl
  intro x y h1 h2
  simp only [e, decide_eq_false_iff_not, cfF] at h1 h2
  exact Fin.ext (by omega)
theorem clo84 (x y : Int) (hx : 0 ≤ x ∧ x ≤ 1000000000) (hy : 0 ≤ y ∧ y ≤ 1000000000) (w : World) : Calls Try.prog 84 #[.int .i64 x, .int .i64 y] w fun e w' => e = .returned (.int .i64 (y - x)) ∧ w = w' := by
  have hw : IntKind.i64.wrap (y - x) = y - x := IntWalk.i64_in _ ⟨by omega, by omega⟩
  go_enter Try.func84, Try.ntmps84
  go_wp2_with fail
  go_ret
  exact ⟨rfl, rfl⟩
theorem laysF (blk off size : Nat) (w : World) : CmpLays1 Try.prog 84 #[] encF cfF blk off size w := fun m os dk _ x y => by
  have hx := x.isLt
  have hy := y.isLt
  refine (clo84 (x.val : Nat) (y.val : Nat) (by unfold NB at hx; omega) (by unfold NB at hy; omega) (sortWorld encF w blk off m dk os)).mono ?_
  rintro e w' ⟨rfl, rfl⟩
  exact ⟨rfl, 0, #[], by rw [grow_empty]; rfl⟩
/-- slices.SortFunc: the greatest first. -/
theorem desc_call (g n cap : Nat) (zs : List Int) (hn : zs.length = n) (hl : n ≤ 1000) (hz : ∀ z ∈ zs, 0 ≤ z ∧ z ≤ 1000000000) (w : World) (h : RowN w g zs) (hg : g < w.heap.size) :
    Calls Try.prog 83 #[.slice (some ⟨g, 0, none⟩) n cap, .func (.func 84) #[] #[]] w fun e w' => e = .returned (.tuple #[]) ∧ RowN w' g (srtI zs).reverse ∧ Only g w w' := by
  let fin : Int → Fin NB := fun z => ⟨z.toNat % NB, Nat.mod_lt _ (by decide)⟩
  have hfin : ∀ z ∈ zs, (((fin z).val : Nat) : Int) = z := fun z hm => by
    have := hz z hm
    show ((z.toNat % NB : Nat) : Int) = z
    rw [Nat.mod_eq_of_lt (by unfold NB; omega)]; omega
  have hd : ((zs.map fin).toArray).size = n := by simp [hn]
  have hH : Holds encF w g 0 (zs.map fin).toArray := fun j hj => by
    rw [hd] at hj
    rw [Nat.zero_add]
    refine ⟨?_, h.2 j⟩
    rw [h.1 j (by omega)]
    rw [getElem!_pos _ j (by rw [hd]; exact hj)]
    have hj' : j < zs.length := by omega
    simp only [List.getElem_toArray, List.getElem_map]
    show _ = some (Value.int .i64 _)
    rw [hfin _ (List.getElem_mem hj'), nth_eq, List.getElem?_eq_getElem hj']; rfl
  have hS := Any.slices_SortFunc_total fLay encF oneF cfF swoF 84 #[] g 0 cap (zs.map fin).toArray w (enters_of Try.func84 (by kernel_rfl) rfl) (laysF _ _ _ _) hH hg (by rw [hd]; omega) totF
  rw [hd] at hS
  refine Calls.mono hS ?_
  rintro e w' ⟨he, q, os, rfl⟩
  obtain ⟨D, hD⟩ : ∃ D, D = ((zs.map fin).toArray.toList.mergeSort fun x y => !(ltOf cfF) y x) := ⟨_, rfl⟩
  rw [← hD]
  have hperm : D.Perm (zs.map fin) := by rw [hD]; exact List.mergeSort_perm _ _
  have hpw : D.Pairwise fun x y => y.val ≤ x.val := by
    rw [hD]
    have h := List.pairwise_mergeSort (le := fun x y : Fin NB => !(ltOf cfF) y x) (fun a b c h1 h2 => by simp [ltOf, cfF] at *; omega) (fun a b => by simp [ltOf, cfF]; omega) ((zs.map fin).toArray.toList)
    exact h.imp fun {a b} h => by simp [ltOf, cfF] at h; omega
  have hback : (zs.map fin).map (fun x => ((x.val : Nat) : Int)) = zs := by
    rw [List.map_map]
    conv => rhs; rw [← List.map_id zs]
    exact List.map_congr_left fun z hz => hfin z hz
  have hE : D.map (fun x => ((x.val : Nat) : Int)) = (srtI zs).reverse := by
    have h1 : (D.map (fun x => ((x.val : Nat) : Int))).reverse = srtI zs := by
      refine le_eq _ _ ?_ (srt_le zs) ?_
      · rw [List.pairwise_reverse, List.pairwise_map]
        exact hpw.imp fun h => by omega
      · refine (List.reverse_perm _).trans ?_
        have := hperm.map (fun x => ((x.val : Nat) : Int))
        rw [hback] at this
        exact this.trans (srt_perm zs).symm
    rw [← h1, List.reverse_reverse]
  have hDl : D.length = n := by rw [hperm.length_eq, List.length_map, hn]
  have hHn : Holds encF (Sort.ahead w q) g 0 (zs.map fin).toArray := hH
  have hgn : g < (putRow encF (Sort.ahead w q) g 0 D.toArray).heap.size := by simpa using hg
  have hR : RowN (putRow encF (Sort.ahead w q) g 0 D.toArray) g (srtI zs).reverse := by
    refine ⟨fun j hj => ?_, fun j => by rw [frozen?_putRow]; exact h.2 j⟩
    have hj' : j < D.length := by rw [List.length_reverse, srt_len] at hj; omega
    have := cell?_putRow encF _ g 0 _ D.toArray hHn (by rw [hd]; simpa using hDl) j (by simpa using hj')
    rw [Nat.zero_add] at this
    rw [this, ← hE, nth_eq, List.getElem?_map, List.getElem?_eq_getElem hj', getElem!_pos _ j (by simpa using hj')]
    simp
  have hF : Fut (putRow encF (Sort.ahead w q) g 0 D.toArray) (grow (putRow encF (Sort.ahead w q) g 0 D.toArray) os) :=
    ⟨rfl, rfl, rfl, by simp, fun k hk => by
      show ((putRow encF (Sort.ahead w q) g 0 D.toArray).heap ++ os)[k]? = _
      rw [Array.getElem?_append_left hk]⟩
  have hB : ∀ B, B ≤ g → RowKit.Below B w (putRow encF (Sort.ahead w q) g 0 D.toArray) := fun B hb =>
    (below_drewN (RowKit.Below.refl B w) q).trans ⟨rfl, rfl, rfl, by simp [Sort.ahead], fun k hk => by
      show ((Sort.ahead w q).heap.modify g _)[k]? = _
      rw [Array.getElem?_modify, if_neg (by omega)]; rfl⟩
  have hs2 : w.heap.size ≤ (putRow encF (Sort.ahead w q) g 0 D.toArray).heap.size := by simp [Sort.ahead]
  refine ⟨he, hR.below hF hgn, Nat.le_trans hs2 (RowKit.Below.size hF), fun B hb => ?_, fun k hk hne => ?_⟩
  · exact RowKit.Below.trans (hB B hb) (RowKit.Below.mono hF (by have := hB B hb; omega))
  · show (grow (putRow encF (Sort.ahead w q) g 0 D.toArray) os).heap[k]? = _
    rw [RowKit.Below.block hF k (by omega)]
    show ((Sort.ahead w q).heap.modify g _)[k]? = _
    rw [Array.getElem?_modify, if_neg (fun e => hne e.symm)]
    rfl
end Go.Proofs.Ytjapconhehdcjaa
