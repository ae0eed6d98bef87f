/- LaneStraight: law10_any -/
import Derived.Test.YtflllkamdihfaaaLHA
import Derived.Test.YtflllkamdihfaaaLGD
import Derived.Test.YtflllkamdihfaaaLGE
import Derived.Test.YtflllkamdihfaaaLGC
import Derived.Test.YtflllkamdihfaaaLGA
import Derived.Test.YtflllkamdihfaaaLBJ
import Derived.Test.YtflllkamdihfaaaLCD
import Derived.Test.YtflllkamdihfaaaLMC
import Derived.Test.YtflllkamdihfaaaLMB
import Derived.Test.YtflllkamdihfaaaLMA
import Derived.Test.YtflllkamdihfaaaLBG
import Derived.Deep.DeepCutAuto
namespace Go.Proofs.Ytflllkamdihfaaa
open Go.RowKit Go.Sort
theorem own_pos {w : World} {B n : Nat} {a : Option Addr} {cap : Nat} {L : List Int} (h : Owns w B (.slice a n cap) L) (hn : n = L.length) (h0 : 0 < n) : ∃ g c, Value.slice a n cap = .slice (some ⟨g, 0, none⟩) n c ∧ n ≤ c ∧ IntsAt w (some ⟨g, 0, none⟩) L := by
  subst hn
  rcases h.2 with ⟨_, h1⟩ | ⟨g, c, cur, e, _, _, hc, _⟩
  · omega
  · refine ⟨g, c, e, hc, ?_⟩
    rw [e] at h
    exact Owns.at h rfl
theorem two_cell {w : World} {B : Nat} {t : TypeId} {x y : Value} (h : w.heap[B]? = some (.cells #[x, y] t)) : w.cell? ⟨B, 0, none⟩ = some x ∧ w.cell? ⟨B, 1, none⟩ = some y ∧ w.frozen? ⟨B, 0, none⟩ = false ∧ w.frozen? ⟨B, 1, none⟩ = false := by
  refine ⟨?_, ?_, ?_, ?_⟩
  · unfold World.cell?; rw [h]; rfl
  · unfold World.cell?; rw [h]; rfl
  · unfold World.frozen?; rw [h]; rfl
  · unfold World.frozen?; rw [h]; rfl
theorem two_set0 {w : World} {B : Nat} {t : TypeId} {x y : Value} (u : Value) (h : w.heap[B]? = some (.cells #[x, y] t)) : (w.setCell ⟨B, 0, none⟩ u).heap[B]? = some (.cells #[u, y] t) := by
  rw [setCell_eq_setRow w B 0 _ t (0, 0) u h, setRow_heap _ _ _ _ _ _ h]; rfl
theorem two_set1 {w : World} {B : Nat} {t : TypeId} {x y : Value} (u : Value) (h : w.heap[B]? = some (.cells #[x, y] t)) : (w.setCell ⟨B, 1, none⟩ u).heap[B]? = some (.cells #[x, u] t) := by
  rw [setCell_eq_setRow w B 1 _ t (0, 0) u h, setRow_heap _ _ _ _ _ _ h]; rfl
theorem boxP_heap {w : World} {B : Nat} {r c : Int} {a : Option Addr} {n cap : Nat} {t : TypeId} (h : w.heap[B]? = some (.cells #[.int .i64 r, .int .i64 c, .slice a n cap] t)) : BoxP w B r c a n cap := boxP_of h
/-- the rows of those corners in a column that are chosen and open. -/
def selL (b : Nat → Bool) (f : Nat → Int) (S : List Int) (i : Nat) : List Int := ((List.range i).filter fun q => b q && !S.contains (f q)).map f
theorem sel_succ (b : Nat → Bool) (f : Nat → Int) (S : List Int) (i : Nat) : selL b f S (i + 1) = selL b f S i ++ (if (b i && !S.contains (f i)) = true then [f i] else []) := by
  unfold selL
  rw [List.range_succ, List.filter_append, List.map_append]
  congr 1
  by_cases h : (b i && !S.contains (f i)) = true
  · rw [if_pos h, List.filter_cons_of_pos (p := fun q => b q && !S.contains (f q)) h]; rfl
  · rw [if_neg h, List.filter_cons_of_neg (p := fun q => b q && !S.contains (f q)) h]; rfl
theorem sel_len (b : Nat → Bool) (f : Nat → Int) (S : List Int) (i : Nat) : (selL b f S i).length ≤ i := by
  unfold selL; rw [List.length_map]; exact Nat.le_trans (List.length_filter_le _ _) (by simp)
theorem sel_mem {b : Nat → Bool} {f : Nat → Int} {S : List Int} {i : Nat} {x : Int} (h : x ∈ selL b f S i) : ∃ q, q < i ∧ x = f q ∧ x ∉ S := by
  unfold selL at h
  obtain ⟨q, hq, rfl⟩ := List.mem_map.1 h
  obtain ⟨h1, h2⟩ := List.mem_filter.1 hq
  rw [List.mem_range] at h1
  simp only [Bool.and_eq_true, Bool.not_eq_true'] at h2
  exact ⟨q, h1, rfl, fun q2 => by have := h2.2; simp at this; exact this q2⟩
theorem sel_asc (b : Nat → Bool) {f : Nat → Int} (hf : ∀ p q, p < q → f p < f q) (S : List Int) (i : Nat) : (selL b f S i).Pairwise (· < ·) := by
  unfold selL
  rw [List.pairwise_map]
  exact (List.pairwise_lt_range.filter _).imp (fun h => hf _ _ h)
def shB8 (q n : Nat) : Bool := bits BinOp.and IntKind.u8 ((q : Int) / 2 ^ n) 1 == 1
theorem straight_ok {r c : Nat} (h1 : 1 ≤ r ∧ r ≤ 4) (h2 : 1 ≤ c ∧ c ≤ 4) (bb b1 b2 : Nat → Bool) (k : Nat) (hk : 1 ≤ k) (hk3 : k ≤ 3) (hY : k ≤ (selL b1 (fun q => (q : Int) * c) (shL bb (r * c)) r).length) (hT : k ≤ (selL b2 (fun q => ((q : Int) + 1) * c - 1) (shL bb (r * c)) r).length) :
    chkP (r : Int) (c : Int) (shL bb (r * c)) ((selL b1 (fun q => (q : Int) * c) (shL bb (r * c)) r).take k) ((selL b2 (fun q => ((q : Int) + 1) * c - 1) (shL bb (r * c)) r).take k) = 0 ∧
    sgnV (r : Int) (c : Int) (shL bb (r * c)) ((selL b1 (fun q => (q : Int) * c) (shL bb (r * c)) r).take k) ((selL b2 (fun q => ((q : Int) + 1) * c - 1) (shL bb (r * c)) r).take k) = ((famL (c : Int) ((r : Int) * (c : Int)) (shL bb (r * c)) ((selL b1 (fun q => (q : Int) * c) (shL bb (r * c)) r).take k) ((selL b2 (fun q => ((q : Int) + 1) * c - 1) (shL bb (r * c)) r).take k)).length : Int) := by
  have hc0 : (1 : Int) ≤ c := by omega
  have hs : Side (r : Int) (c : Int) ((r : Int) * (c : Int)) := ⟨by omega, by omega, by omega, by omega, rfl⟩
  have mono1 : ∀ p q : Nat, p < q → (p : Int) * c < (q : Int) * c := fun p q h => Int.mul_lt_mul_of_pos_right (by omega) (by omega)
  have mono2 : ∀ p q : Nat, p < q → ((p : Int) + 1) * c - 1 < ((q : Int) + 1) * c - 1 := fun p q h => by
    have : ((p : Int) + 1) * c < ((q : Int) + 1) * c := Int.mul_lt_mul_of_pos_right (by omega) (by omega)
    omega
  have aY := (sel_asc b1 (f := fun q => (q : Int) * c) mono1 (shL bb (r * c)) r).sublist (List.take_sublist k _)
  have aT := (sel_asc b2 (f := fun q => ((q : Int) + 1) * c - 1) mono2 (shL bb (r * c)) r).sublist (List.take_sublist k _)
  have mY : ∀ x ∈ (selL b1 (fun q => (q : Int) * c) (shL bb (r * c)) r).take k, (0 ≤ x ∧ x < (r : Int) * c ∧ x ∉ shL bb (r * c)) ∧ x % (c : Int) = 0 := fun x hx => by
    obtain ⟨q, hq, rfl, hn⟩ := sel_mem (List.mem_of_mem_take hx)
    have h3 : (q : Int) * c < (r : Int) * c := Int.mul_lt_mul_of_pos_right (by omega) (by omega)
    have h4 : 0 ≤ (q : Int) * c := Int.mul_nonneg (by omega) (by omega)
    exact ⟨⟨h4, h3, hn⟩, by simp⟩
  have mT : ∀ x ∈ (selL b2 (fun q => ((q : Int) + 1) * c - 1) (shL bb (r * c)) r).take k, (0 ≤ x ∧ x < (r : Int) * c ∧ x ∉ shL bb (r * c)) ∧ x % (c : Int) = c - 1 := fun x hx => by
    obtain ⟨q, hq, rfl, hn⟩ := sel_mem (List.mem_of_mem_take hx)
    have h3 : ((q : Int) + 1) * c ≤ (r : Int) * c := Int.mul_le_mul_of_nonneg_right (by omega) (by omega)
    have h4 : 1 * (c : Int) ≤ ((q : Int) + 1) * c := Int.mul_le_mul_of_nonneg_right (by omega) (by omega)
    refine ⟨⟨by omega, by omega, hn⟩, ?_⟩
    have e : ((q : Int) + 1) * c - 1 = (c - 1) + (q : Int) * c := by rw [Int.add_mul]; omega
    rw [e, Int.add_mul_emod_self_right]
    exact Int.emod_eq_of_lt (by omega) (by omega)
  have hg : ChkG (r : Int) (c : Int) (shL bb (r * c)) ((selL b1 (fun q => (q : Int) * c) (shL bb (r * c)) r).take k) ((selL b2 (fun q => ((q : Int) + 1) * c - 1) (shL bb (r * c)) r).take k) :=
    ⟨hs, by rw [List.length_take, List.length_take]; omega, by rw [List.length_take]; omega, by rw [List.length_take]; omega, fun x hx => (mY x hx).1, fun x hx => (mT x hx).1, aY.imp (fun h => by omega), aT.imp (fun h => by omega)⟩
  have hck := chk_good hg (fun x hx => by
    obtain ⟨n, rfl, h3, _⟩ := sh_mem.1 hx
    exact ⟨by omega, by rw [← Int.natCast_mul]; omega⟩) (sh_asc _ _)
  exact ⟨hck, straight hck aY aT (fun y hy => (mY y hy).2) (fun t ht => (mT t ht).2)⟩
theorem signed_ok2 {r c : Int} {a : Option Addr} {cap : Nat} {S : List Int} {ya : Option Addr} {yc : Nat} {Y : List Int} {ta : Option Addr} {tc : Nat} {T : List Int} {w : World} (h : InPQ w a S ya yc Y ta tc T) (hc : chkP r c S Y T = 0) {n p q : Nat} (hn : S.length = n) (hp : Y.length = p) (hq : T.length = q) {k : Int} (hk : sgnV r c S Y T = k) :
    Calls Try.prog 23 #[parV r c a n cap, plaV ya p yc ta q tc] w fun e w' => e = .returned (.tuple #[.int .i64 k, .int .i64 0]) ∧ Fut w w' := by
  subst hn hp hq hk
  have := signed_any r c a cap S ya yc Y ta tc T w h
  rw [hc] at this
  exact this
theorem count_ok3 {r c : Int} {a : Option Addr} {cap : Nat} {S : List Int} {ya : Option Addr} {yc : Nat} {Y : List Int} {ta : Option Addr} {tc : Nat} {T : List Int} {w : World} (h : InPQ w a S ya yc Y ta tc T) (hc : chkP r c S Y T = 0) {n p q : Nat} (hn : S.length = n) (hp : Y.length = p) (hq : T.length = q) {k : Nat} (hk : (famL c (r * c) S Y T).length = k) :
    Calls Try.prog 25 #[parV r c a n cap, plaV ya p yc ta q tc] w fun e w' => e = .returned (.tuple #[.int .i64 (k : Nat), .int .i64 0]) ∧ Fut w w' := by
  subst hp hq
  exact count_ok2 h hc hn hk
set_option maxRecDepth 100000 in
set_option maxHeartbeats 16000000 in
theorem law10_any (t : Nat → Nat) (ht : t 3 ≤ 65535 ∧ ∀ j, j ≠ 3 → t j ≤ 255) (o f : Nat) (_ho : o ≤ 255) (_hf : f ≤ 255) (w : World) :
    Calls Try.prog 10 #[planV t, .int .u8 o, .int .u8 f] w fun e w' => e = .returned (.bool true) ∧ Fut w w' := by
  obtain ⟨i0, hi0, hz0, hz1, hz2⟩ := info_parts info3
  obtain ⟨r, hr⟩ : ∃ r, r = 1 + t 0 % 4 := ⟨_, rfl⟩
  obtain ⟨c, hc⟩ : ∃ c, c = 1 + t 1 % 4 := ⟨_, rfl⟩
  have hr1 : ((t 0 : Nat) : Int) % 4 = (r : Int) - 1 := by omega
  have hc1 : ((t 1 : Nat) : Int) % 4 = (c : Int) - 1 := by omega
  have hrb : 1 ≤ r ∧ r ≤ 4 := by omega
  have hcb : 1 ≤ c ∧ c ≤ 4 := by omega
  have b0 := ht.2 0 (by decide)
  have b1 := ht.2 1 (by decide)
  have b3 := ht.1
  have hw1 : IntKind.i64.wrap (1 + ((r : Int) - 1)) = (r : Int) := by rw [IntWalk.i64_in _ ⟨by omega, by omega⟩]; omega
  have hw2 : IntKind.i64.wrap (1 + ((c : Int) - 1)) = (c : Int) := by rw [IntWalk.i64_in _ ⟨by omega, by omega⟩]; omega
  have hwt0 : IntKind.i64.wrap ((t 0 : Nat) : Int) = ((t 0 : Nat) : Int) := IntWalk.i64_in _ ⟨by omega, by omega⟩
  have hwt1 : IntKind.i64.wrap ((t 1 : Nat) : Int) = ((t 1 : Nat) : Int) := IntWalk.i64_in _ ⟨by omega, by omega⟩
  clear hr hc
  have hB1 := (BoxPl.new w t).fut (Fut.alloc _ (.cells #[.int .i64 (r : Nat), .int .i64 (c : Nat), .slice none 0 0] 24))
  have hP1 : ((w.alloc (.cells #[.int .u8 (t 0 : Nat), .int .u8 (t 1 : Nat), .int .u8 (t 2 : Nat), .int .u16 (t 3 : Nat), .int .u8 (t 4 : Nat), .int .u8 (t 5 : Nat), .int .u8 (t 6 : Nat), .int .u8 (t 7 : Nat), .int .u8 (t 8 : Nat), .int .u8 (t 9 : Nat)] 63)).alloc (.cells #[.int .i64 (r : Nat), .int .i64 (c : Nat), .slice none 0 0] 24)).heap[w.heap.size + 1]? = some (.cells #[.int .i64 (r : Nat), .int .i64 (c : Nat), .slice none 0 0] 24) := by
    have := World.alloc_heap_new (w.alloc (.cells #[.int .u8 (t 0 : Nat), .int .u8 (t 1 : Nat), .int .u8 (t 2 : Nat), .int .u16 (t 3 : Nat), .int .u8 (t 4 : Nat), .int .u8 (t 5 : Nat), .int .u8 (t 6 : Nat), .int .u8 (t 7 : Nat), .int .u8 (t 8 : Nat), .int .u8 (t 9 : Nat)] 63)) (.cells #[.int .i64 (r : Nat), .int .i64 (c : Nat), .slice none 0 0] 24)
    rwa [World.size_alloc] at this
  have HB1 := Lib.hid hB1
  have HP1 := Lib.hid hP1
  have HF1 : Hid (Fut w ((w.alloc (.cells #[.int .u8 (t 0 : Nat), .int .u8 (t 1 : Nat), .int .u8 (t 2 : Nat), .int .u16 (t 3 : Nat), .int .u8 (t 4 : Nat), .int .u8 (t 5 : Nat), .int .u8 (t 6 : Nat), .int .u8 (t 7 : Nat), .int .u8 (t 8 : Nat), .int .u8 (t 9 : Nat)] 63)).alloc (.cells #[.int .i64 (r : Nat), .int .i64 (c : Nat), .slice none 0 0] 24))) := Lib.hid ((Fut.alloc _ _).trans (Fut.alloc _ _))
  have HS1 : Hid (w.heap.size + 2 ≤ ((w.alloc (.cells #[.int .u8 (t 0 : Nat), .int .u8 (t 1 : Nat), .int .u8 (t 2 : Nat), .int .u16 (t 3 : Nat), .int .u8 (t 4 : Nat), .int .u8 (t 5 : Nat), .int .u8 (t 6 : Nat), .int .u8 (t 7 : Nat), .int .u8 (t 8 : Nat), .int .u8 (t 9 : Nat)] 63)).alloc (.cells #[.int .i64 (r : Nat), .int .i64 (c : Nat), .slice none 0 0] 24)).heap.size) := Lib.hid (by simp)
  obtain ⟨m, hm⟩ : ∃ m, m = r * c := ⟨_, rfl⟩
  have hm16 : m ≤ 16 := by rw [hm]; exact Nat.mul_le_mul hrb.2 hcb.2
  have hwm : IntKind.i64.wrap ((r : Int) * (c : Int)) = (m : Int) := by rw [hm, IntWalk.i64_in _ ⟨by rw [← Int.natCast_mul]; omega, by rw [← Int.natCast_mul, ← hm]; omega⟩, Int.natCast_mul]
  have HM := Lib.hid hm
  clear hm hB1
  unfold planV
  obtain ⟨_, p0, p1, p2⟩ := boxP_of hP1
  clear hP1
  go_enter Try.func10, Try.ntmps10
  go_wp2_with fail
  clear p0 p1 p2 hr1 hc1 hw1 hw2 hwt0 hwt1 hwm
  generalize (w.alloc (.cells #[.int .u8 (t 0 : Nat), .int .u8 (t 1 : Nat), .int .u8 (t 2 : Nat), .int .u16 (t 3 : Nat), .int .u8 (t 4 : Nat), .int .u8 (t 5 : Nat), .int .u8 (t 6 : Nat), .int .u8 (t 7 : Nat), .int .u8 (t 8 : Nat), .int .u8 (t 9 : Nat)] 63)).alloc (.cells #[.int .i64 (r : Nat), .int .i64 (c : Nat), .slice none 0 0] 24) = w1 at *
  obtain ⟨bb, hbb⟩ : ∃ bb, bb = shB (t 3) := ⟨_, rfl⟩
  go_loopw [8, 34] (fun _ iv wr => ∃ (i : Nat) (S : List Int) (sa : Option Addr) (sc : Nat), i ≤ m ∧ iv = .int .i64 i ∧ Hid (S = shL bb i) ∧ Hid (BoxPl wr w.heap.size t) ∧ Hid (wr.heap[w.heap.size + 1]? = some (.cells #[.int .i64 (r : Int), .int .i64 (c : Int), .slice sa S.length sc] 24)) ∧ Hid (Owns wr (w.heap.size + 2) (.slice sa S.length sc) S) ∧ Hid (Fut w wr) ∧ Hid (w.heap.size + 2 ≤ wr.heap.size)) (fun _ iv _ => m - (intOf iv).toNat)
  case atStart => exact ⟨0, [], none, 0, Nat.zero_le _, rfl, Lib.hid rfl, HB1, HP1, Lib.hid (World.ownsRow_nil _ _ _ _), HF1, HS1⟩
  case round =>
    obtain ⟨i, S, sa, sc, hi, rfl, HSL, HBi, HPi, HOi, HFi, HGi⟩ := hrel
    clear HB1 HP1 HF1 HS1
    by_cases hil : i < m
    · have hix : (i : Int) < m := by omega
      have HSN := Lib.hid (shL_succ bb i)
      have hSl : S.length ≤ 16 := by rw [HSL.out]; have := shL_len bb i; omega
      obtain ⟨_, _, _, _, s3, _, _⟩ := HBi.out
      cases hb : bb i
      · have hb2 : (bits BinOp.and IntKind.u16 (((t 3 : Nat) : Int) / 2 ^ i) 1 == 1) = false := by rw [hbb] at hb; exact hb
        rw [hb] at HSN
        simp only [Bool.false_eq_true, if_false] at HSN
        have HSL8 : Hid (S = shL bb (i + 1)) := Lib.hid (by rw [HSN.out]; exact HSL.out)
        clear hbb hb
        go_wp2_with fail
        go_roundw
        case rel => first
          | exact ⟨i + 1, S, sa, sc, by omega, by go_num, HSL8, HBi, HPi, HOi, HFi, HGi⟩
          | ((repeat apply Exists.intro); exact ⟨⟨i + 1, S, sa, sc, by omega, by go_num, HSL8, HBi, HPi, HOi, HFi, HGi⟩, rfl⟩)
        case measure => simp [intOf]; omega
      · have hb2 : (bits BinOp.and IntKind.u16 (((t 3 : Nat) : Int) / 2 ^ i) 1 == 1) = true := by rw [hbb] at hb; exact hb
        rw [hb] at HSN
        simp only [if_true] at HSN
        clear hbb hb
        obtain ⟨p0, p1, p2, p3⟩ := three_cell HPi.out
        have HRW : Hid ((wr.alloc (.cells #[.int .i64 (i : Int)] 3)).ownsRow (w.heap.size + 2) 3 1 (.slice sa S.length sc) S.length (S.map (Value.int .i64))) := Lib.hid (World.ownsRow.alloc HOi.out _)
        go_wp2_with (at_builtin; refine wpList_append_lies _ rfl _ _ 22 rfl (w.heap.size + 2) 3 i0 (.int .i64 0) 1 8 Try.underlying22 hi0 hz0 hz1 hz2 rfl (by decide) (.slice sa S.length sc) S.length (S.map (Value.int .i64)) rfl HRW.out ⟨wr.heap.size, 0, none⟩ 1 1 [.int .i64 (i : Int)] rfl rfl (cell_one (by simp [go_sem])) (by simp [Value.oneCell']) (by omega) (by unfold maxLen; omega) (by omega) (Nat.le_trans HGi.out (RowKit.Below.size (Fut.alloc wr _))) _ rfl ?_)
        intro g cap w8 hown hgr hat hlt
        have FA : Fut wr (wr.alloc (.cells #[.int .i64 (i : Int)] 3)) := Fut.alloc _ _
        have hge : ∀ q, (Value.slice sa S.length sc).ownBlock = some q → w.heap.size + 2 ≤ q := fun q hq => (World.ownsRow.lt HRW.out q hq).1
        have hnG : ∀ q, q < w.heap.size + 2 → (Value.slice sa S.length sc).ownBlock ≠ some q := fun q hq e => by have := hge q e; omega
        have HO8 : Hid (Owns w8 (w.heap.size + 2) (.slice (some ⟨g, 0, none⟩) (S ++ [(i : Int)]).length cap) (S ++ [(i : Int)])) := Lib.hid (by unfold Owns; rw [List.length_append, List.map_append]; exact hown)
        have HB8 := Lib.hid ((HBi.out.fut FA).kept hgr (hnG _ (by omega)))
        have HP8 := Lib.hid (heap_kept (heap_fut HPi.out FA) hgr (hnG _ (by omega)))
        have HF8 : Hid (Fut w w8) := Lib.hid (RowKit.Below.grown (HFi.out.trans FA) hgr (RowKit.Below.size (HFi.out.trans FA)) fun q hq => by have := hge q hq; omega)
        have HG8 : Hid (w.heap.size + 2 ≤ w8.heap.size) := Lib.hid (Nat.le_trans HGi.out (Nat.le_trans (RowKit.Below.size FA) hgr.size))
        have HSL8 : Hid (S ++ [(i : Int)] = shL bb (i + 1)) := Lib.hid (by rw [HSN.out, ← HSL.out])
        clear hown hgr hat hlt FA hge hnG HRW HOi HBi HPi HFi HGi s3 hb2 HSL HSN p0 p1 p2 p3
        obtain ⟨_, _, p2, p3⟩ := three_cell HP8.out
        have hGl : w.heap.size + 1 < w8.heap.size := HG8.out
        go_wp2_with fail
        have SG := set_grown w8 (w.heap.size + 1) 2 (.slice (some ⟨g, 0, none⟩) (S.length + 1) cap)
        have HB9 := Lib.hid (HB8.out.kept SG (by simp))
        have HP9 := Lib.hid (three_set (.slice (some ⟨g, 0, none⟩) (S.length + 1) cap) HP8.out)
        have HO9 := Lib.hid (HO8.out.kept SG (own_ge HO8.out (Nat.lt_succ_self _)))
        have HF9 : Hid (Fut w (w8.setCell ⟨w.heap.size + 1, 2, none⟩ (.slice (some ⟨g, 0, none⟩) (S.length + 1) cap))) := Lib.hid (RowKit.Below.setCell HF8.out (p := ⟨w.heap.size + 1, 2, none⟩) (by show w.heap.size ≤ w.heap.size + 1; omega) _)
        have HG9 : Hid (w.heap.size + 2 ≤ (w8.setCell ⟨w.heap.size + 1, 2, none⟩ (.slice (some ⟨g, 0, none⟩) (S.length + 1) cap)).heap.size) := Lib.hid (Nat.le_trans HG8.out SG.size)
        clear SG HB8 HP8 HO8 HF8 HG8 p2 p3 hGl
        go_roundw
        case rel => first
          | exact ⟨i + 1, S ++ [(i : Int)], _, cap, by omega, by go_num, HSL8, HB9, by rw [List.length_append]; exact HP9, HO9, HF9, HG9⟩
          | ((repeat apply Exists.intro); exact ⟨⟨i + 1, S ++ [(i : Int)], _, cap, by omega, by go_num, HSL8, HB9, by rw [List.length_append]; exact HP9, HO9, HF9, HG9⟩, rfl⟩)
        case measure => simp [intOf]; omega
    · obtain rfl : m = i := by omega
      obtain ⟨w2, hw2⟩ : ∃ w2, w2 = wr := ⟨_, rfl⟩
      subst hw2
      have HPE := Lib.hid HPi.out
      have HF0 := Lib.hid HFi.out
      clear HFi
      have HCT := Lib.hid (fun x W (F : Fut w2 W) => contains_any sa sc S x W ((HOi.out.at rfl).fut F) (by rw [HSL.out]; have := shL_len bb m; omega))
      have HBX : Hid (∀ W, Fut w2 W → BoxP W (w.heap.size + 1) (r : Int) (c : Int) sa S.length sc) := Lib.hid (fun W F => boxP_of (heap_fut HPi.out F))
      obtain ⟨y8, hy8⟩ : ∃ y8, y8 = shB8 o := ⟨_, rfl⟩
      obtain ⟨t8, ht8⟩ : ∃ t8, t8 = shB8 f := ⟨_, rfl⟩
      have HBy := Lib.hid hy8
      have HBt := Lib.hid ht8
      have hX2 : (w2.alloc (.cells #[.slice none 0 0, .slice none 0 0] 26)).heap[w2.heap.size]? = some (.cells #[.slice none 0 0, .slice none 0 0] 26) := World.alloc_heap_new _ _
      have HX2 := Lib.hid hX2
      have HT2 : Hid (Tw (w2.alloc (.cells #[.slice none 0 0, .slice none 0 0] 26)) (w2.heap.size + 1) (.slice none 0 0) (.slice none 0 0) [] []) := Lib.hid ⟨World.ownsRow_nil _ _ _ _, World.ownsRow_nil _ _ _ _, .inl rfl⟩
      have HF2 : Hid (Fut w2 (w2.alloc (.cells #[.slice none 0 0, .slice none 0 0] 26))) := Lib.hid (Fut.alloc _ _)
      clear hX2 hy8 ht8
      obtain ⟨_, p0, p1, p2⟩ := HBX.out _ HF2.out
      go_wp2_with fail
      clear p0 p1 p2
      obtain ⟨yf, hyf⟩ : ∃ yf : Nat → Int, yf = fun (q : Nat) => (q : Int) * c := ⟨_, rfl⟩
      obtain ⟨tf, htf⟩ : ∃ tf : Nat → Int, tf = fun (q : Nat) => ((q : Int) + 1) * c - 1 := ⟨_, rfl⟩
      have HYF := Lib.hid hyf
      have HTF := Lib.hid htf
      clear hyf htf
      go_loopw [10, 52] (fun _ iv wr => ∃ (j : Nat) (Y T : List Int) (ya : Option Addr) (yc : Nat) (ta : Option Addr) (tc : Nat), j ≤ r ∧ iv = .int .i64 j ∧ Hid (Y = selL y8 yf S j ∧ T = selL t8 tf S j) ∧ Hid (wr.heap[w2.heap.size]? = some (.cells #[.slice ya Y.length yc, .slice ta T.length tc] 26)) ∧ Hid (Tw wr (w2.heap.size + 1) (.slice ya Y.length yc) (.slice ta T.length tc) Y T) ∧ Hid (Fut w2 wr)) (fun _ iv _ => r - (intOf iv).toNat)
      case atStart => exact ⟨0, [], [], none, 0, none, 0, Nat.zero_le _, rfl, Lib.hid ⟨rfl, rfl⟩, HX2, HT2, HF2⟩
      case round =>
        obtain ⟨j, Y, T, ya, yc, ta, tc, hj, rfl, HYT, HXi, HTi, HFi⟩ := hrel
        clear HX2 HT2 HF2
        obtain ⟨_, p0, p1, p2⟩ := HBX.out _ HFi.out
        by_cases hjl : j < r
        · have hjx : (j : Int) < r := by omega
          have hj4 : (j : Int) ≤ 3 := by omega
          have hYl : Y.length ≤ 4 := by rw [HYT.out.1]; have := sel_len y8 yf S j; omega
          have hTl : T.length ≤ 4 := by rw [HYT.out.2]; have := sel_len t8 tf S j; omega
          have hj0 : (0 : Int) ≤ j := by omega
          have hc0 : (0 : Int) ≤ c := by omega
          have hc4 : (c : Int) ≤ 4 := by omega
          have hmul : 0 ≤ (j : Int) * c ∧ (j : Int) * c ≤ 12 := ⟨Int.mul_nonneg hj0 hc0, Int.le_trans (Int.mul_le_mul hj4 hc4 hc0 (by decide)) (by decide)⟩
          have hmul2 : ((j : Int) + 1) * c = (j : Int) * c + c := by rw [Int.add_mul]; omega
          obtain ⟨n, hn⟩ : ∃ n, n = yf j := ⟨_, rfl⟩
          obtain ⟨u, hu⟩ : ∃ u, u = ((j : Int) + 1) * c := ⟨_, rfl⟩
          obtain ⟨n', hn'⟩ : ∃ n', n' = tf j := ⟨_, rfl⟩
          have hn2 : n = (j : Int) * c := by rw [hn, HYF.out]
          have hn2' : n' = u - 1 := by rw [hn', HTF.out, hu]
          have hwn : IntKind.i64.wrap ((j : Int) * (c : Int)) = n := by rw [hn2]; exact IntWalk.i64_in _ ⟨by omega, by omega⟩
          have hwj : IntKind.i64.wrap ((j : Int) + 1) = (j : Int) + 1 := IntWalk.i64_in _ ⟨by omega, by omega⟩
          have hwu : IntKind.i64.wrap (((j : Int) + 1) * (c : Int)) = u := by rw [hu]; exact IntWalk.i64_in _ ⟨by omega, by omega⟩
          have hwn' : IntKind.i64.wrap (u - 1) = n' := by rw [hn2']; exact IntWalk.i64_in _ ⟨by omega, by omega⟩
          have HN : Hid (n = yf j ∧ n' = tf j) := Lib.hid ⟨hn, hn'⟩
          have HSY := Lib.hid (sel_succ y8 yf S j)
          have HST := Lib.hid (sel_succ t8 tf S j)
          clear hn hu hn' hn2 hn2' hmul hmul2
          go_upto_region 13 with fail
          go_cut [70] from 59 to 71 (fun sb wx => ∃ b, sb = .bool b ∧ Hid (b = (y8 j && !S.contains n)) ∧ Hid (Fut wr wx))
          case first =>
            cases hb : y8 j
            · have hb2 : (bits BinOp.and IntKind.u8 (((o : Nat) : Int) / 2 ^ j) 1 == 1) = false := by rw [HBy.out] at hb; exact hb
              have HBJ := Lib.hid hb
              clear hb
              go_wp2_with fail
              go_meet
              exact ⟨false, rfl, Lib.hid (by rw [HBJ.out]; rfl), Lib.hid Fut.rfl⟩
            · have hb2 : (bits BinOp.and IntKind.u8 (((o : Nat) : Int) / 2 ^ j) 1 == 1) = true := by rw [HBy.out] at hb; exact hb
              obtain ⟨cb, HCB⟩ : ∃ cb, Hid (S.contains n = cb) := ⟨_, Lib.hid rfl⟩
              have hq := HCT.out n wr HFi.out
              rw [HCB.out] at hq
              have HQ := Lib.hid hq
              have HBJ := Lib.hid hb
              clear hb hq
              go_wp2_with fail
              refine HQ.out.mono ?_
              rintro _ _ ⟨rfl, rfl⟩
              go_wp2_with fail
              go_meet
              exact ⟨!cb, rfl, Lib.hid (by rw [HCB.out, HBJ.out]; rfl), Lib.hid Fut.rfl⟩
          case rest =>
            obtain ⟨b, rfl, HBV, HFC⟩ := hcut
            obtain ⟨wa, hwa⟩ : ∃ wa, wa = wc := ⟨_, rfl⟩
            subst hwa
            have HXa := Lib.hid (heap_fut HXi.out HFC.out)
            have HTa := Lib.hid (HTi.out.fut HFC.out)
            have HFa := Lib.hid (HFi.out.trans HFC.out)
            clear HXi HTi HFi HFC p0 p1 p2
            go_upto_if 70 with fail
            go_cut [] from 71 to 77 (fun wx => ∃ (Y' T' : List Int) (ya' : Option Addr) (yc' : Nat) (ta' : Option Addr) (tc' : Nat), Hid (Y' = Y ++ (if b = true then [n] else []) ∧ T' = T) ∧ Hid (wx.heap[w2.heap.size]? = some (.cells #[.slice ya' Y'.length yc', .slice ta' T'.length tc'] 26)) ∧ Hid (Tw wx (w2.heap.size + 1) (.slice ya' Y'.length yc') (.slice ta' T'.length tc') Y' T') ∧ Hid (Fut w2 wx))
            case first =>
              cases b
              · go_wp2_with fail
                go_meet
                exact ⟨Y, T, ya, yc, ta, tc, Lib.hid (by simp), HXa, HTa, HFa⟩
              · have HRW : Hid ((wa.alloc (.cells #[.int .i64 n] 3)).ownsRow (w2.heap.size + 1) 3 1 (.slice ya Y.length yc) Y.length (Y.map (Value.int .i64))) := Lib.hid (World.ownsRow.alloc HTa.out.a _)
                have FA : Fut wa (wa.alloc (.cells #[.int .i64 n] 3)) := Fut.alloc _ _
                have HFA := Lib.hid FA
                have HSZ : Hid (w2.heap.size + 1 ≤ (wa.alloc (.cells #[.int .i64 n] 3)).heap.size) := Lib.hid (by have h1 := (Array.getElem?_eq_some_iff.1 HXa.out).1; have h2 := RowKit.Below.size FA; omega)
                obtain ⟨c0, c1, f0, f1⟩ := two_cell HXa.out
                clear FA
                go_wp2_with (at_builtin; refine wpList_append_lies _ rfl _ _ 22 rfl (w2.heap.size + 1) 3 i0 (.int .i64 0) 1 8 Try.underlying22 hi0 hz0 hz1 hz2 rfl (by decide) (.slice ya Y.length yc) Y.length (Y.map (Value.int .i64)) rfl HRW.out ⟨wa.heap.size, 0, none⟩ 1 1 [.int .i64 n] rfl rfl (cell_one (by simp [go_sem])) (by simp [Value.oneCell']) (by omega) (by unfold maxLen; omega) (by omega) HSZ.out _ rfl ?_)
                intro g cap w8 hown hgr hat hlt
                have FA := HFA.out
                have hge : ∀ q, (Value.slice ya Y.length yc).ownBlock = some q → w2.heap.size + 1 ≤ q := fun q hq => (World.ownsRow.lt HRW.out q hq).1
                have hnG : ∀ q, q < w2.heap.size + 1 → (Value.slice ya Y.length yc).ownBlock ≠ some q := fun q hq e => by have := hge q e; omega
                have HT8 : Hid (Tw w8 (w2.heap.size + 1) (.slice (some ⟨g, 0, none⟩) (Y ++ [n]).length cap) (.slice ta T.length tc) (Y ++ [n]) T) := Lib.hid ((HTa.out.fut FA).addA (g := g) (by unfold Owns; rw [List.length_append, List.map_append]; exact hown) rfl hgr (by simpa using hat))
                have HX8 := Lib.hid (heap_kept (heap_fut HXa.out FA) hgr (hnG _ (by omega)))
                have HF8 : Hid (Fut w2 w8) := Lib.hid (RowKit.Below.grown (HFa.out.trans FA) hgr (RowKit.Below.size (HFa.out.trans FA)) fun q hq => by have := hge q hq; omega)
                clear hown hgr hat hlt FA hge hnG HRW HSZ HFA c0 c1 f0 f1
                obtain ⟨c0, c1, f0, f1⟩ := two_cell HX8.out
                have hGl : w2.heap.size < w8.heap.size := (Array.getElem?_eq_some_iff.1 HX8.out).1
                go_wp2_with fail
                have SG := set_grown w8 w2.heap.size 0 (.slice (some ⟨g, 0, none⟩) (Y.length + 1) cap)
                have HX9 := Lib.hid (two_set0 (.slice (some ⟨g, 0, none⟩) (Y.length + 1) cap) HX8.out)
                have HT9 := Lib.hid (HT8.out.kept (Nat.lt_succ_self _) SG)
                have HF9 : Hid (Fut w2 (w8.setCell ⟨w2.heap.size, 0, none⟩ (.slice (some ⟨g, 0, none⟩) (Y.length + 1) cap))) := Lib.hid (RowKit.Below.setCell HF8.out (p := ⟨w2.heap.size, 0, none⟩) (Nat.le_refl _) _)
                clear SG HX8 HT8 HF8 c0 c1 f0 f1 hGl
                go_meet
                exact ⟨Y ++ [n], T, _, cap, ta, tc, Lib.hid (by simp), by rw [List.length_append]; exact HX9, HT9, HF9⟩
            case rest =>
              obtain ⟨Y', T', ya', yc', ta', tc', HV1, HXb, HTb, HFb⟩ := hcut
              obtain ⟨wb, hwb⟩ : ∃ wb, wb = wc := ⟨_, rfl⟩
              subst hwb
              obtain ⟨_, p0, p1, p2⟩ := HBX.out _ HFb.out
              obtain ⟨hv1, rfl⟩ := HV1.out
              have HV1y := Lib.hid hv1
              clear hv1 HV1 HTa HXa HFa
              go_upto_region 16 with fail
              go_cut [94] from 83 to 95 (fun sb wx => ∃ b, sb = .bool b ∧ Hid (b = (t8 j && !S.contains n')) ∧ Hid (Fut wb wx))
              case first =>
                cases hb : t8 j
                · have hb2 : (bits BinOp.and IntKind.u8 (((f : Nat) : Int) / 2 ^ j) 1 == 1) = false := by rw [HBt.out] at hb; exact hb
                  have HBJ := Lib.hid hb
                  clear hb
                  go_wp2_with fail
                  go_meet
                  exact ⟨false, rfl, Lib.hid (by rw [HBJ.out]; rfl), Lib.hid Fut.rfl⟩
                · have hb2 : (bits BinOp.and IntKind.u8 (((f : Nat) : Int) / 2 ^ j) 1 == 1) = true := by rw [HBt.out] at hb; exact hb
                  obtain ⟨cb, HCB⟩ : ∃ cb, Hid (S.contains n' = cb) := ⟨_, Lib.hid rfl⟩
                  have hq := HCT.out n' wb HFb.out
                  rw [HCB.out] at hq
                  have HQ := Lib.hid hq
                  have HBJ := Lib.hid hb
                  clear hb hq
                  go_wp2_with fail
                  refine HQ.out.mono ?_
                  rintro _ _ ⟨rfl, rfl⟩
                  go_wp2_with fail
                  go_meet
                  exact ⟨!cb, rfl, Lib.hid (by rw [HCB.out, HBJ.out]; rfl), Lib.hid Fut.rfl⟩
              case rest =>
                obtain ⟨b2, rfl, HBV2, HFC2⟩ := hcut
                obtain ⟨wd, hwd⟩ : ∃ wd, wd = wc := ⟨_, rfl⟩
                subst hwd
                have HXd := Lib.hid (heap_fut HXb.out HFC2.out)
                have HTd := Lib.hid (HTb.out.fut HFC2.out)
                have HFd := Lib.hid (HFb.out.trans HFC2.out)
                clear HXb HTb HFb HFC2 p0 p1 p2
                cases b2
                · go_wp2_with fail
                  go_roundw
                  case rel => first
                    | exact ⟨j + 1, Y', T', ya', yc', ta', tc', by omega, by go_num, Lib.hid ⟨by rw [HV1y.out, HSY.out, ← HYT.out.1, HBV.out, HN.out.1], by rw [HST.out, ← HYT.out.2, ← HN.out.2, ← HBV2.out]; simp⟩, HXd, HTd, HFd⟩
                    | ((repeat apply Exists.intro); exact ⟨⟨j + 1, Y', T', ya', yc', ta', tc', by omega, by go_num, Lib.hid ⟨by rw [HV1y.out, HSY.out, ← HYT.out.1, HBV.out, HN.out.1], by rw [HST.out, ← HYT.out.2, ← HN.out.2, ← HBV2.out]; simp⟩, HXd, HTd, HFd⟩, rfl⟩)
                  case measure => simp [intOf]; omega
                · have HRW : Hid ((wd.alloc (.cells #[.int .i64 n'] 3)).ownsRow (w2.heap.size + 1) 3 1 (.slice ta' T'.length tc') T'.length (T'.map (Value.int .i64))) := Lib.hid (World.ownsRow.alloc HTd.out.b _)
                  have FA : Fut wd (wd.alloc (.cells #[.int .i64 n'] 3)) := Fut.alloc _ _
                  have HFA := Lib.hid FA
                  have HSZ : Hid (w2.heap.size + 1 ≤ (wd.alloc (.cells #[.int .i64 n'] 3)).heap.size) := Lib.hid (by have h1 := (Array.getElem?_eq_some_iff.1 HXd.out).1; have h2 := RowKit.Below.size FA; omega)
                  obtain ⟨c0, c1, f0, f1⟩ := two_cell HXd.out
                  clear FA
                  go_wp2_with (at_builtin; refine wpList_append_lies _ rfl _ _ 22 rfl (w2.heap.size + 1) 3 i0 (.int .i64 0) 1 8 Try.underlying22 hi0 hz0 hz1 hz2 rfl (by decide) (.slice ta' T'.length tc') T'.length (T'.map (Value.int .i64)) rfl HRW.out ⟨wd.heap.size, 0, none⟩ 1 1 [.int .i64 n'] rfl rfl (cell_one (by simp [go_sem])) (by simp [Value.oneCell']) (by omega) (by unfold maxLen; omega) (by omega) HSZ.out _ rfl ?_)
                  intro g cap w8 hown hgr hat hlt
                  have FA := HFA.out
                  have hge : ∀ q, (Value.slice ta' T'.length tc').ownBlock = some q → w2.heap.size + 1 ≤ q := fun q hq => (World.ownsRow.lt HRW.out q hq).1
                  have hnG : ∀ q, q < w2.heap.size + 1 → (Value.slice ta' T'.length tc').ownBlock ≠ some q := fun q hq e => by have := hge q e; omega
                  have HT8 : Hid (Tw w8 (w2.heap.size + 1) (.slice ya' Y'.length yc') (.slice (some ⟨g, 0, none⟩) (T' ++ [n']).length cap) Y' (T' ++ [n'])) := Lib.hid ((HTd.out.fut FA).addB (g := g) (by unfold Owns; rw [List.length_append, List.map_append]; exact hown) rfl hgr (by simpa using hat))
                  have HX8 := Lib.hid (heap_kept (heap_fut HXd.out FA) hgr (hnG _ (by omega)))
                  have HF8 : Hid (Fut w2 w8) := Lib.hid (RowKit.Below.grown (HFd.out.trans FA) hgr (RowKit.Below.size (HFd.out.trans FA)) fun q hq => by have := hge q hq; omega)
                  clear hown hgr hat hlt FA hge hnG HRW HSZ HFA c0 c1 f0 f1
                  obtain ⟨c0, c1, f0, f1⟩ := two_cell HX8.out
                  have hGl : w2.heap.size < w8.heap.size := (Array.getElem?_eq_some_iff.1 HX8.out).1
                  go_wp2_with fail
                  have SG := set_grown w8 w2.heap.size 1 (.slice (some ⟨g, 0, none⟩) (T'.length + 1) cap)
                  have HX9 := Lib.hid (two_set1 (.slice (some ⟨g, 0, none⟩) (T'.length + 1) cap) HX8.out)
                  have HT9 := Lib.hid (HT8.out.kept (Nat.lt_succ_self _) SG)
                  have HF9 : Hid (Fut w2 (w8.setCell ⟨w2.heap.size, 1, none⟩ (.slice (some ⟨g, 0, none⟩) (T'.length + 1) cap))) := Lib.hid (RowKit.Below.setCell HF8.out (p := ⟨w2.heap.size, 1, none⟩) (Nat.le_refl _) _)
                  clear SG HX8 HT8 HF8 c0 c1 f0 f1 hGl
                  go_roundw
                  case rel => first
                    | exact ⟨j + 1, Y', T' ++ [n'], ya', yc', _, cap, by omega, by go_num, Lib.hid ⟨by rw [HV1y.out, HSY.out, ← HYT.out.1, HBV.out, HN.out.1], by rw [HST.out, ← HYT.out.2, ← HN.out.2, ← HBV2.out]; simp⟩, by rw [List.length_append]; exact HX9, HT9, HF9⟩
                    | ((repeat apply Exists.intro); exact ⟨⟨j + 1, Y', T' ++ [n'], ya', yc', _, cap, by omega, by go_num, Lib.hid ⟨by rw [HV1y.out, HSY.out, ← HYT.out.1, HBV.out, HN.out.1], by rw [HST.out, ← HYT.out.2, ← HN.out.2, ← HBV2.out]; simp⟩, by rw [List.length_append]; exact HX9, HT9, HF9⟩, rfl⟩)
                  case measure => simp [intOf]; omega
        · obtain rfl : r = j := by omega
          obtain ⟨w3, hw3⟩ : ∃ w3, w3 = wr := ⟨_, rfl⟩
          subst hw3
          obtain ⟨k, hk⟩ : ∃ k, k = min (min Y.length T.length) 3 := ⟨_, rfl⟩
          have hYl : Y.length ≤ 4 := by rw [HYT.out.1]; have := sel_len y8 yf S r; omega
          have hTl : T.length ≤ 4 := by rw [HYT.out.2]; have := sel_len t8 tf S r; omega
          have HK := Lib.hid hk
          obtain ⟨c0, c1, f0, f1⟩ := two_cell HXi.out
          clear hk
          go_upto_region 19 with fail
          go_cut [13] from 102 to 109 (fun s13 wx => s13 = .int .i64 (k : Nat) ∧ Hid (Fut w3 wx))
          case first =>
            go_wp2_with fail
            all_goals
              go_meet
              refine ⟨?_, Lib.hid Fut.rfl⟩
              have hk := HK.out
              congr 1
              omega
          case rest =>
            obtain ⟨rfl, HFC⟩ := hcut
            obtain ⟨w4, hw4⟩ : ∃ w4, w4 = wc := ⟨_, rfl⟩
            subst hw4
            have hk := HK.out
            have HX4 := Lib.hid (heap_fut HXi.out HFC.out)
            have HT4 := Lib.hid (HTi.out.fut HFC.out)
            have HF4 := Lib.hid (HFi.out.trans HFC.out)
            have HW4 := Lib.hid (HF0.out.trans HF4.out)
            clear HXi HTi HFi HFC c0 c1 f0 f1 p0 p1 p2
            by_cases hk0 : k = 0
            · subst hk0
              clear hk
              go_wp2_with fail
              refine (works_any _).mono ?_
              rintro _ w5 ⟨rfl, F⟩
              have HF5 := Lib.hid (HW4.out.trans F)
              clear F
              go_wp2_with fail
              go_ret
              exact ⟨rfl, HF5.out⟩
            · have hkb : (((k : Nat) : Int) == 0) = false := by rw [beq_eq_false_iff_ne]; omega
              have hkn : ¬ ((k : Nat) : Int) = 0 := by omega
              have hk3 : k ≤ 3 ∧ k ≤ Y.length ∧ k ≤ T.length := by omega
              clear hk
              obtain ⟨yg, yc1, eY, hyc1, HOY⟩ := own_pos HT4.out.a rfl (by omega)
              obtain ⟨tg, tc1, eT, htc1, HOT⟩ := own_pos HT4.out.b rfl (by omega)
              cases eY
              cases eT
              have hs1 := slice_toI yg 0 Y.length yc k (by omega)
              have hs2 := slice_toI tg 0 T.length tc k (by omega)
              have hX4 := HX4.out
              have HBX4 := Lib.hid (HBX.out _ HF4.out)
              go_upto_region 22 with fail
              have FD : Fut w4 w4.drew := below_drewN Fut.rfl 1
              have HFD := Lib.hid FD
              have HXD := Lib.hid (heap_fut HX4.out FD)
              have HBD := Lib.hid (HBX4.out.fut FD)
              clear FD hX4
              go_cut [] from 112 to 122 (fun wx => Hid (wx.heap[w2.heap.size]? = some (.cells #[.slice (some ⟨yg, 0, none⟩) k yc, .slice (some ⟨tg, 0, none⟩) k tc] 26)) ∧ Hid (But (fun q => q = w2.heap.size) w4 wx))
              case first =>
                have hs22 : ∀ (W : World), w4.drew.grownBy W (some w2.heap.size) → BoxP W (w.heap.size + 1) (r : Int) (c : Int) sa S.length sc := fun W G => HBD.out.kept G (fun e => by have h1 := HBX.out w2 Fut.rfl; have h2 := h1.lt; have h3 := Option.some.inj e; omega)
                refine wp_region_held_drew (S := (fun w' => BoxP w' (w.heap.size + 1) (r : Int) (c : Int) sa S.length sc)) (by kernel_rfl) ?_ (fun hHeld => ?_)
                · exact HBD.out
                generalize w4.drew = u0 at *
                refine wpAnyH_take (i := 0) (oi := { dst := some 112, op := Op.fieldAddr 26 (Operand.tmp 9) 0, type := 0, pos := "outright.go:322", after := #[], guard := none }) (v := ?_) rfl (by kernel_rfl) (by kernel_rfl) (by kernel_rfl) (fun _ _ _ h => h) (Or.inl ⟨by rfl, ?_⟩) (by assumption) ?_
                rotate_left
                · (intro w hSw; (obtain ⟨_, s0, s1, s2⟩ := hSw); go_simp <;> with_reducible rfl)
                try simp only [Act.put, List.setIfInBounds_toArray, List.set_cons_zero, List.set_cons_succ]
                refine wpAnyH_take (i := 2) (oi := { dst := some 114, op := Op.move (Operand.tmp 13), type := 3, pos := "outright.go:322", after := #[], guard := none }) (v := ?_) rfl (by kernel_rfl) (by kernel_rfl) (by kernel_rfl) (fun _ _ _ h => h) (Or.inl ⟨by rfl, ?_⟩) (by assumption) ?_
                rotate_left
                · (intro w hSw; (obtain ⟨_, s0, s1, s2⟩ := hSw); go_simp <;> with_reducible rfl)
                try simp only [Act.put, List.setIfInBounds_toArray, List.set_cons_zero, List.set_cons_succ]
                refine wpAnyH_take (i := 4) (oi := { dst := some 116, op := Op.fieldAddr 26 (Operand.tmp 9) 1, type := 0, pos := "outright.go:322", after := #[], guard := none }) (v := ?_) rfl (by kernel_rfl) (by kernel_rfl) (by kernel_rfl) (fun _ _ _ h => h) (Or.inl ⟨by rfl, ?_⟩) (by assumption) ?_
                rotate_left
                · (intro w hSw; (obtain ⟨_, s0, s1, s2⟩ := hSw); go_simp <;> with_reducible rfl)
                try simp only [Act.put, List.setIfInBounds_toArray, List.set_cons_zero, List.set_cons_succ]
                refine wpAnyH_take (i := 6) (oi := { dst := some 118, op := Op.move (Operand.tmp 13), type := 3, pos := "outright.go:322", after := #[], guard := none }) (v := ?_) rfl (by kernel_rfl) (by kernel_rfl) (by kernel_rfl) (fun _ _ _ h => h) (Or.inl ⟨by rfl, ?_⟩) (by assumption) ?_
                rotate_left
                · (intro w hSw; (obtain ⟨_, s0, s1, s2⟩ := hSw); go_simp <;> with_reducible rfl)
                try simp only [Act.put, List.setIfInBounds_toArray, List.set_cons_zero, List.set_cons_succ]
                refine wpAnyH_ready (rs := [1, 5]) (by kernel_rfl) (by simp) ?_
                refine AllReadyH.cons (o := { dst := some 113, op := Op.load 22 (Operand.tmp 112), type := 22, pos := "outright.go:322", after := #[{ on := 0, ground := Ground.data }], guard := none }) rfl (fun K hK => ?_) (AllReadyH.cons (o := { dst := some 117, op := Op.load 22 (Operand.tmp 116), type := 22, pos := "outright.go:322", after := #[{ on := 4, ground := Ground.data }], guard := none }) rfl (fun K hK => ?_) (AllReadyH.nil))
                · obtain ⟨c0, c1, f0, f1⟩ := two_cell HXD.out
                  go_simp
                  clear c0 c1 f0 f1
                  refine hK.out _ _ ?_ (fun hHeld => ?_)
                  · exact HBD.out
                  clear hK K
                  try simp only [Act.put, List.setIfInBounds_toArray, List.set_cons_zero, List.set_cons_succ]
                  refine wpAnyH_take (i := 3) (oi := { dst := some 115, op := Op.slice 22 (Operand.tmp 113) none (some (Operand.tmp 114)) none, type := 22, pos := "outright.go:322", after := #[{ on := 1, ground := Ground.data }, { on := 2, ground := Ground.data }], guard := none }) (v := ?_) rfl (by kernel_rfl) (by kernel_rfl) (by kernel_rfl) (fun _ _ _ h => h) (Or.inl ⟨by rfl, ?_⟩) (by assumption) ?_
                  rotate_left
                  · (intro w hSw; (obtain ⟨_, s0, s1, s2⟩ := hSw); go_simp <;> with_reducible rfl)
                  try simp only [Act.put, List.setIfInBounds_toArray, List.set_cons_zero, List.set_cons_succ]
                  refine wpAnyH_ready (rs := [5]) (by kernel_rfl) (by simp) ?_
                  refine AllReadyH.cons (o := { dst := some 117, op := Op.load 22 (Operand.tmp 116), type := 22, pos := "outright.go:322", after := #[{ on := 4, ground := Ground.data }], guard := none }) rfl (fun K hK => ?_) AllReadyH.nil
                  obtain ⟨c0, c1, f0, f1⟩ := two_cell HXD.out
                  go_simp
                  clear c0 c1 f0 f1
                  refine hK.out _ _ ?_ (fun hHeld => ?_)
                  · exact HBD.out
                  clear hK K
                  try simp only [Act.put, List.setIfInBounds_toArray, List.set_cons_zero, List.set_cons_succ]
                  refine wpAnyH_take (i := 7) (oi := { dst := some 119, op := Op.slice 22 (Operand.tmp 117) none (some (Operand.tmp 118)) none, type := 22, pos := "outright.go:322", after := #[{ on := 5, ground := Ground.data }, { on := 6, ground := Ground.data }], guard := none }) (v := ?_) rfl (by kernel_rfl) (by kernel_rfl) (by kernel_rfl) (fun _ _ _ h => h) (Or.inl ⟨by rfl, ?_⟩) (by assumption) ?_
                  rotate_left
                  · (intro w hSw; (obtain ⟨_, s0, s1, s2⟩ := hSw); go_simp <;> with_reducible rfl)
                  try simp only [Act.put, List.setIfInBounds_toArray, List.set_cons_zero, List.set_cons_succ]
                  refine wpAnyH_take (i := 8) (oi := { dst := some 120, op := Op.fieldAddr 26 (Operand.tmp 9) 0, type := 0, pos := "outright.go:322", after := #[{ on := 0, ground := Ground.phase }, { on := 1, ground := Ground.phase }, { on := 2, ground := Ground.phase }, { on := 3, ground := Ground.phase }, { on := 4, ground := Ground.phase }, { on := 5, ground := Ground.phase }, { on := 6, ground := Ground.textOnly Departure.lateStores }, { on := 7, ground := Ground.textOnly Departure.lateStoresUnsure }], guard := none }) (v := ?_) rfl (by kernel_rfl) (by kernel_rfl) (by kernel_rfl) (fun _ _ _ h => h) (Or.inl ⟨by rfl, ?_⟩) (by assumption) ?_
                  rotate_left
                  · (intro w hSw; (obtain ⟨_, s0, s1, s2⟩ := hSw); go_simp <;> with_reducible rfl)
                  try simp only [Act.put, List.setIfInBounds_toArray, List.set_cons_zero, List.set_cons_succ]
                  refine wpAnyH_ready (rs := [9]) (by kernel_rfl) (by simp) ?_
                  refine AllReadyH.cons (o := { dst := none, op := Op.store 22 (Operand.tmp 120) (Operand.tmp 115), type := 0, pos := "outright.go:322", after := #[{ on := 8, ground := Ground.data }, { on := 3, ground := Ground.data }, { on := 0, ground := Ground.phase }, { on := 1, ground := Ground.phase }, { on := 2, ground := Ground.phase }, { on := 3, ground := Ground.phase }, { on := 4, ground := Ground.phase }, { on := 5, ground := Ground.phase }, { on := 6, ground := Ground.textOnly Departure.lateStores }, { on := 7, ground := Ground.textOnly Departure.lateStoresUnsure }], guard := none }) rfl (fun K hK => ?_) AllReadyH.nil
                  obtain ⟨c0, c1, f0, f1⟩ := two_cell HXD.out
                  have hX9 := two_set0 (.slice (some ⟨yg, 0, none⟩) k yc) HXD.out
                  go_simp
                  clear c0 c1 f0 f1
                  refine hK.out _ _ ?_ (fun hHeld => ?_)
                  · exact hs22 _ (set_grown _ _ _ _)
                  clear hK K
                  try simp only [Act.put, List.setIfInBounds_toArray, List.set_cons_zero, List.set_cons_succ]
                  refine wpAnyH_take (i := 10) (oi := { dst := some 121, op := Op.fieldAddr 26 (Operand.tmp 9) 1, type := 0, pos := "outright.go:322", after := #[{ on := 0, ground := Ground.phase }, { on := 1, ground := Ground.phase }, { on := 2, ground := Ground.phase }, { on := 3, ground := Ground.phase }, { on := 4, ground := Ground.phase }, { on := 5, ground := Ground.phase }, { on := 6, ground := Ground.phase }, { on := 7, ground := Ground.phase }, { on := 8, ground := Ground.phase }, { on := 9, ground := Ground.phase }], guard := none }) (v := ?_) rfl (by kernel_rfl) (by kernel_rfl) (by kernel_rfl) (fun _ _ _ h => h) (Or.inl ⟨by rfl, ?_⟩) (by assumption) ?_
                  rotate_left
                  · (intro w hSw; (obtain ⟨_, s0, s1, s2⟩ := hSw); go_simp <;> with_reducible rfl)
                  try simp only [Act.put, List.setIfInBounds_toArray, List.set_cons_zero, List.set_cons_succ]
                  refine wpAnyH_ready (rs := [11]) (by kernel_rfl) (by simp) ?_
                  refine AllReadyH.cons (o := { dst := none, op := Op.store 22 (Operand.tmp 121) (Operand.tmp 119), type := 0, pos := "outright.go:322", after := #[{ on := 10, ground := Ground.data }, { on := 7, ground := Ground.data }, { on := 9, ground := Ground.chain }, { on := 0, ground := Ground.phase }, { on := 1, ground := Ground.phase }, { on := 2, ground := Ground.phase }, { on := 3, ground := Ground.phase }, { on := 4, ground := Ground.phase }, { on := 5, ground := Ground.phase }, { on := 6, ground := Ground.phase }, { on := 7, ground := Ground.phase }, { on := 8, ground := Ground.phase }, { on := 9, ground := Ground.phase }], guard := none }) rfl (fun K hK => ?_) AllReadyH.nil
                  obtain ⟨d0, d1, g0, g1⟩ := two_cell hX9
                  have hXB := two_set1 (.slice (some ⟨tg, 0, none⟩) k tc) hX9
                  go_simp
                  clear d0 d1 g0 g1
                  refine hK.out _ _ ?_ (fun hHeld => ?_)
                  · exact hs22 _ (grown_set (set_grown _ _ _ _))
                  clear hK K
                  try simp only [Act.put, List.setIfInBounds_toArray, List.set_cons_zero, List.set_cons_succ]
                  refine wpAnyH_done (by kernel_rfl) ?_ _
                  have HXB := Lib.hid hXB
                  clear hX9 hXB
                  go_wp2_with fail
                  go_meet
                  exact ⟨HXB, Lib.hid (((But.of_below (Z := fun q => q = w2.heap.size) HFD.out).setCell (p := ⟨w2.heap.size, 0, none⟩) (.inl rfl) _).setCell (p := ⟨w2.heap.size, 1, none⟩) (.inl rfl) _)⟩
                · obtain ⟨c0, c1, f0, f1⟩ := two_cell HXD.out
                  go_simp
                  clear c0 c1 f0 f1
                  refine hK.out _ _ ?_ (fun hHeld => ?_)
                  · exact HBD.out
                  clear hK K
                  try simp only [Act.put, List.setIfInBounds_toArray, List.set_cons_zero, List.set_cons_succ]
                  refine wpAnyH_take (i := 7) (oi := { dst := some 119, op := Op.slice 22 (Operand.tmp 117) none (some (Operand.tmp 118)) none, type := 22, pos := "outright.go:322", after := #[{ on := 5, ground := Ground.data }, { on := 6, ground := Ground.data }], guard := none }) (v := ?_) rfl (by kernel_rfl) (by kernel_rfl) (by kernel_rfl) (fun _ _ _ h => h) (Or.inl ⟨by rfl, ?_⟩) (by assumption) ?_
                  rotate_left
                  · (intro w hSw; (obtain ⟨_, s0, s1, s2⟩ := hSw); go_simp <;> with_reducible rfl)
                  try simp only [Act.put, List.setIfInBounds_toArray, List.set_cons_zero, List.set_cons_succ]
                  refine wpAnyH_ready (rs := [1]) (by kernel_rfl) (by simp) ?_
                  refine AllReadyH.cons (o := { dst := some 113, op := Op.load 22 (Operand.tmp 112), type := 22, pos := "outright.go:322", after := #[{ on := 0, ground := Ground.data }], guard := none }) rfl (fun K hK => ?_) AllReadyH.nil
                  obtain ⟨c0, c1, f0, f1⟩ := two_cell HXD.out
                  go_simp
                  clear c0 c1 f0 f1
                  refine hK.out _ _ ?_ (fun hHeld => ?_)
                  · exact HBD.out
                  clear hK K
                  try simp only [Act.put, List.setIfInBounds_toArray, List.set_cons_zero, List.set_cons_succ]
                  refine wpAnyH_take (i := 3) (oi := { dst := some 115, op := Op.slice 22 (Operand.tmp 113) none (some (Operand.tmp 114)) none, type := 22, pos := "outright.go:322", after := #[{ on := 1, ground := Ground.data }, { on := 2, ground := Ground.data }], guard := none }) (v := ?_) rfl (by kernel_rfl) (by kernel_rfl) (by kernel_rfl) (fun _ _ _ h => h) (Or.inl ⟨by rfl, ?_⟩) (by assumption) ?_
                  rotate_left
                  · (intro w hSw; (obtain ⟨_, s0, s1, s2⟩ := hSw); go_simp <;> with_reducible rfl)
                  try simp only [Act.put, List.setIfInBounds_toArray, List.set_cons_zero, List.set_cons_succ]
                  refine wpAnyH_take (i := 8) (oi := { dst := some 120, op := Op.fieldAddr 26 (Operand.tmp 9) 0, type := 0, pos := "outright.go:322", after := #[{ on := 0, ground := Ground.phase }, { on := 1, ground := Ground.phase }, { on := 2, ground := Ground.phase }, { on := 3, ground := Ground.phase }, { on := 4, ground := Ground.phase }, { on := 5, ground := Ground.phase }, { on := 6, ground := Ground.textOnly Departure.lateStores }, { on := 7, ground := Ground.textOnly Departure.lateStoresUnsure }], guard := none }) (v := ?_) rfl (by kernel_rfl) (by kernel_rfl) (by kernel_rfl) (fun _ _ _ h => h) (Or.inl ⟨by rfl, ?_⟩) (by assumption) ?_
                  rotate_left
                  · (intro w hSw; (obtain ⟨_, s0, s1, s2⟩ := hSw); go_simp <;> with_reducible rfl)
                  try simp only [Act.put, List.setIfInBounds_toArray, List.set_cons_zero, List.set_cons_succ]
                  refine wpAnyH_ready (rs := [9]) (by kernel_rfl) (by simp) ?_
                  refine AllReadyH.cons (o := { dst := none, op := Op.store 22 (Operand.tmp 120) (Operand.tmp 115), type := 0, pos := "outright.go:322", after := #[{ on := 8, ground := Ground.data }, { on := 3, ground := Ground.data }, { on := 0, ground := Ground.phase }, { on := 1, ground := Ground.phase }, { on := 2, ground := Ground.phase }, { on := 3, ground := Ground.phase }, { on := 4, ground := Ground.phase }, { on := 5, ground := Ground.phase }, { on := 6, ground := Ground.textOnly Departure.lateStores }, { on := 7, ground := Ground.textOnly Departure.lateStoresUnsure }], guard := none }) rfl (fun K hK => ?_) AllReadyH.nil
                  obtain ⟨c0, c1, f0, f1⟩ := two_cell HXD.out
                  have hX9 := two_set0 (.slice (some ⟨yg, 0, none⟩) k yc) HXD.out
                  go_simp
                  clear c0 c1 f0 f1
                  refine hK.out _ _ ?_ (fun hHeld => ?_)
                  · exact hs22 _ (set_grown _ _ _ _)
                  clear hK K
                  try simp only [Act.put, List.setIfInBounds_toArray, List.set_cons_zero, List.set_cons_succ]
                  refine wpAnyH_take (i := 10) (oi := { dst := some 121, op := Op.fieldAddr 26 (Operand.tmp 9) 1, type := 0, pos := "outright.go:322", after := #[{ on := 0, ground := Ground.phase }, { on := 1, ground := Ground.phase }, { on := 2, ground := Ground.phase }, { on := 3, ground := Ground.phase }, { on := 4, ground := Ground.phase }, { on := 5, ground := Ground.phase }, { on := 6, ground := Ground.phase }, { on := 7, ground := Ground.phase }, { on := 8, ground := Ground.phase }, { on := 9, ground := Ground.phase }], guard := none }) (v := ?_) rfl (by kernel_rfl) (by kernel_rfl) (by kernel_rfl) (fun _ _ _ h => h) (Or.inl ⟨by rfl, ?_⟩) (by assumption) ?_
                  rotate_left
                  · (intro w hSw; (obtain ⟨_, s0, s1, s2⟩ := hSw); go_simp <;> with_reducible rfl)
                  try simp only [Act.put, List.setIfInBounds_toArray, List.set_cons_zero, List.set_cons_succ]
                  refine wpAnyH_ready (rs := [11]) (by kernel_rfl) (by simp) ?_
                  refine AllReadyH.cons (o := { dst := none, op := Op.store 22 (Operand.tmp 121) (Operand.tmp 119), type := 0, pos := "outright.go:322", after := #[{ on := 10, ground := Ground.data }, { on := 7, ground := Ground.data }, { on := 9, ground := Ground.chain }, { on := 0, ground := Ground.phase }, { on := 1, ground := Ground.phase }, { on := 2, ground := Ground.phase }, { on := 3, ground := Ground.phase }, { on := 4, ground := Ground.phase }, { on := 5, ground := Ground.phase }, { on := 6, ground := Ground.phase }, { on := 7, ground := Ground.phase }, { on := 8, ground := Ground.phase }, { on := 9, ground := Ground.phase }], guard := none }) rfl (fun K hK => ?_) AllReadyH.nil
                  obtain ⟨d0, d1, g0, g1⟩ := two_cell hX9
                  have hXB := two_set1 (.slice (some ⟨tg, 0, none⟩) k tc) hX9
                  go_simp
                  clear d0 d1 g0 g1
                  refine hK.out _ _ ?_ (fun hHeld => ?_)
                  · exact hs22 _ (grown_set (set_grown _ _ _ _))
                  clear hK K
                  try simp only [Act.put, List.setIfInBounds_toArray, List.set_cons_zero, List.set_cons_succ]
                  refine wpAnyH_done (by kernel_rfl) ?_ _
                  have HXB := Lib.hid hXB
                  clear hX9 hXB
                  go_wp2_with fail
                  go_meet
                  exact ⟨HXB, Lib.hid (((But.of_below (Z := fun q => q = w2.heap.size) HFD.out).setCell (p := ⟨w2.heap.size, 0, none⟩) (.inl rfl) _).setCell (p := ⟨w2.heap.size, 1, none⟩) (.inl rfl) _)⟩
              case rest =>
                obtain ⟨HXE, HBE⟩ := hcut
                obtain ⟨w6, hw6⟩ : ∃ w6, w6 = wc := ⟨_, rfl⟩
                subst hw6
                have hF26 : Fut w2 w6 := RowKit.Below.trans HF4.out (But.below HBE.out w2.heap.size (RowKit.Below.size HF4.out) (fun q hq => by subst hq; exact Nat.le_refl _))
                have HW6 := Lib.hid (HF0.out.trans hF26)
                have HB6 := Lib.hid (HBX.out _ hF26)
                have hIY : IntsAt w6 (some ⟨yg, 0, none⟩) Y := (HT4.out.a.but HBE.out (fun q hq => by subst hq; exact Nat.lt_succ_self _)).at rfl
                have hIT : IntsAt w6 (some ⟨tg, 0, none⟩) T := (HT4.out.b.but HBE.out (fun q hq => by subst hq; exact Nat.lt_succ_self _)).at rfl
                have hIS : IntsAt w6 sa S := (HOi.out.at rfl).fut hF26
                have hSS : S = shL bb (r * c) := by rw [HSL.out, HM.out]
                have hYY : Y = selL y8 (fun q => (q : Int) * c) (shL bb (r * c)) r := by rw [HYT.out.1, HYF.out, hSS]
                have hTT : T = selL t8 (fun q => ((q : Int) + 1) * c - 1) (shL bb (r * c)) r := by rw [HYT.out.2, HTF.out, hSS]
                obtain ⟨hck, hst⟩ := straight_ok hrb hcb bb y8 t8 k (by omega) hk3.1 (by rw [← hYY]; exact hk3.2.1) (by rw [← hTT]; exact hk3.2.2)
                rw [← hYY, ← hTT, ← hSS] at hck hst
                have hlY : (Y.take k).length = k := by rw [List.length_take]; omega
                have hlT : (T.take k).length = k := by rw [List.length_take]; omega
                have hIN : InPQ w6 sa S (some ⟨yg, 0, none⟩) yc (Y.take k) (some ⟨tg, 0, none⟩) tc (T.take k) := ⟨hIS, by rw [HSL.out]; have := shL_len bb m; omega, hIY.take k, by omega, by omega, hIT.take k, by omega, by omega⟩
                obtain ⟨C, hC⟩ : ∃ C, (famL (c : Int) ((r : Int) * (c : Int)) S (Y.take k) (T.take k)).length = C := ⟨_, rfl⟩
                rw [hC] at hst
                have HSG : Hid (∀ W, Fut w6 W → Calls Try.prog 23 #[parV (r : Int) (c : Int) sa S.length sc, plaV (some ⟨yg, 0, none⟩) k yc (some ⟨tg, 0, none⟩) k tc] W fun e w' => e = .returned (.tuple #[.int .i64 (C : Int), .int .i64 0]) ∧ Fut W w') := Lib.hid (fun W F => signed_ok2 (hIN.fut F) hck rfl hlY hlT hst)
                have HCN : Hid (∀ W, Fut w6 W → Calls Try.prog 25 #[parV (r : Int) (c : Int) sa S.length sc, plaV (some ⟨yg, 0, none⟩) k yc (some ⟨tg, 0, none⟩) k tc] W fun e w' => e = .returned (.tuple #[.int .i64 (C : Nat), .int .i64 0]) ∧ Fut W w') := Lib.hid (fun W F => count_ok3 (hIN.fut F) hck rfl hlY hlT hC)
                clear hF26 hIY hIT hIS hSS hYY hTT hck hst hlY hlT hIN hC hs1 hs2 hkb hkn HBE HYT HSL
                obtain ⟨c0, c1, f0, f1⟩ := two_cell HXE.out
                obtain ⟨_, p0, p1, p2⟩ := HB6.out
                go_wp2_with fail
                refine (HSG.out w6 Fut.rfl).mono ?_
                rintro _ w7 ⟨rfl, F7⟩
                have HF7 := Lib.hid F7
                clear F7 c0 c1 f0 f1 p0 p1 p2
                obtain ⟨c0, c1, f0, f1⟩ := two_cell (heap_fut HXE.out HF7.out)
                obtain ⟨_, p0, p1, p2⟩ := HB6.out.fut HF7.out
                go_wp2_with fail
                refine (HCN.out w7 HF7.out).mono ?_
                rintro _ w8 ⟨rfl, F8⟩
                have HF8 := Lib.hid (HW6.out.trans (HF7.out.trans F8))
                have hC0 : (0 : Int) ≤ (C : Int) := by omega
                clear F8 c0 c1 f0 f1 p0 p1 p2
                go_wp2_with fail
                refine (works_any _).mono ?_
                rintro _ w9 ⟨rfl, F9⟩
                have HF9 := Lib.hid (HF8.out.trans F9)
                clear F9
                go_wp2_with fail
                go_ret
                exact ⟨rfl, HF9.out⟩
end Go.Proofs.Ytflllkamdihfaaa
