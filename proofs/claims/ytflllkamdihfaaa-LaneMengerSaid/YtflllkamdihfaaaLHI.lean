/- family 55: family_any; FamX; three bytes' box -/
import Derived.Test.YtflllkamdihfaaaLHA
import Derived.Test.YtflllkamdihfaaaLNC
import Derived.Test.YtflllkamdihfaaaLHF
import Derived.Test.YtflllkamdihfaaaLHG
import Derived.Test.YtflllkamdihfaaaLGH
namespace Go.Proofs.Ytflllkamdihfaaa
open Go.RowKit Go.Sort
/-- three bytes. -/
abbrev thV (b : Nat → Nat) : Value := .agg #[.int .u8 (b 0 : Nat), .int .u8 (b 1 : Nat), .int .u8 (b 2 : Nat)]
/-- the box of three bytes. -/
structure BoxTh (w : World) (B : Nat) (b : Nat → Nat) : Prop where
  lt : B < w.heap.size
  b : ∀ i, i < 3 → w.cell? ⟨B, i, none⟩ = some (.int .u8 (b i : Nat))
theorem BoxTh.fut {w w' : World} {B : Nat} {b : Nat → Nat} (h : BoxTh w B b) (F : Fut w w') : BoxTh w' B b :=
  ⟨Nat.lt_of_lt_of_le h.lt (RowKit.Below.size F), fun i hi => (RowKit.Below.cell F (p := ⟨B, i, none⟩) h.lt).trans (h.b i hi)⟩
theorem BoxTh.kept {w w' : World} {B : Nat} {b : Nat → Nat} {row : Option Nat} (h : BoxTh w B b) (g : w.grownBy w' row) (hne : row ≠ some B) : BoxTh w' B b := by
  have k := g.block B h.lt (fun e => hne e.symm)
  exact ⟨Nat.lt_of_lt_of_le h.lt g.size, fun i hi => (World.cell?_of_block (a := ⟨B, i, none⟩) k).trans (h.b i hi)⟩
theorem BoxTh.new (w : World) (b : Nat → Nat) : BoxTh (w.alloc (.cells #[.int .u8 (b 0 : Nat), .int .u8 (b 1 : Nat), .int .u8 (b 2 : Nat)] 61)) w.heap.size b := by
  have h := World.alloc_heap_new w (.cells #[.int .u8 (b 0 : Nat), .int .u8 (b 1 : Nat), .int .u8 (b 2 : Nat)] 61)
  refine ⟨by simp, fun i hi => ?_⟩
  unfold World.cell?; rw [h]
  rcases (by omega : i = 0 ∨ i = 1 ∨ i = 2) with rfl | rfl | rfl <;> rfl
/-- the quay that the law gives a cart. -/
def tN (n q i : Nat) : Nat := if q / 8 % 2 = 1 then n - 1 - (i + q) % n else (i + q) % n
theorem tN_lt {n : Nat} (hn : 0 < n) (q i : Nat) : tN n q i < n := by unfold tN; have := Nat.mod_lt (i + q) hn; split <;> omega
def ltW (c m : Int) (S Y T : List Int) (q k : Nat) : List (List Int) := lwL (stL c m S) S [nth T (tN Y.length q k)] (nth Y k)
def pkW (c m : Int) (S Y T : List Int) (b : Nat → Nat) (q k : Nat) : List Int := lth (ltW c m S Y T q k) (b k % (ltW c m S Y T q k).length)
def famW (c m : Int) (S Y T : List Int) (b : Nat → Nat) (q k : Nat) : List (List Int) := (List.range k).map (pkW c m S Y T b q)
def ordW (n q k : Nat) : List Int := (List.range k).map fun i => (tN n q i : Int)
/-- a family and its order, in rows that lie apart. -/
structure FamX (w : World) (B : Nat) (fv ov : Value) (F : List (List Int)) (O : List Int) : Prop where
  row : ∃ vals, w.ownsRow B 22 1 fv F.length vals ∧ Elems w B vals F ∧ ∀ (j : Nat) (u : Value), vals[j]? = some u → u.ownBlock = none ∨ u.ownBlock ≠ ov.ownBlock
  o : Owns w B ov O
theorem FamX.nil (w : World) (B : Nat) : FamX w B (.slice none 0 0) (.slice none 0 0) [] [] :=
  ⟨⟨[], World.ownsRow_nil _ _ _ _, ⟨rfl, fun j hj => absurd hj (by simp)⟩, fun j u h => by simp at h⟩, World.ownsRow_nil _ _ _ _⟩
theorem FamX.fut {w w' : World} {B : Nat} {fv ov : Value} {F : List (List Int)} {O : List Int} (h : FamX w B fv ov F O) (G : Fut w w') : FamX w' B fv ov F O := by
  obtain ⟨⟨vals, h1, h2, h3⟩, h4⟩ := h
  exact ⟨⟨vals, row_fut h1 G, h2.fut G, h3⟩, h4.fut G⟩
theorem FamX.addF {w w' : World} {B : Nat} {fv ov nv x : Value} {F : List (List Int)} {O z : List Int} {vals : List Value} {n : Nat} (hr : w.ownsRow B 22 1 fv n vals) (hE : Elems w B vals F) (hap : ∀ (j : Nat) (u : Value), vals[j]? = some u → u.ownBlock = none ∨ u.ownBlock ≠ ov.ownBlock) (ho : Owns w B ov O)
    (hx : Owns w B x z) (hxa : x.ownBlock = none ∨ x.ownBlock ≠ ov.ownBlock) (hn : F.length = n) (hown : w'.ownsRow B 22 1 nv (n + 1) (vals ++ [x])) (hg : w.grownBy w' fv.ownBlock) : FamX w' B nv ov (F ++ [z]) O := by
  subst hn
  refine ⟨⟨_, by rw [List.length_append]; exact hown, hE.app hx hr hg, fun j u hj => ?_⟩, World.ownsRow.kept ho hg (row_apart (by decide) ho hr)⟩
  rcases Nat.lt_or_ge j vals.length with q | q
  · rw [List.getElem?_append_left q] at hj; exact hap j u hj
  · rw [List.getElem?_append_right q] at hj
    rcases Nat.eq_zero_or_pos (j - vals.length) with q2 | q2
    · rw [q2] at hj; cases hj; exact hxa
    · rw [List.getElem?_eq_none (show 1 ≤ j - vals.length from q2)] at hj; cases hj
theorem FamX.addO {w w' : World} {B g : Nat} {fv ov nv : Value} {F : List (List Int)} {O O' : List Int} (h : FamX w B fv ov F O) (hown : Owns w' B nv O') (hnv : nv.ownBlock = some g) (hg : w.grownBy w' ov.ownBlock) (hat : ov.ownBlock = some g ∨ g = w.heap.size) : FamX w' B fv nv F O' := by
  obtain ⟨⟨vals, h1, h2, h3⟩, h4⟩ := h
  refine ⟨⟨vals, World.ownsRow.kept h1 hg (row_apart (by decide) h1 h4), ⟨h2.1, fun j hj => ?_⟩, fun j u hj => ?_⟩, hown⟩
  · obtain ⟨u, e, hu⟩ := h2.2 j hj
    exact ⟨u, e, World.ownsRow.kept hu hg (h3 j u e)⟩
  · rw [hnv]
    rcases hat with e | e
    · rw [← e]; exact h3 j u hj
    · refine .inr fun e2 => ?_
      have hj2 : j < F.length := by
        rw [← h2.1]
        rcases Nat.lt_or_ge j vals.length with q | q
        · exact q
        · rw [List.getElem?_eq_none q] at hj; cases hj
      obtain ⟨u', e3, hu⟩ := h2.2 j hj2
      rw [hj] at e3
      cases e3
      have := (World.ownsRow.lt hu g e2).2
      omega
set_option maxRecDepth 100000 in
set_option maxHeartbeats 8000000 in
theorem family_any (r c m : Int) (hs : Side r c m) (sa : Option Addr) (sc : Nat) (S : List Int) (ya : Option Addr) (yc : Nat) (Y : List Int) (ta : Option Addr) (tc : Nat) (T : List Int) (b : Nat → Nat) (hb : ∀ j, b j ≤ 255) (q : Nat) (hq : q ≤ 255) (w : World) (h : InPQ w sa S ya yc Y ta tc T)
    (hlen : T.length = Y.length) (hy1 : 1 ≤ Y.length) (hy3 : Y.length ≤ 3) (hY : ∀ k, k < Y.length → 0 ≤ nth Y k ∧ nth Y k < m) :
    Calls Try.prog 55 #[parV r c sa S.length sc, plaV ya Y.length yc ta T.length tc, thV b, .int .u8 q] w fun e w' => ∃ v o ok, e = .returned (.tuple #[v, o, .bool ok]) ∧ Fut w w' ∧
      (ok = true → FamX w' (w.heap.size + 3) v o (famW c m S Y T b q Y.length) (ordW Y.length q Y.length) ∧ ∀ k, k < Y.length → 0 < (ltW c m S Y T q k).length) := by
  obtain ⟨i0, hi0, hz0, hz1, hz2⟩ := info_parts info3
  obtain ⟨i1, hi1, hy0, hy1', hy2⟩ := info_parts info22
  have hA : Fut w (((w.alloc (.cells #[.int .i64 r, .int .i64 c, .slice sa S.length sc] 24)).alloc (.cells #[.slice ya Y.length yc, .slice ta T.length tc] 26)).alloc (.cells #[.int .u8 (b 0 : Nat), .int .u8 (b 1 : Nat), .int .u8 (b 2 : Nat)] 61)) := ((Fut.alloc _ _).trans (Fut.alloc _ _)).trans (Fut.alloc _ _)
  have hBP := ((BoxP.new w r c sa S.length sc).fut (Fut.alloc _ (.cells #[.slice ya Y.length yc, .slice ta T.length tc] 26))).fut (Fut.alloc _ (.cells #[.int .u8 (b 0 : Nat), .int .u8 (b 1 : Nat), .int .u8 (b 2 : Nat)] 61))
  have hBQ := (BoxQ.new (w.alloc (.cells #[.int .i64 r, .int .i64 c, .slice sa S.length sc] 24)) ya Y.length yc ta T.length tc).fut (Fut.alloc _ (.cells #[.int .u8 (b 0 : Nat), .int .u8 (b 1 : Nat), .int .u8 (b 2 : Nat)] 61))
  have hBT := BoxTh.new ((w.alloc (.cells #[.int .i64 r, .int .i64 c, .slice sa S.length sc] 24)).alloc (.cells #[.slice ya Y.length yc, .slice ta T.length tc] 26)) b
  rw [World.size_alloc] at hBQ
  rw [World.size_alloc, World.size_alloc] at hBT
  have HA := Lib.hid hA
  have HBP := Lib.hid hBP
  have HBQ := Lib.hid hBQ
  have HBT := Lib.hid hBT
  have HIN := Lib.hid h
  have HYY := Lib.hid hY
  have HLW := Lib.hid (fun (y x : Int) (hx : 0 ≤ x ∧ x < m) W (F : Fut w W) la lc (hT : IntsAt W la [y]) => lways_own r c m hs sa sc S x hx la lc [y] W (HIN.out.fut F).s (HIN.out).sl hT (by simp))
  have HTN := Lib.hid (fun i => tN_lt (n := Y.length) (by omega) q i)
  have HLT := Lib.hid hlen
  have HBB := Lib.hid hb
  obtain ⟨g, hg⟩ : ∃ g, g = tN Y.length q := ⟨_, rfl⟩
  have HGN := Lib.hid hg
  rw [← hg] at HTN
  have HFS := Lib.hid (fun k => show famW c m S Y T b q (k + 1) = famW c m S Y T b q k ++ [pkW c m S Y T b q k] by unfold famW; rw [List.range_succ, List.map_append]; rfl)
  have HFL := Lib.hid (fun k => show (famW c m S Y T b q k).length = k by unfold famW; rw [List.length_map, List.length_range])
  have HF0 : Hid (famW c m S Y T b q 0 = []) := Lib.hid rfl
  have HOS := Lib.hid (fun k => show ordW Y.length q (k + 1) = ordW Y.length q k ++ [(g k : Int)] by rw [hg]; unfold ordW; rw [List.range_succ, List.map_append]; rfl)
  have HOL := Lib.hid (fun k => show (ordW Y.length q k).length = k by unfold ordW; rw [List.length_map, List.length_range])
  have HO0 : Hid (ordW Y.length q 0 = []) := Lib.hid rfl
  have HPK := Lib.hid (fun k => show pkW c m S Y T b q k = lth (ltW c m S Y T q k) (b k % (ltW c m S Y T q k).length) from rfl)
  have HLL := Lib.hid (fun k => show ltW c m S Y T q k = lwL (stL c m S) S [nth T (g k)] (nth Y k) by rw [hg]; rfl)
  generalize famW c m S Y T b q = fm at *
  generalize ordW Y.length q = om at *
  generalize pkW c m S Y T b q = pk at *
  generalize ltW c m S Y T q = lt at *
  obtain ⟨yb, yo, eya, _, _⟩ := h.y 0 (by omega)
  subst eya
  obtain ⟨tb, to_, eta, _, _⟩ := h.t 0 (by omega)
  subst eta
  have hyx : (Y.length : Int) ≤ 3 := by omega
  have hY0 : ¬ (Y.length : Int) = 0 := by omega
  have hwq : IntKind.i64.wrap ((q : Nat) : Int) = ((q : Nat) : Int) := IntWalk.i64_in _ ⟨by omega, by omega⟩
  have hqx : (q : Int) ≤ 255 := by omega
  clear hs hA hBP hBQ hBT h hY hlen hb hg
  obtain ⟨_, p0, p1, p2⟩ := HBP.out
  obtain ⟨_, q0, q1⟩ := HBQ.out
  go_enter Try.func55, Try.ntmps55
  go_wp2_with fail
  clear p0 p1 p2 q0 q1
  generalize ((w.alloc (.cells #[.int .i64 r, .int .i64 c, .slice sa S.length sc] 24)).alloc (.cells #[.slice (some ⟨yb, yo, none⟩) Y.length yc, .slice (some ⟨tb, to_, none⟩) T.length tc] 26)).alloc (.cells #[.int .u8 (b 0 : Nat), .int .u8 (b 1 : Nat), .int .u8 (b 2 : Nat)] 61) = w2 at *
  go_loopw [11, 12, 21] (fun ov fv iv wr => ∃ k : Nat, k ≤ Y.length ∧ iv = .int .i64 k ∧ Hid (FamX wr (w.heap.size + 3) fv ov (fm k) (om k)) ∧ Hid (Fut w wr) ∧ Hid (BoxP wr w.heap.size r c sa S.length sc) ∧ Hid (BoxQ wr (w.heap.size + 1) (some ⟨yb, yo, none⟩) Y.length yc (some ⟨tb, to_, none⟩) T.length tc) ∧ Hid (BoxTh wr (w.heap.size + 2) b) ∧ Hid (∀ j, j < k → 0 < (lt j).length)) (fun _ _ iv _ => Y.length - (intOf iv).toNat)
  case atStart => exact ⟨0, Nat.zero_le _, rfl, Lib.hid (by rw [HF0.out, HO0.out]; exact FamX.nil _ _), HA, HBP, HBQ, HBT, Lib.hid (fun j hj => absurd hj (by omega))⟩
  case round =>
    obtain ⟨k, hk, rfl, HX, HF, HP, HQ, HT, HPO⟩ := hrel
    clear HA HBP HBQ HBT
    by_cases hlt : k < Y.length
    · have hkx : (k : Int) < Y.length := by omega
      have hkq : IntKind.i64.wrap ((k : Int) + (q : Int)) = (((k + q : Nat)) : Int) := by rw [IntWalk.i64_in _ ⟨by omega, by omega⟩]; omega
      have htm : (((k + q : Nat)) : Int).tmod (Y.length : Int) = ((((k + q) % Y.length : Nat)) : Int) := by rw [Int.tmod_eq_emod_of_nonneg (by omega)]; omega
      have hml : (k + q) % Y.length < Y.length := Nat.mod_lt _ (by omega)
      obtain ⟨s, hs⟩ : ∃ s, s = (k + q) % Y.length := ⟨_, rfl⟩
      have hse : ((k : Int) + (q : Int)) % (Y.length : Int) = (s : Int) := by rw [hs, Int.natCast_emod, Int.natCast_add]
      rw [← hs] at htm hml
      have hgk : g k = if q / 8 % 2 = 1 then Y.length - 1 - s else s := by rw [HGN.out, hs]; rfl
      have hgl := HTN.out k
      have HHS := Lib.hid hs
      clear hs
      go_upto_if 33 with fail
      rw [hse]
      have HGK := Lib.hid hgk
      clear hgk
      go_cut [15] from 34 to 37 (fun s15 wx => s15 = .int .i64 (g k : Nat) ∧ wx = wr)
      case first =>
        by_cases hq8 : q / 8 % 2 = 1
        · have hq8x : (q : Int) / 8 % 2 = 1 := by omega
          have hg2 : g k = Y.length - 1 - s := by rw [HGK.out, if_pos hq8]
          have hg3 : (Y.length : Int) - 1 - (s : Int) = (g k : Int) := by omega
          have HG3 := Lib.hid hg3
          clear hg2 hg3 hq8
          go_wp2_with fail
          go_meet
          exact ⟨by rw [HG3.out], rfl⟩
        · have hq8x : ¬ (q : Int) / 8 % 2 = 1 := by omega
          have hg2 : g k = s := by rw [HGK.out, if_neg hq8]
          have HG2 := Lib.hid hg2
          clear hg2 hq8
          go_wp2_with fail
          go_meet
          exact ⟨by rw [HG2.out], rfl⟩
      case rest =>
        obtain ⟨rfl, rfl⟩ := hcut
        obtain ⟨yb', yo', e1, hyb, cy⟩ := HIN.out.y k hlt
        obtain ⟨rfl, rfl⟩ : yb = yb' ∧ yo = yo' := by injection e1 with e1; injection e1 with e2 e3; exact ⟨e2, e3⟩
        obtain ⟨tb', to', e2, htb, ct⟩ := HIN.out.t (g k) (by rw [HLT.out]; exact hgl)
        obtain ⟨rfl, rfl⟩ : tb = tb' ∧ to_ = to' := by injection e2 with e2; injection e2 with e2 e3; exact ⟨e2, e3⟩
        have hyv := HYY.out k hlt
        have HLK := Lib.hid (HLL.out k)
        obtain ⟨yv, hyve⟩ : ∃ yv, yv = nth Y k := ⟨_, rfl⟩
        obtain ⟨tv, htve⟩ : ∃ tv, tv = nth T (g k) := ⟨_, rfl⟩
        rw [← hyve] at hyv cy
        rw [← htve] at ct
        rw [← hyve, ← htve] at HLK
        clear hyve htve e1 e2 hse htm hkq hml HHS HGK
        have FD : Fut wc wc.drew := below_drewN Fut.rfl 1
        have HFU : Hid (Fut w wc.drew) := Lib.hid (HF.out.trans FD)
        have HFC := Lib.hid FD
        have keep : BoxP wc.drew w.heap.size r c sa S.length sc ∧ BoxQ wc.drew (w.heap.size + 1) (some ⟨yb, yo, none⟩) Y.length yc (some ⟨tb, to_, none⟩) T.length tc ∧ wc.drew.cell? ⟨yb, yo + k, none⟩ = some (.int .i64 yv) ∧ wc.drew.cell? ⟨tb, to_ + g k, none⟩ = some (.int .i64 tv) := ⟨HP.out.fut FD, HQ.out.fut FD, (RowKit.Below.cell HFU.out (p := ⟨yb, yo + k, none⟩) hyb).trans cy, (RowKit.Below.cell HFU.out (p := ⟨tb, to_ + g k, none⟩) htb).trans ct⟩
        have hTL : (g k : Int) < (T.length : Int) := by have := HLT.out; omega
        clear FD cy ct
        go_upto_region 10 with fail
        have keepI : ∀ W, Fut wc.drew W → BoxP W w.heap.size r c sa S.length sc ∧ BoxQ W (w.heap.size + 1) (some ⟨yb, yo, none⟩) Y.length yc (some ⟨tb, to_, none⟩) T.length tc ∧ W.cell? ⟨yb, yo + k, none⟩ = some (.int .i64 yv) ∧ W.cell? ⟨tb, to_ + g k, none⟩ = some (.int .i64 tv) := fun W F => by
          obtain ⟨a1, a2, a3, a4⟩ := keep
          have b1 : yb < wc.drew.heap.size := Nat.lt_of_lt_of_le hyb (RowKit.Below.size HFU.out)
          have b2 : tb < wc.drew.heap.size := Nat.lt_of_lt_of_le htb (RowKit.Below.size HFU.out)
          exact ⟨a1.fut F, a2.fut F, (RowKit.Below.cell F (p := ⟨yb, yo + k, none⟩) b1).trans a3, (RowKit.Below.cell F (p := ⟨tb, to_ + g k, none⟩) b2).trans a4⟩
        clear keep
        refine wp_region_held_drew (S := (fun w' => BoxP w' w.heap.size r c sa S.length sc ∧ BoxQ w' (w.heap.size + 1) (some ⟨yb, yo, none⟩) Y.length yc (some ⟨tb, to_, none⟩) T.length tc ∧ w'.cell? ⟨yb, yo + k, none⟩ = some (.int .i64 yv) ∧ w'.cell? ⟨tb, to_ + g k, none⟩ = some (.int .i64 tv))) (by kernel_rfl) ?_ (fun hHeld => ?_)
        · exact keepI _ Fut.rfl
        generalize wc.drew = u0 at *
        refine wpAnyH_take (i := 0) (oi := { dst := some 38, op := Op.load 24 (Operand.tmp 4), type := 24, pos := "outright.go:244", after := #[], guard := none }) (v := ?_) rfl (by kernel_rfl) (by kernel_rfl) (by kernel_rfl) (fun _ _ _ h => h) (Or.inl ⟨by rfl, ?_⟩) (by assumption) ?_
        rotate_left
        · (intro w hSw; (obtain ⟨⟨_, s0, s1, s2⟩, ⟨_, s3, s4⟩, s5, s6⟩ := hSw); go_simp <;> with_reducible rfl)
        try simp only [Act.put, List.setIfInBounds_toArray, List.set_cons_zero, List.set_cons_succ]
        refine wpAnyH_take (i := 1) (oi := { dst := some 39, op := Op.fieldAddr 26 (Operand.tmp 5) 0, type := 0, pos := "outright.go:244", after := #[], guard := none }) (v := ?_) rfl (by kernel_rfl) (by kernel_rfl) (by kernel_rfl) (fun _ _ _ h => h) (Or.inl ⟨by rfl, ?_⟩) (by assumption) ?_
        rotate_left
        · (intro w hSw; (obtain ⟨⟨_, s0, s1, s2⟩, ⟨_, s3, s4⟩, s5, s6⟩ := hSw); go_simp <;> with_reducible rfl)
        try simp only [Act.put, List.setIfInBounds_toArray, List.set_cons_zero, List.set_cons_succ]
        refine wpAnyH_take (i := 2) (oi := { dst := some 40, op := Op.load 22 (Operand.tmp 39), type := 22, pos := "outright.go:244", after := #[{ on := 1, ground := Ground.data }], guard := none }) (v := ?_) rfl (by kernel_rfl) (by kernel_rfl) (by kernel_rfl) (fun _ _ _ h => h) (Or.inl ⟨by rfl, ?_⟩) (by assumption) ?_
        rotate_left
        · (intro w hSw; (obtain ⟨⟨_, s0, s1, s2⟩, ⟨_, s3, s4⟩, s5, s6⟩ := hSw); go_simp <;> with_reducible rfl)
        try simp only [Act.put, List.setIfInBounds_toArray, List.set_cons_zero, List.set_cons_succ]
        refine wpAnyH_take (i := 3) (oi := { dst := some 41, op := Op.move (Operand.tmp 14), type := 3, pos := "outright.go:244", after := #[], guard := none }) (v := ?_) rfl (by kernel_rfl) (by kernel_rfl) (by kernel_rfl) (fun _ _ _ h => h) (Or.inl ⟨by rfl, ?_⟩) (by assumption) ?_
        rotate_left
        · (intro w hSw; (obtain ⟨⟨_, s0, s1, s2⟩, ⟨_, s3, s4⟩, s5, s6⟩ := hSw); go_simp <;> with_reducible rfl)
        try simp only [Act.put, List.setIfInBounds_toArray, List.set_cons_zero, List.set_cons_succ]
        refine wpAnyH_take (i := 4) (oi := { dst := some 42, op := Op.indexAddr 22 (Operand.tmp 40) (Operand.tmp 41), type := 0, pos := "outright.go:244", after := #[{ on := 2, ground := Ground.data }, { on := 3, ground := Ground.data }], guard := none }) (v := ?_) rfl (by kernel_rfl) (by kernel_rfl) (by kernel_rfl) (fun _ _ _ h => h) (Or.inl ⟨by rfl, ?_⟩) (by assumption) ?_
        rotate_left
        · (intro w hSw; (obtain ⟨⟨_, s0, s1, s2⟩, ⟨_, s3, s4⟩, s5, s6⟩ := hSw); go_simp <;> with_reducible rfl)
        try simp only [Act.put, List.setIfInBounds_toArray, List.set_cons_zero, List.set_cons_succ]
        refine wpAnyH_take (i := 5) (oi := { dst := some 43, op := Op.load 3 (Operand.tmp 42), type := 3, pos := "outright.go:244", after := #[{ on := 4, ground := Ground.data }], guard := none }) (v := ?_) rfl (by kernel_rfl) (by kernel_rfl) (by kernel_rfl) (fun _ _ _ h => h) (Or.inl ⟨by rfl, ?_⟩) (by assumption) ?_
        rotate_left
        · (intro w hSw; (obtain ⟨⟨_, s0, s1, s2⟩, ⟨_, s3, s4⟩, s5, s6⟩ := hSw); go_simp <;> with_reducible rfl)
        try simp only [Act.put, List.setIfInBounds_toArray, List.set_cons_zero, List.set_cons_succ]
        refine wpAnyH_take (i := 6) (oi := { dst := some 44, op := Op.fieldAddr 26 (Operand.tmp 5) 1, type := 0, pos := "outright.go:244", after := #[], guard := none }) (v := ?_) rfl (by kernel_rfl) (by kernel_rfl) (by kernel_rfl) (fun _ _ _ h => h) (Or.inl ⟨by rfl, ?_⟩) (by assumption) ?_
        rotate_left
        · (intro w hSw; (obtain ⟨⟨_, s0, s1, s2⟩, ⟨_, s3, s4⟩, s5, s6⟩ := hSw); go_simp <;> with_reducible rfl)
        try simp only [Act.put, List.setIfInBounds_toArray, List.set_cons_zero, List.set_cons_succ]
        refine wpAnyH_take (i := 7) (oi := { dst := some 45, op := Op.load 22 (Operand.tmp 44), type := 22, pos := "outright.go:244", after := #[{ on := 6, ground := Ground.data }], guard := none }) (v := ?_) rfl (by kernel_rfl) (by kernel_rfl) (by kernel_rfl) (fun _ _ _ h => h) (Or.inl ⟨by rfl, ?_⟩) (by assumption) ?_
        rotate_left
        · (intro w hSw; (obtain ⟨⟨_, s0, s1, s2⟩, ⟨_, s3, s4⟩, s5, s6⟩ := hSw); go_simp <;> with_reducible rfl)
        try simp only [Act.put, List.setIfInBounds_toArray, List.set_cons_zero, List.set_cons_succ]
        refine wpAnyH_take (i := 8) (oi := { dst := some 46, op := Op.move (Operand.tmp 15), type := 3, pos := "outright.go:244", after := #[], guard := none }) (v := ?_) rfl (by kernel_rfl) (by kernel_rfl) (by kernel_rfl) (fun _ _ _ h => h) (Or.inl ⟨by rfl, ?_⟩) (by assumption) ?_
        rotate_left
        · (intro w hSw; (obtain ⟨⟨_, s0, s1, s2⟩, ⟨_, s3, s4⟩, s5, s6⟩ := hSw); go_simp <;> with_reducible rfl)
        try simp only [Act.put, List.setIfInBounds_toArray, List.set_cons_zero, List.set_cons_succ]
        refine wpAnyH_take (i := 9) (oi := { dst := some 47, op := Op.indexAddr 22 (Operand.tmp 45) (Operand.tmp 46), type := 0, pos := "outright.go:244", after := #[{ on := 7, ground := Ground.data }, { on := 8, ground := Ground.data }], guard := none }) (v := ?_) rfl (by kernel_rfl) (by kernel_rfl) (by kernel_rfl) (fun _ _ _ h => h) (Or.inl ⟨by rfl, ?_⟩) (by assumption) ?_
        rotate_left
        · (intro w hSw; (obtain ⟨⟨_, s0, s1, s2⟩, ⟨_, s3, s4⟩, s5, s6⟩ := hSw); go_simp <;> with_reducible rfl)
        try simp only [Act.put, List.setIfInBounds_toArray, List.set_cons_zero, List.set_cons_succ]
        refine wpAnyH_take (i := 10) (oi := { dst := some 48, op := Op.load 3 (Operand.tmp 47), type := 3, pos := "outright.go:244", after := #[{ on := 9, ground := Ground.data }], guard := none }) (v := ?_) rfl (by kernel_rfl) (by kernel_rfl) (by kernel_rfl) (fun _ _ _ h => h) (Or.inl ⟨by rfl, ?_⟩) (by assumption) ?_
        rotate_left
        · (intro w hSw; (obtain ⟨⟨_, s0, s1, s2⟩, ⟨_, s3, s4⟩, s5, s6⟩ := hSw); go_simp <;> with_reducible rfl)
        try simp only [Act.put, List.setIfInBounds_toArray, List.set_cons_zero, List.set_cons_succ]
        refine wpAnyH_ready (rs := [11]) (by kernel_rfl) (by simp) ?_
        refine AllReadyH.cons (o := { dst := some 49, op := Op.buildSlice 22 1 #[(0, Operand.tmp 48)], type := 22, pos := "outright.go:244", after := #[{ on := 10, ground := Ground.data }], guard := none }) rfl (fun K hK => ?_) AllReadyH.nil
        go_simp
        refine hK.out _ _ ?_ (fun hHeld => ?_)
        · exact keepI _ (Fut.alloc u0 _)
        clear hK K
        try simp only [Act.put, List.setIfInBounds_toArray, List.set_cons_zero, List.set_cons_succ]
        refine wpAnyH_ready (rs := [12]) (by kernel_rfl) (by simp) ?_
        refine AllReadyH.cons (o := { dst := some 50, op := Op.call { callee := Callee.value (Operand.func 48), args := #[Operand.tmp 49], argTypes := #[22] }, type := 22, pos := "outright.go:244", after := #[{ on := 11, ground := Ground.data }], guard := none }) rfl (fun K hK => ?_) AllReadyH.nil
        go_simp
        go_at_call 48
        refine (list_id _ _).mono ?_
        rintro _ _ ⟨rfl, rfl⟩
        try go_wp2_with fail
        refine hK.out _ _ ?_ (fun hHeld => ?_)
        · exact keepI _ (Fut.alloc u0 _)
        clear hK K
        try simp only [Act.put, List.setIfInBounds_toArray, List.set_cons_zero, List.set_cons_succ]
        refine wpAnyH_ready (rs := [13]) (by kernel_rfl) (by simp) ?_
        refine AllReadyH.cons (o := { dst := some 51, op := Op.call { callee := Callee.value (Operand.func 47), args := #[Operand.tmp 38, Operand.tmp 43, Operand.tmp 50], argTypes := #[24, 3, 22] }, type := 35, pos := "outright.go:244", after := #[{ on := 0, ground := Ground.data }, { on := 5, ground := Ground.data }, { on := 12, ground := Ground.data }, { on := 12, ground := Ground.chain }], guard := none }) rfl (fun K hK => ?_) AllReadyH.nil
        go_simp
        go_at_call 47
        refine (HLW.out tv yv hyv (u0.alloc (.cells #[.int .i64 tv] 3)) (HFU.out.trans (Fut.alloc _ _)) (some ⟨u0.heap.size, 0, none⟩) 1 (one_at _ _)).mono ?_
        rintro _ w5 ⟨v5, rfl, hX5, F5⟩
        obtain ⟨l5, c5, e5, hc5, hd5, _⟩ := hX5.listsC
        rw [← HLK.out] at e5 hX5 hc5
        subst e5
        have HF5 : Hid (Fut u0 w5) := Lib.hid ((Fut.alloc u0 _).trans F5)
        have HX5 : Hid (OwnL w5 u0.heap.size (.slice l5 (lt k).length c5) (lt k)) := Lib.hid (OwnL.base hX5 (by simp))
        clear hX5 F5
        try go_wp2_with fail
        refine hK.out _ _ ?_ (fun hHeld => ?_)
        · exact keepI _ HF5.out
        clear hK K
        try simp only [Act.put, List.setIfInBounds_toArray, List.set_cons_zero, List.set_cons_succ]
        refine wpAnyH_ready (rs := [14]) (by kernel_rfl) (by simp) ?_
        refine AllReadyH.cons (o := { dst := some 16, op := Op.assign (Operand.tmp 51), type := 35, pos := "outright.go:244", after := #[{ on := 13, ground := Ground.data }, { on := 13, ground := Ground.chain }, { on := 0, ground := Ground.phase }, { on := 1, ground := Ground.phase }, { on := 2, ground := Ground.phase }, { on := 3, ground := Ground.phase }, { on := 4, ground := Ground.phase }, { on := 5, ground := Ground.phase }, { on := 6, ground := Ground.phase }, { on := 7, ground := Ground.phase }, { on := 8, ground := Ground.phase }, { on := 9, ground := Ground.phase }, { on := 10, ground := Ground.phase }, { on := 11, ground := Ground.phase }, { on := 12, ground := Ground.phase }, { on := 13, ground := Ground.phase }], guard := none }) rfl (fun K hK => ?_) AllReadyH.nil
        go_simp
        refine hK.out _ _ ?_ (fun hHeld => ?_)
        · exact keepI _ HF5.out
        clear hK K
        try simp only [Act.put, List.setIfInBounds_toArray, List.set_cons_zero, List.set_cons_succ]
        refine wpAnyH_done (by kernel_rfl) ?_ _
        skip
        have HF6 := Lib.hid (HFU.out.trans HF5.out)
        have HFc6 := Lib.hid (HFC.out.trans HF5.out)
        have HX6 := Lib.hid (HX.out.fut HFc6.out)
        have HP6 := Lib.hid (HP.out.fut HFc6.out)
        have HQ6 := Lib.hid (HQ.out.fut HFc6.out)
        have HT6 := Lib.hid (HT.out.fut HFc6.out)
        have HZ : Hid (∀ q, u11.ownBlock = some q → q < u0.heap.size) := Lib.hid (fun q hq => Nat.lt_of_lt_of_le (World.ownsRow.lt HX.out.o q hq).2 (RowKit.Below.size HFC.out))
        have HZ0 : Hid (w.heap.size + 3 ≤ u0.heap.size) := Lib.hid (Nat.le_trans (show w.heap.size + 3 ≤ wc.heap.size from HT.out.lt) (RowKit.Below.size HFC.out))
        clear hHeld keepI HX HF HP HQ HT HF5 HFC HFU HFc6 hyb htb
        obtain ⟨V, hV⟩ : ∃ V, V = (lt k).length := ⟨_, rfl⟩
        rw [← hV] at hc5 ⊢
        have HXV := Lib.hid hV
        clear hV
        by_cases hV0 : V = 0
        · have hVx : (V : Int) = 0 := by omega
          clear hc5 hd5
          go_wp2_with fail
          go_ret3
          exact ⟨_, _, false, rfl, HF6.out, fun h => by cases h⟩
        · have hVx : ¬ (V : Int) = 0 := by omega
          have hb3 : w5.cell? ⟨w.heap.size + 1 + 1, k, none⟩ = some (.int .u8 (b k : Nat)) := HT6.out.b k (by omega)
          have hbk := HBB.out k
          have hkx3 : (k : Int) < 3 := by omega
          obtain ⟨bb, hbb⟩ : ∃ bb, bb = b k := ⟨_, rfl⟩
          rw [← hbb] at hb3 hbk
          obtain ⟨j, hj⟩ : ∃ j, j = bb % V := ⟨_, rfl⟩
          have hjV : j < V := by rw [hj]; exact Nat.mod_lt _ (by omega)
          have hjx : (j : Int) < V := by omega
          have hje : (bb : Int) % (V : Int) = (j : Int) := by rw [hj, Int.natCast_emod]
          have hwb : IntKind.i64.wrap ((bb : Nat) : Int) = ((bb : Nat) : Int) := IntWalk.i64_in _ ⟨by omega, by omega⟩
          have hbx : (bb : Int) ≤ 255 := by omega
          have hVm : (V : Int) ≤ 9223372036854775807 := by omega
          have HPJ : Hid (pk k = lth (lt k) j) := Lib.hid (by rw [HPK.out, hj, hbb, HXV.out])
          obtain ⟨g5, cc5, la, lac, e5, hg5, hl5, ho5⟩ := HX5.out.at j (by rw [← HXV.out]; exact hjV)
          simp only [Value.slice.injEq, true_and] at e5
          obtain ⟨rfl, rfl⟩ := e5
          rw [← HPJ.out] at hl5 ho5
          have HO5 := Lib.hid ho5
          clear hj hbb ho5 HX5 HPJ
          obtain ⟨⟨vals, hr, hE, hap⟩, ho⟩ := HX6.out
          rw [HFL.out k] at hr
          obtain ⟨fa, fc, rfl⟩ := row_form hr
          obtain ⟨oa, oc, e7, _, _, _⟩ := ho.form
          rw [HOL.out k] at e7
          subst e7
          obtain ⟨N, hN⟩ : ∃ N, N = (pk k).length := ⟨_, rfl⟩
          rw [← hN] at hl5 HO5
          have HNN := Lib.hid hN
          clear hN
          have FA : Fut w5 (w5.alloc (.cells #[.slice la N lac] 22)) := Fut.alloc _ _
          have HRW := Lib.hid (row_fut hr FA)
          have HEL := Lib.hid (hE.fut FA)
          have HAP := Lib.hid hap
          have HOW := Lib.hid (ho.fut FA)
          have HXA : Hid ((Value.slice la N lac).ownBlock = none ∨ (Value.slice la N lac).ownBlock ≠ (Value.slice oa k oc).ownBlock) := Lib.hid (by
            rcases hq : (Value.slice la N lac).ownBlock with _ | q
            · exact .inl rfl
            · refine .inr fun e => ?_
              have h1 := (World.ownsRow.lt HO5.out q hq).1
              have h2 := HZ.out q e.symm
              omega)
          have HFA := Lib.hid (HF6.out.trans FA)
          have HZA : Hid (w.heap.size + 3 ≤ (w5.alloc (.cells #[.slice la N lac] 22)).heap.size) := Lib.hid (Nat.le_trans HT6.out.lt (RowKit.Below.size FA))
          clear hr hE hap ho HX6 HZ
          go_wp2_with (at_builtin; refine wpList_append_lies _ rfl _ _ 35 rfl (w.heap.size + 3) 22 i1 (.slice none 0 0) 1 24 Try.underlying35 hi1 hy0 hy1' hy2 rfl (by decide) _ k vals rfl HRW.out ⟨w5.heap.size, 0, none⟩ 1 1 [.slice la N lac] rfl rfl (cell_one (by simp [go_sem])) (by simp [Value.oneCell']) (by omega) (by unfold maxLen; omega) (by omega) HZA.out _ rfl ?_)
          intro g8 c8 w8 hown8 hgrow8 hat8 _
          have HX8 := Lib.hid (FamX.addF HRW.out HEL.out HAP.out HOW.out ((Owns.base HO5.out HZ0.out).fut FA) HXA.out (HFL.out k) hown8 hgrow8)
          have hne : ∀ B, B < w.heap.size + 3 → (Value.slice fa k fc).ownBlock ≠ some B := fun B hB e => by have := (World.ownsRow.lt HRW.out B e).1; omega
          have HP8 := Lib.hid ((HP6.out.fut FA).kept hgrow8 (hne _ (by omega)))
          have HQ8 := Lib.hid ((HQ6.out.fut FA).kept hgrow8 (hne _ (by omega)))
          have HT8 := Lib.hid ((HT6.out.fut FA).kept hgrow8 (hne _ (by omega)))
          have HF8 : Hid (Fut w w8) := Lib.hid (RowKit.Below.grown HFA.out hgrow8 (RowKit.Below.size HFA.out) fun q hq => by have := (World.ownsRow.lt HRW.out q hq).1; omega)
          have FB : Fut w8 (w8.alloc (.cells #[.int .i64 (g k : Nat)] 3)) := Fut.alloc _ _
          have HX8' := Lib.hid (HX8.out.fut FB)
          have HOW8 : Hid ((w8.alloc (.cells #[.int .i64 (g k : Nat)] 3)).ownsRow (w.heap.size + 3) 3 1 (.slice oa k oc) k ((om k).map (Value.int .i64))) := Lib.hid (by
            have h := HX8'.out.o
            unfold Owns at h
            rwa [HOL.out k] at h)
          have HFB := Lib.hid (HF8.out.trans FB)
          have HZB : Hid (w.heap.size + 3 ≤ (w8.alloc (.cells #[.int .i64 (g k : Nat)] 3)).heap.size) := Lib.hid (Nat.le_trans HT8.out.lt (RowKit.Below.size FB))
          have HPO9 : Hid (∀ j, j < k + 1 → 0 < (lt j).length) := Lib.hid (fun j hj => by
            rcases (by omega : j < k ∨ j = k) with h | rfl
            · exact HPO.out j h
            · rw [← HXV.out]; omega)
          clear hown8 hgrow8 hat8 hne FA HRW HEL HAP HOW HXA HFA HZA HO5 HP6 HQ6 HT6 hl5 hb3 HX8 HF6 HPO
          go_wp2_with (at_builtin; refine wpList_append_lies _ rfl _ _ 22 rfl (w.heap.size + 3) 3 i0 (.int .i64 0) 1 8 Try.underlying22 hi0 hz0 hz1 hz2 rfl (by decide) _ k ((om k).map (Value.int .i64)) rfl HOW8.out ⟨w8.heap.size, 0, none⟩ 1 1 [.int .i64 (g k : Nat)] rfl rfl (cell_one (by simp [go_sem])) (by simp [Value.oneCell']) (by omega) (by unfold maxLen; omega) (by omega) HZB.out _ rfl ?_)
          intro g9 c9 w9 hown9 hgrow9 hat9 _
          have hX9 : FamX w9 (w.heap.size + 3) (.slice (some ⟨g8, 0, none⟩) (k + 1) c8) (.slice (some ⟨g9, 0, none⟩) (k + 1) c9) (fm k ++ [pk k]) (om k ++ [(g k : Int)]) := HX8'.out.addO (g := g9) (by
            unfold Owns
            rw [List.length_append, HOL.out k, List.map_append]
            exact hown9) rfl hgrow9 (by simpa using hat9)
          rw [← HFS.out k, ← HOS.out k] at hX9
          have HX9 := Lib.hid hX9
          have hne : ∀ B, B < w.heap.size + 3 → (Value.slice oa k oc).ownBlock ≠ some B := fun B hB e => by have := (World.ownsRow.lt HOW8.out B e).1; omega
          have HP9 := Lib.hid ((HP8.out.fut FB).kept hgrow9 (hne _ (by omega)))
          have HQ9 := Lib.hid ((HQ8.out.fut FB).kept hgrow9 (hne _ (by omega)))
          have HT9 := Lib.hid ((HT8.out.fut FB).kept hgrow9 (hne _ (by omega)))
          have HF9 : Hid (Fut w w9) := Lib.hid (RowKit.Below.grown HFB.out hgrow9 (RowKit.Below.size HFB.out) fun q hq => by have := (World.ownsRow.lt HOW8.out q hq).1; omega)
          clear hX9 hown9 hgrow9 hat9 hne FB HX8' HOW8 HFB HZB HP8 HQ8 HT8 HF8
          go_wp2
          go_roundw
          case rel => exact ⟨k + 1, by omega, by go_num, HX9, HF9, HP9, HQ9, HT9, HPO9⟩
          case measure => simp [intOf]; omega
    · obtain rfl : k = Y.length := by omega
      go_wp2_with fail
      go_wp2
      go_ret3
      exact ⟨_, _, true, rfl, HF.out, fun _ => ⟨HX.out, HPO.out⟩⟩
end Go.Proofs.Ytflllkamdihfaaa
