/- Layer 3: fill, the search of a full plan. -/
import Derived.Test.YtpgifeaejjjjnaaBI
namespace Go.Proofs.Ytpgifeaejjjjnaa
open Go.RowKit Go.Sort
/-- a board, one place of it turned. -/
def upd (f : Nat → Nat → Int) (a b : Nat) (x : Int) : Nat → Nat → Int := fun i j => if i = a ∧ j = b then x else f i j
/-- the places from p on filled, the smallest streets first, m of them. -/
def fillF (n : Nat) : Nat → Nat → (Nat → Nat → Int) → Option (Nat → Nat → Int)
  | 0, _, f => some f
  | m + 1, p, f => if f (p / n) (p % n) = -1 then (List.range n).findSome? (fun (s : Nat) => if fitB n f (p / n) (p % n) (s : Int) = true then fillF n m (p + 1) (upd f (p / n) (p % n) (s : Int)) else none) else fillF n m (p + 1) f
theorem fit_upd {n : Nat} {f : Nat → Nat → Int} {k d : Nat} {x s : Int} (h0 : f k d ≠ s) (hx : x ≠ s) : fitB n (upd f k d x) k d s = fitB n f k d s := by
  unfold fitB
  rw [decide_eq_decide]
  constructor
  · intro h i hi
    obtain ⟨h1, h2⟩ := h i hi
    unfold upd at h1 h2
    refine ⟨?_, ?_⟩
    · by_cases e : i = d
      · subst e; exact h0
      · rw [if_neg (fun q => e q.2)] at h1; exact h1
    · by_cases e : i = k
      · subst e; exact h0
      · rw [if_neg (fun q => e q.1)] at h2; exact h2
  · intro h i hi
    obtain ⟨h1, h2⟩ := h i hi
    unfold upd
    refine ⟨?_, ?_⟩
    · by_cases e : i = d
      · rw [if_pos ⟨rfl, e⟩]; exact hx
      · rw [if_neg (fun q => e q.2)]; exact h1
    · by_cases e : i = k
      · rw [if_pos ⟨e, rfl⟩]; exact hx
      · rw [if_neg (fun q => e q.1)]; exact h2
theorem fs_none {α : Type} {f : Nat → Option α} : ∀ {m : Nat}, (∀ j, j < m → f j = none) → (List.range m).findSome? f = none := fun {m} h => by
  rw [List.findSome?_eq_none_iff]
  intro j hj
  exact h j (List.mem_range.1 hj)
theorem fs_at {α : Type} {f : Nat → Option α} {i m : Nat} {v : α} (h : ∀ j, j < i → f j = none) (hi : f i = some v) (hm : i < m) : (List.range m).findSome? f = some v := by
  obtain ⟨d, rfl⟩ : ∃ d, m = i + 1 + d := ⟨m - (i + 1), by omega⟩
  induction d with
  | zero => rw [Nat.add_zero, List.range_succ, List.findSome?_append, fs_none h]; simp [hi]
  | succ d ih => rw [show i + 1 + (d + 1) = i + 1 + d + 1 by omega, List.range_succ, List.findSome?_append, ih (by omega)]; rfl
abbrev FillP (n B g : Nat) (bl : Nat → Nat) (r : Option (Nat → Nat → Int)) (f : Nat → Nat → Int) (w : World) (e : Ending) (w' : World) : Prop :=
  e = .returned (.bool r.isSome) ∧ Grid w' B g n n bl n (r.getD f) ∧ RowKit.Below g w w'
set_option maxRecDepth 100000 in
set_option maxHeartbeats 4000000 in
theorem fill_any (n : Nat) (h1 : 1 ≤ n) (h5 : n ≤ 5) (B g : Nat) (bl : Nat → Nat) : ∀ (m p : Nat) (f : Nat → Nat → Int) (w : World), p + m = n * n → Grid w B g n n bl n f →
    Calls Try.prog 120 #[.slice (some ⟨g, 0, none⟩) n n, .int .i64 p] w (FillP n B g bl (fillF n m p f) f w) := by
  intro m
  induction m with
  | zero =>
    intro p f w hp h
    have hpx : (p : Int) = (n : Int) * n := by rw [← Int.natCast_mul]; omega
    have hH := Lib.hid h
    have hnn : (n : Int) * n ≤ 25 := by have : n * n ≤ 5 * 5 := Nat.mul_le_mul h5 h5; rw [← Int.natCast_mul]; omega
    have hn0 : 0 ≤ (n : Int) * n := by rw [← Int.natCast_mul]; omega
    clear h hp
    unfold fillF
    generalize hP : (p : Int) = P at *
    subst hpx
    have hw1 : IntKind.i64.wrap ((n : Int) * n) = (n : Int) * n := IntWalk.i64_in _ ⟨by omega, by omega⟩
    go_enter Try.func120, Try.ntmps120
    go_wp2
    go_ret
    exact ⟨rfl, hH.out, RowKit.Below.refl _ _⟩
  | succ m ih =>
    intro p f w hp h
    have IH := Lib.hid ih
    have H := Lib.hid h
    have hpn : p < n * n := by omega
    have hk : p / n < n := Nat.div_lt_of_lt_mul hpn
    have hd : p % n < n := Nat.mod_lt _ (by omega)
    have hq : (p : Int).tdiv (n : Int) = ((p / n : Nat) : Int) := by rw [Int.tdiv_eq_ediv_of_nonneg (by omega), Int.natCast_ediv]
    have hr : (p : Int).tmod (n : Int) = ((p % n : Nat) : Int) := by rw [Int.tmod_eq_emod_of_nonneg (by omega), Int.natCast_emod]
    have hnn : n * n ≤ 5 * 5 := Nat.mul_le_mul h5 h5
    have hpx : ¬ (p : Int) = (n : Int) * n := by rw [← Int.natCast_mul]; omega
    have hpb : ((p : Int) == (n : Int) * n) = false := by rw [beq_eq_false_iff_ne]; exact hpx
    have hnc : (n : Int) * n ≤ 25 := by rw [← Int.natCast_mul]; omega
    have hnc0 : 0 ≤ (n : Int) * n := by rw [← Int.natCast_mul]; omega
    have hw1 : IntKind.i64.wrap ((n : Int) * n) = (n : Int) * n := IntWalk.i64_in _ ⟨by omega, by omega⟩
    have hp25 : p < 25 := by omega
    have hn1 : ¬ n = 0 := by omega
    have hn2 : ¬ (n : Int) = 0 := by omega
    have hn3 : ((n : Int) == 0) = false := by rw [beq_eq_false_iff_ne]; exact hn2
    clear ih h
    have hF : fillF n (m + 1) p f = if f (p / n) (p % n) = -1 then (List.range n).findSome? (fun (s : Nat) => if fitB n f (p / n) (p % n) (s : Int) = true then fillF n m (p + 1) (upd f (p / n) (p % n) (s : Int)) else none) else fillF n m (p + 1) f := rfl
    generalize fillF n (m + 1) p f = R at *
    generalize hkk : p / n = k at *
    generalize hdd : p % n = d at *
    have hk25 : k < 5 := by omega
    have hd25 : d < 5 := by omega
    have hwk : IntKind.i64.wrap (k : Int) = k := IntWalk.i64_in _ ⟨by omega, by omega⟩
    have hwd : IntKind.i64.wrap (d : Int) = d := IntWalk.i64_in _ ⟨by omega, by omega⟩
    have hkx : (k : Int) < n := by omega
    have hdx : (d : Int) < n := by omega
    have hnx : (n : Int) ≤ 5 := by omega
    clear hkk hdd hpn hpx
    have c1 := H.out.cell hk hk
    have c2 := H.out.at hk hd
    by_cases hz : f k d = -1
    · rw [if_pos hz] at hF
      rw [hz] at c2
      have HR := Lib.hid hF
      have HZ := Lib.hid hz
      clear hF hz
      have hm1 : ((-1 : Int) != -1) = false := by decide
      go_enter Try.func120, Try.ntmps120
      go_upto_region 3 with fail
      go_quiet (fail)
      have HG := Lib.hid (H.out.fut (Fut.drewN w nq))
      have HB : Hid (RowKit.Below g w (w.drewN nq)) := Lib.hid (below_drewN (RowKit.Below.refl _ _) nq)
      clear c1 c2
      generalize w.drewN nq = w2 at *
      have c3 := HG.out.cell hk hk
      have c4 := HG.out.at hk hd
      rw [HZ.out] at c4
      go_wp2_with fail
      clear c3 c4
      obtain ⟨Q, hQ⟩ : ∃ Q : Nat → Option (Nat → Nat → Int), Q = fun (s : Nat) => if fitB n f k d (s : Int) = true then fillF n m (p + 1) (upd f k d (s : Int)) else none := ⟨_, rfl⟩
      rw [← hQ] at HR
      have HQ := Lib.hid (fun s => congrFun hQ s)
      clear hQ
      go_loopw [37] (fun iv wr => ∃ (s : Nat) (fc : Nat → Nat → Int), s ≤ n ∧ iv = .int .i64 s ∧ Hid (Grid wr B g n n bl n fc) ∧ Hid (RowKit.Below g w wr) ∧ Hid (∀ j, j < s → Q j = none) ∧ Hid (fc = f ∨ ∃ x, x < s ∧ fc = upd f k d (x : Int))) (fun iv _ => n - (intOf iv).toNat)
      case atStart => exact ⟨0, f, Nat.zero_le _, rfl, HG, HB, Lib.hid (fun j hj => absurd hj (Nat.not_lt_zero j)), Lib.hid (Or.inl rfl)⟩
      case round =>
        obtain ⟨s, fc, hs, rfl, HGs, HBs, HNs, HFs⟩ := hrel
        by_cases hlt : s < n
        · have hsx : (s : Int) < n := by omega
          have HFT := Lib.hid (fits_any HGs.out (by omega) k d hk hd (s : Int))
          have hfe : fitB n fc k d (s : Int) = fitB n f k d (s : Int) := by
            rcases HFs.out with e | ⟨x, hx, e⟩
            · rw [e]
            · rw [e]; exact fit_upd (by rw [HZ.out]; omega) (by omega)
          rw [hfe] at HFT
          have HQs := Lib.hid (HQ.out s)
          clear hfe
          cases hft : fitB n f k d (s : Int)
          · rw [hft] at HFT HQs
            simp only [Bool.false_eq_true, if_false] at HQs
            clear hft
            go_wp2_with fail
            refine HFT.out.mono ?_
            rintro _ _ ⟨rfl, rfl⟩
            have HN2 : Hid (∀ j, j < s + 1 → Q j = none) := Lib.hid (fun j hj => by
              rcases Nat.lt_or_ge j s with q | q
              · exact HNs.out j q
              · obtain rfl : j = s := by omega
                exact HQs.out)
            have HF2 : Hid (fc = f ∨ ∃ x, x < s + 1 ∧ fc = upd f k d (x : Int)) := Lib.hid (by
              rcases HFs.out with e | ⟨x, hx, e⟩
              · exact Or.inl e
              · exact Or.inr ⟨x, by omega, e⟩)
            go_wp2
            go_round
            case rel => exact ⟨s + 1, fc, by omega, by go_num, HGs, HBs, HN2, HF2⟩
            case measure => simp [intOf]; omega
          · rw [hft] at HFT HQs
            simp only [if_true] at HQs
            clear hft
            go_wp2_with fail
            refine HFT.out.mono ?_
            rintro _ _ ⟨rfl, rfl⟩
            have c3 := HGs.out.cell hk hk
            have c4 := HGs.out.at hk hd
            have c5 : wr.frozen? ⟨bl k, d, none⟩ = false := (HGs.out.inner k hk).frozen d
            have hgb : g ≤ bl k := by have := HGs.out.above k hk; omega
            have HG4 : Hid (Grid (wr.setCell ⟨bl k, d, none⟩ (.int .i64 s)) B g n n bl n (upd f k d (s : Int))) := Lib.hid ((HGs.out.put hk d (s : Int)).congr fun i j _ _ => by
              unfold upd
              by_cases e : i = k ∧ j = d
              · rw [if_pos e, if_pos e]
              · rw [if_neg e, if_neg e]
                rcases HFs.out with q | ⟨x, hx, q⟩
                · rw [q]
                · rw [q]; unfold upd; rw [if_neg e])
            have HB4 : Hid (RowKit.Below g w (wr.setCell ⟨bl k, d, none⟩ (.int .i64 s))) := Lib.hid (HBs.out.setCell hgb _)
            go_wp2_with fail
            generalize wr.setCell ⟨bl k, d, none⟩ (.int .i64 s) = w4 at *
            refine (IH.out (p + 1) (upd f k d (s : Int)) w4 (by omega) HG4.out).mono ?_
            rintro _ w5 ⟨rfl, hG, hB⟩
            have HG5 := Lib.hid hG
            have HB5 := Lib.hid (HB4.out.trans hB)
            clear hG hB c3 c4 c5
            generalize fillF n m (p + 1) (upd f k d (s : Int)) = r at *
            cases r with
            | some v =>
              have hR : R = some v := by rw [HR.out]; exact fs_at HNs.out HQs.out hlt
              subst hR
              go_wp2
              go_ret
              exact ⟨rfl, HG5.out, HB5.out⟩
            | none =>
              have HN2 : Hid (∀ j, j < s + 1 → Q j = none) := Lib.hid (fun j hj => by
                rcases Nat.lt_or_ge j s with q | q
                · exact HNs.out j q
                · obtain rfl : j = s := by omega
                  exact HQs.out)
              go_wp2
              go_round
              case rel => exact ⟨s + 1, upd f k d (s : Int), by omega, by go_num, HG5, HB5, HN2, Lib.hid (Or.inr ⟨s, by omega, rfl⟩)⟩
              case measure => simp [intOf]; omega
        · obtain rfl : s = n := by omega
          have hR : R = none := by rw [HR.out]; exact fs_none HNs.out
          subst hR
          have c3 := HGs.out.cell hk hk
          have c4 := HGs.out.at hk hd
          have c5 : wr.frozen? ⟨bl k, d, none⟩ = false := (HGs.out.inner k hk).frozen d
          have hgb : g ≤ bl k := by have := HGs.out.above k hk; omega
          have HG4 : Hid (Grid (wr.setCell ⟨bl k, d, none⟩ (.int .i64 (-1))) B g s s bl s f) := Lib.hid ((HGs.out.put hk d (-1)).congr fun i j _ _ => by
            by_cases e : i = k ∧ j = d
            · rw [if_pos e, e.1, e.2]; exact HZ.out.symm
            · rw [if_neg e]
              rcases HFs.out with q | ⟨x, hx, q⟩
              · rw [q]
              · rw [q]; unfold upd; rw [if_neg e])
          have HB4 : Hid (RowKit.Below g w (wr.setCell ⟨bl k, d, none⟩ (.int .i64 (-1)))) := Lib.hid (HBs.out.setCell hgb _)
          go_wp2
          go_ret
          exact ⟨rfl, HG4.out, HB4.out⟩
    · rw [if_neg hz] at hF
      subst hF
      have hzb : (f k d != -1) = true := by rw [bne_iff_ne]; exact hz
      have HI := Lib.hid (fun W h => IH.out (p + 1) f W (by omega) h)
      generalize hfz : f k d = z at *
      have HFZ := Lib.hid hfz
      clear hfz
      go_enter Try.func120, Try.ntmps120
      go_upto_region 3 with fail
      go_quiet (fail)
      have HG := Lib.hid (H.out.fut (Fut.drewN w nq))
      have HB : Hid (RowKit.Below g w (w.drewN nq)) := Lib.hid (below_drewN (RowKit.Below.refl _ _) nq)
      clear c1 c2
      generalize w.drewN nq = w2 at *
      have c3 := HG.out.cell hk hk
      have c4 := HG.out.at hk hd
      rw [HFZ.out] at c4
      go_wp2_with fail
      refine (HI.out w2 HG.out).mono ?_
      rintro _ w3 ⟨rfl, hG, hB⟩
      have HG3 := Lib.hid hG
      have HB3 := Lib.hid (HB.out.trans hB)
      clear hG hB c3 c4
      go_wp2
      go_ret
      exact ⟨rfl, HG3.out, HB3.out⟩
end Go.Proofs.Ytpgifeaejjjjnaa
