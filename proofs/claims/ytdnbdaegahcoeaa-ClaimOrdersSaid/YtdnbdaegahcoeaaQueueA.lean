/- Layer 1: orders, one after another. -/
import Derived.Test.YtdnbdaegahcoeaaRowNA
import Derived.Test.YtdnbdaegahcoeaaGarmB
namespace Go.Proofs.Ytdnbdaegahcoeaa
open Go.RowKit Go.Sort
def IxPost (zs : List Int) (v : Int) (w : World) (e : Ending) (w' : World) : Prop := ∃ r : Int, e = .returned (.int .i64 r) ∧ (0 ≤ r ↔ v ∈ zs) ∧ w = w'
theorem mem_nth (zs : List Int) (v : Int) : v ∈ zs ↔ ∃ k, k < zs.length ∧ nth zs k = v := by
  constructor
  · intro h
    obtain ⟨k, hk, e⟩ := List.mem_iff_getElem.1 h
    exact ⟨k, hk, by rw [nth_eq, List.getElem?_eq_getElem hk]; exact e⟩
  · rintro ⟨k, hk, e⟩
    rw [nth_eq, List.getElem?_eq_getElem hk] at e
    exact List.mem_iff_getElem.2 ⟨k, hk, e⟩
theorem index_any (a : Option Addr) (cap : Nat) (zs : List Int) (v : Int) (w : World) (hl : zs.length ≤ 1000) (hA : IntsAt w a zs) : Calls Try.prog 80 #[.slice a zs.length cap, .int .i64 v] w (IxPost zs v w) := by
  have HM := Lib.hid (mem_nth zs v)
  go_enter Try.func80, Try.ntmps80
  go_wp2
  go_loop [8] (fun i => ∃ k : Nat, k ≤ zs.length ∧ i = .int .i64 k ∧ ∀ j, j < k → nth zs j ≠ v) (fun i => zs.length - (intOf i).toNat)
  case atStart => exact ⟨0, Nat.zero_le _, rfl, fun j hj => absurd hj (by omega)⟩
  case round =>
    obtain ⟨k, hk, rfl, hne⟩ := hrel
    have HN := Lib.hid hne
    clear hne
    by_cases hlt : k < zs.length
    · obtain ⟨b, off, rfl, hb, hcell⟩ := hA k hlt
      have hkx : (k : Int) < zs.length := by omega
      by_cases he : nth zs k = v
      · have hmem : v ∈ zs := HM.out.2 ⟨k, hlt, he⟩
        have HMM := Lib.hid hmem
        have e1 : (v == nth zs k) = true := by rw [beq_iff_eq]; exact he.symm
        clear hA he hmem
        generalize nth zs k = y at *
        go_wp2
        go_ret
        exact ⟨_, rfl, ⟨fun _ => HMM.out, fun _ => by omega⟩, rfl⟩
      · have e1 : (v == nth zs k) = false := by rw [beq_eq_false_iff_ne]; exact fun h => he h.symm
        have HN2 : Hid (∀ j, j < k + 1 → nth zs j ≠ v) := Lib.hid fun j hj => by
          by_cases e : j = k
          · rw [e]; exact he
          · exact HN.out j (by omega)
        clear hA he
        generalize nth zs k = y at *
        go_wp2
        go_round
        case rel => exact ⟨k + 1, by omega, by go_num, HN2.out⟩
        case measure => simp [intOf]; omega
    · obtain rfl : k = zs.length := by omega
      have hno : Hid (¬ v ∈ zs) := Lib.hid fun h => by
        obtain ⟨j, hj, e⟩ := HM.out.1 h
        exact HN.out j hj e
      clear hA
      go_wp2
      go_ret
      exact ⟨_, rfl, ⟨fun h => absurd h (by decide), fun h => absurd h hno.out⟩, rfl⟩
theorem has_yes (a : Option Addr) (cap : Nat) (zs : List Int) (v : Int) (w : World) (hl : zs.length ≤ 1000) (hA : IntsAt w a zs) (hv : v ∈ zs) : Calls Try.prog 52 #[.slice a zs.length cap, .int .i64 v] w fun e w' => e = .returned (.bool true) ∧ w = w' := by
  have HI := Lib.hid (index_any a cap zs v w hl hA)
  have HV := Lib.hid hv
  clear hA hv
  go_enter Try.func52, Try.ntmps52
  go_wp2_with fail
  refine HI.out.mono ?_
  rintro _ _ ⟨r, rfl, hr, rfl⟩
  have h0 : 0 ≤ r := hr.2 HV.out
  clear hr
  go_wp2
  go_ret
  exact ⟨ret_bool (by first | (simp; done) | (simp; omega)), rfl⟩
theorem has_no (a : Option Addr) (cap : Nat) (zs : List Int) (v : Int) (w : World) (hl : zs.length ≤ 1000) (hA : IntsAt w a zs) (hv : ¬ v ∈ zs) : Calls Try.prog 52 #[.slice a zs.length cap, .int .i64 v] w fun e w' => e = .returned (.bool false) ∧ w = w' := by
  have HI := Lib.hid (index_any a cap zs v w hl hA)
  have HV := Lib.hid hv
  clear hA hv
  go_enter Try.func52, Try.ntmps52
  go_wp2_with fail
  refine HI.out.mono ?_
  rintro _ _ ⟨r, rfl, hr, rfl⟩
  have h0 : ¬ 0 ≤ r := fun h => HV.out (hr.1 h)
  clear hr
  go_wp2
  go_ret
  exact ⟨ret_bool (by first | (simp; done) | (simp; omega)), rfl⟩
theorem val_mem (os : List (Fin 5)) (d : Fin 5) : (d.val : Int) ∈ valL os ↔ d ∈ os := by
  unfold valL
  rw [List.mem_map]
  constructor
  · rintro ⟨c, hc, e⟩
    have : c = d := Fin.ext (by omega)
    exact this ▸ hc
  · intro h; exact ⟨d, h, rfl⟩
/-- all orders that begin with some, of r houses more. -/
def ext (n : Nat) : Nat → List (Fin 5) → List (List (Fin 5))
  | 0, os => [os]
  | r + 1, os => (idxL n).flatMap fun d => if d ∈ os then [] else ext n r (os ++ [d])
def extK (n r : Nat) (os : List (Fin 5)) (k : Nat) : List (List (Fin 5)) := ((idxL n).take k).flatMap fun d => if d ∈ os then [] else ext n r (os ++ [d])
theorem idx_take (n : Nat) (hn : n ≤ 5) (k : Nat) (hk : k < n) : (idxL n).take (k + 1) = (idxL n).take k ++ [⟨k, by omega⟩] := by
  have : ∀ (n : Fin 6) (k : Fin 5), k.val < n.val → (idxL n.val).take (k.val + 1) = (idxL n.val).take k.val ++ [k] := by decide
  exact this ⟨n, by omega⟩ ⟨k, by omega⟩ hk
theorem extK_succ (n r : Nat) (os : List (Fin 5)) (k : Nat) (hn : n ≤ 5) (hk : k < n) : extK n r os (k + 1) = extK n r os k ++ (if (⟨k, by omega⟩ : Fin 5) ∈ os then [] else ext n r (os ++ [⟨k, by omega⟩])) := by
  unfold extK
  rw [idx_take n hn k hk, List.flatMap_append]
  simp
theorem extK_all (n r : Nat) (os : List (Fin 5)) (hn : n ≤ 5) : extK n r os n = ext n (r + 1) os := by
  unfold extK
  rw [List.take_of_length_le (by rw [idxL_length _ hn]; exact Nat.le_refl _)]
  rfl
theorem flat_len {α β : Type} (f : α → List β) (M : Nat) : ∀ l : List α, (∀ x ∈ l, (f x).length ≤ M) → (l.flatMap f).length ≤ l.length * M
  | [], _ => by simp
  | x :: l, h => by
    have h1 := flat_len f M l (fun y hy => h y (List.mem_cons_of_mem _ hy))
    have h2 := h x (List.mem_cons_self ..)
    rw [List.flatMap_cons, List.length_append, List.length_cons, Nat.succ_mul]
    omega
theorem ext_len (n : Nat) (hn : n ≤ 5) : ∀ r os, (ext n r os).length ≤ 5 ^ r
  | 0, os => by simp [ext]
  | r + 1, os => by
    unfold ext
    refine Nat.le_trans (flat_len _ (5 ^ r) _ (fun d _ => ?_)) ?_
    · split
      · simp
      · exact ext_len n hn r _
    · rw [idxL_length _ hn, Nat.pow_succ, Nat.mul_comm]
      exact Nat.mul_le_mul_left _ hn
theorem extK_len (n : Nat) (hn : n ≤ 5) (r k : Nat) (os : List (Fin 5)) (_hk : k ≤ n) : (extK n r os k).length ≤ k * 5 ^ r := by
  unfold extK
  refine Nat.le_trans (flat_len _ (5 ^ r) _ (fun d _ => ?_)) ?_
  · split
    · simp
    · exact ext_len n hn r _
  · exact Nat.mul_le_mul_right _ (by rw [List.length_take]; omega)
theorem ext_vis : ∀ n : Fin 6, (ext n.val n.val []).Perm (vis n.val (idxL n.val) 0) := by decide +kernel
/-- what is left behind an order. -/
def rst (m : Fin 5 → Int) : List (Fin 5) → Int → Int
  | [], x => x
  | i :: o, x => rst m o (x - min (m i) x)
theorem inF_snoc (m : Fin 5 → Int) (d : Fin 5) : ∀ (o : List (Fin 5)) (x : Int) (g : Fin 5 → Int), inF m (o ++ [d]) x g = upd (inF m o x g) d (min (m d) (rst m o x))
  | [], _, _ => rfl
  | i :: o, x, g => by
    show inF m (o ++ [d]) _ _ = _
    rw [inF_snoc m d o]; rfl
theorem rst_snoc (m : Fin 5 → Int) (d : Fin 5) : ∀ (o : List (Fin 5)) (x : Int), rst m (o ++ [d]) x = rst m o x - min (m d) (rst m o x)
  | [], _ => rfl
  | i :: o, x => by
    show rst m (o ++ [d]) _ = _
    rw [rst_snoc m d o]; rfl
theorem list5_set (f : Fin 5 → Int) (n : Nat) (hn : n ≤ 5) (d : Fin 5) (hd : d.val < n) (v : Int) : ((list5 f).take n).set d.val v = (list5 (upd f d v)).take n := by
  refine nth_ext _ _ (by rw [List.length_set, list5_len _ _ hn, list5_len _ _ hn]) fun i hi => ?_
  rw [List.length_set, list5_len _ _ hn] at hi
  rw [nth_set _ _ _ _ (by rw [list5_len _ _ hn]; exact hd), list5_nth _ _ hn i hi, list5_nth _ _ hn i hi]
  show _ = if (⟨i, by omega⟩ : Fin 5) = d then v else f ⟨i, by omega⟩
  by_cases e : i = d.val
  · rw [if_pos e, if_pos (Fin.ext e)]
  · rw [if_neg e, if_neg (fun h => e (congrArg Fin.val h))]
theorem addAll_one (m : Fin 5 → Int) (x : Int) (o : List (Fin 5)) (g : Fin 5 → Int) : addAll m x [o] g = fun i => g i + inF m o x (fun _ => 0) i := rfl
theorem once_ok (n : Nat) : ∀ (ds : List (Fin 5)) (g : Fin 5 → Bool), ds.Nodup → (∀ d ∈ ds, d.val < n ∧ g d = false) → onceF n (valL ds) g = 0
  | [], _, _, _ => rfl
  | d :: ds, g, hnd, h => by
    rw [List.nodup_cons] at hnd
    obtain ⟨h1, h2⟩ := h d (List.mem_cons_self ..)
    show onceF n ((d.val : Int) :: valL ds) g = 0
    unfold onceF
    have hd : 0 ≤ (d.val : Int) ∧ (d.val : Int) < n ∧ (d.val : Int).toNat < 5 := ⟨by omega, by omega, by omega⟩
    have e : (⟨(d.val : Int).toNat, hd.2.2⟩ : Fin 5) = d := Fin.ext (by simp)
    rw [dif_pos hd, e, if_neg (by simp [h2])]
    refine once_ok n ds _ hnd.2 fun c hc => ?_
    obtain ⟨h3, h4⟩ := h c (List.mem_cons_of_mem _ hc)
    refine ⟨h3, ?_⟩
    show (if c = d then true else g c) = false
    rw [if_neg (fun e : c = d => hnd.1 (e ▸ hc))]; exact h4
theorem idx_lt : ∀ (n : Fin 6) (d : Fin 5), d ∈ idxL n.val → d.val < n.val := by decide
end Go.Proofs.Ytdnbdaegahcoeaa
