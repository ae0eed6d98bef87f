/- Seymour's theorem: where all streets are between two sides, a least set of streets meets as many cuts without a common street as it has streets. -/
namespace Go.Proofs.YtimddkofcejijaaDoor.Sy
/-- how many there are -/
def cd : Nat → (Nat → Bool) → Nat
  | 0, _ => 0
  | k + 1, X => cd k X + (X k).toNat
/-- whether they are an odd number -/
def pr : Nat → (Nat → Bool) → Bool
  | 0, _ => false
  | k + 1, X => (pr k X != X k)
def sx (X Y : Nat → Bool) (i : Nat) : Bool := (X i != Y i)
def sg (e i : Nat) : Bool := (i == e)
def ct (u w : Nat → Nat) (S : Nat → Bool) (i : Nat) : Bool := (S (u i) != S (w i))
/-- the odd number of a side -/
def pc (u w : Nat → Nat) (k : Nat) (X S : Nat → Bool) : Bool := pr k fun i => X i && ct u w S i

theorem bf {i f : Nat} (h : ¬ i = f) : (i == f) = false := by simpa using h
theorem cd_congr {k : Nat} {X Y : Nat → Bool} (h : ∀ i, i < k → X i = Y i) : cd k X = cd k Y := by
  induction k with
  | zero => rfl
  | succ k ih => simp only [cd]; rw [ih fun i hi => h i (by omega), h k (by omega)]
theorem pr_congr {k : Nat} {X Y : Nat → Bool} (h : ∀ i, i < k → X i = Y i) : pr k X = pr k Y := by
  induction k with
  | zero => rfl
  | succ k ih => simp only [pr]; rw [ih fun i hi => h i (by omega), h k (by omega)]
theorem pr_cd (k : Nat) (X : Nat → Bool) : pr k X = (cd k X % 2 == 1) := by
  induction k with
  | zero => rfl
  | succ k ih =>
    simp only [pr, cd]; rw [ih]
    rcases Nat.mod_two_eq_zero_or_one (cd k X) with h | h <;> cases X k <;> simp [Bool.toNat, h] <;> omega
theorem pr_sx (k : Nat) (X Y : Nat → Bool) : pr k (sx X Y) = (pr k X != pr k Y) := by
  induction k with
  | zero => rfl
  | succ k ih =>
    simp only [pr]; rw [ih]; simp only [sx]
    cases pr k X <;> cases pr k Y <;> cases X k <;> cases Y k <;> rfl
theorem pc_sx (u w : Nat → Nat) (k : Nat) (X Y S : Nat → Bool) : pc u w k (sx X Y) S = (pc u w k X S != pc u w k Y S) := by
  unfold pc; rw [← pr_sx]; exact pr_congr fun i _ => by simp only [sx]; cases X i <;> cases Y i <;> cases ct u w S i <;> rfl
theorem pr_zero {k : Nat} {X : Nat → Bool} (h : ∀ i, i < k → X i = false) : pr k X = false := by
  induction k with
  | zero => rfl
  | succ k ih => simp only [pr]; rw [ih fun i hi => h i (by omega), h k (by omega)]; rfl
theorem pr_one {k e : Nat} {X : Nat → Bool} (he : e < k) (hX : ∀ i, i < k → i ≠ e → X i = false) : pr k X = X e := by
  induction k with
  | zero => omega
  | succ k ih =>
    simp only [pr]
    by_cases h : e = k
    · subst h; rw [pr_zero fun i hi => hX i (by omega) (by omega)]; simp
    · rw [ih (by omega) fun i hi hn => hX i (by omega) hn, hX k (by omega) (by omega)]; simp
theorem pc_sg (u w : Nat → Nat) {k e : Nat} (he : e < k) (S : Nat → Bool) : pc u w k (sg e) S = ct u w S e := by
  unfold pc
  rw [pr_one he fun i _ hn => by simp [sg, hn]]
  simp [sg]
theorem pr_ex {k : Nat} {X : Nat → Bool} (h : pr k X = true) : ∃ i, i < k ∧ X i = true := by
  apply Classical.byContradiction
  intro hn
  rw [pr_zero fun i hi => by cases hx : X i; rfl; exact absurd ⟨i, hi, hx⟩ hn] at h
  cases h
theorem cd_zero {k : Nat} {X : Nat → Bool} (h : cd k X = 0) : ∀ i, i < k → X i = false := by
  induction k with
  | zero => intro i hi; omega
  | succ k ih =>
    simp only [cd] at h
    intro i hi
    by_cases hk : i = k
    · subst hk; cases hx : X i; rfl; rw [hx] at h; simp at h
    · exact ih (by omega) i (by omega)
/-- sums over the four sets, place by place -/
theorem cd_sum (k : Nat) (X Y Z W : Nat → Bool) (h : ∀ i, i < k → (X i).toNat + (Y i).toNat = (Z i).toNat + (W i).toNat) : cd k X + cd k Y = cd k Z + cd k W := by
  induction k with
  | zero => rfl
  | succ k ih => simp only [cd]; have := ih fun i hi => h i (by omega); have := h k (by omega); omega
theorem cd_none (k : Nat) : cd k (fun _ => false) = 0 := by
  induction k with
  | zero => rfl
  | succ k ih => simp only [cd]; rw [ih]; rfl
theorem cd_sg {k e : Nat} (he : e < k) : cd k (sg e) = 1 := by
  induction k with
  | zero => omega
  | succ k ih =>
    simp only [cd]
    by_cases h : e = k
    · subst h
      have : cd e (sg e) = 0 := by rw [← cd_none e]; exact cd_congr fun i hi => by simp [sg]; omega
      rw [this]; simp [sg]
    · rw [ih (by omega)]; have : sg e k = false := by simp [sg]; omega
      rw [this]; rfl
theorem cd_take {k e : Nat} {X : Nat → Bool} (he : e < k) (hX : X e = true) : cd k (sx X (sg e)) + 1 = cd k X := by
  have := cd_sum k (sx X (sg e)) (sg e) X (fun _ => false) fun i _ => by
    simp only [sx, sg]
    by_cases h : i = e
    · subst h; simp [hX]
    · simp [bf h]
  rw [cd_sg he, cd_none] at this; exact this
theorem cd_put {k e : Nat} {X : Nat → Bool} (he : e < k) (hX : X e = false) : cd k (sx X (sg e)) = cd k X + 1 := by
  have := cd_sum k (sx X (sg e)) (fun _ => false) X (sg e) fun i _ => by
    simp only [sx, sg]
    by_cases h : i = e
    · subst h; simp [hX]
    · simp [bf h]
  rw [cd_sg he, cd_none] at this; exact this
theorem cd_mono {k : Nat} {X Y : Nat → Bool} (h : ∀ i, i < k → X i = true → Y i = true) : cd k X ≤ cd k Y := by
  induction k with
  | zero => exact Nat.le_refl _
  | succ k ih =>
    simp only [cd]
    have := ih fun i hi => h i (by omega)
    have h2 := h k (by omega)
    cases hx : X k <;> cases hy : Y k <;> simp [hx, hy] at h2 ⊢ <;> omega

def Cl (u w : Nat → Nat) (k : Nat) (C : Nat → Bool) : Prop := ∀ S, pc u w k C S = false
def Jn (u w : Nat → Nat) (k : Nat) (X : Nat → Bool) (a b : Nat) : Prop := ∀ S : Nat → Bool, pc u w k X S = (S a != S b)
def Mn (u w : Nat → Nat) (k : Nat) (F : Nat → Bool) : Prop := ∀ C, Cl u w k C → cd k F ≤ cd k (sx F C)
def inc (u w : Nat → Nat) (v i : Nat) : Bool := ct u w (fun x => x == v) i

theorem inc_end {u w : Nat → Nat} {v i : Nat} (h : inc u w v i = true) : ∃ z, z ≠ v ∧ ∀ S, ct u w S i = (S v != S z) := by
  unfold inc ct at h
  by_cases h1 : u i = v
  · refine ⟨w i, ?_, fun S => by unfold ct; rw [h1]⟩
    rintro h2; simp [h1, h2] at h
  · refine ⟨u i, h1, fun S => ?_⟩
    have : w i = v := by
      apply Classical.byContradiction; intro h2; simp [bf h1, bf h2] at h
    unfold ct; rw [this]; cases S (u i) <;> cases S v <;> rfl
theorem jn_sg {u w : Nat → Nat} {k e a b : Nat} (he : e < k) (h : ∀ S, ct u w S e = (S a != S b)) : Jn u w k (sg e) a b := fun S => by rw [pc_sg u w he, h]

/-- from a corner with an odd number, a way leads to another one -/
theorem trail (u w : Nat → Nat) (k : Nat) : ∀ (n : Nat) (X : Nat → Bool) (x : Nat), cd k X ≤ n → pc u w k X (fun y => y == x) = true →
    ∃ P y, (∀ i, i < k → P i = true → X i = true) ∧ y ≠ x ∧ pc u w k X (fun z => z == y) = true ∧ Jn u w k P x y := by
  intro n
  induction n with
  | zero =>
    intro X x hn hx
    obtain ⟨i, hi, h⟩ := pr_ex hx
    rw [cd_zero (X := X) (by omega) i hi] at h; simp at h
  | succ n ih =>
    intro X x hn hx
    obtain ⟨f, hf, h⟩ := pr_ex hx
    rw [Bool.and_eq_true] at h
    obtain ⟨hXf, hinc⟩ := h
    obtain ⟨z, hz, hct⟩ := inc_end hinc
    have hJf := jn_sg hf hct
    by_cases hoz : pc u w k X (fun y => y == z) = true
    · exact ⟨sg f, z, fun i hi h => by simp only [sg, beq_iff_eq] at h; subst h; exact hXf, hz, hoz, hJf⟩
    · have hoz : pc u w k X (fun y => y == z) = false := by simpa using hoz
      have hp : ∀ S, pc u w k (sx X (sg f)) S = (pc u w k X S != (S x != S z)) := fun S => by rw [pc_sx, hJf]
      obtain ⟨P, y, hP, hy, hoy, hJ⟩ := ih (sx X (sg f)) z (by have := cd_take hf hXf; omega) (by rw [hp, hoz]; have : (x == z) = false := by simpa using Ne.symm hz
                                                                                                  simp [this])
      have hyx : y ≠ x := by
        rintro rfl
        rw [hp, hx] at hoy
        have : (z == y) = false := by simpa using hz
        simp [this] at hoy
      have hP2 : ∀ i, i < k → P i = true → X i = true := fun i hi h => by
        have := hP i hi h
        simp only [sx, sg] at this
        by_cases h : i = f
        · subst h; exact hXf
        · simpa [bf h] using this
      refine ⟨sx P (sg f), y, fun i hi h => ?_, hyx, ?_, fun S => ?_⟩
      · simp only [sx, sg] at h
        by_cases hif : i = f
        · subst hif; exact hXf
        · simp [bf hif] at h; exact hP2 i hi h
      · rw [hp] at hoy
        have h1 : (x == y) = false := by simpa using Ne.symm hyx
        have h2 : (z == y) = false := by simpa using Ne.symm hy
        simpa [h1, h2] using hoy
      · rw [pc_sx, hJ, hJf]; cases S x <;> cases S y <;> cases S z <;> rfl

def dg (u w : Nat → Nat) (k : Nat) (P : Nat → Bool) (b : Nat) : Nat := cd k fun i => P i && inc u w b i

/-- a way to b that comes to b only once -/
theorem trail1 (u w : Nat → Nat) (k a b : Nat) (hab : a ≠ b) : ∀ (n : Nat) (X : Nat → Bool) (x : Nat), cd k X ≤ n → x ≠ a → Jn u w k X a x →
    ∃ P, (∀ i, i < k → P i = true → X i = true) ∧ ((Jn u w k P a x ∧ dg u w k P b = 0) ∨ (Jn u w k P a b ∧ dg u w k P b ≤ 1)) := by
  intro n
  induction n with
  | zero =>
    intro X x hn hx hJ
    have := hJ fun y => y == x
    have h1 : (a == x) = false := by simpa using Ne.symm hx
    simp [h1] at this
    obtain ⟨i, hi, h⟩ := pr_ex this
    rw [cd_zero (X := X) (by omega) i hi] at h; simp at h
  | succ n ih =>
    intro X x hn hx hJ
    have hox := hJ fun y => y == x
    have h1 : (a == x) = false := by simpa using Ne.symm hx
    simp [h1] at hox
    obtain ⟨f, hf, h⟩ := pr_ex hox
    rw [Bool.and_eq_true] at h
    obtain ⟨hXf, hinc⟩ := h
    obtain ⟨z, hz, hct⟩ := inc_end hinc
    have hJf := jn_sg hf hct
    by_cases hza : z = a
    · subst hza
      refine ⟨sg f, fun i hi h => by simp only [sg, beq_iff_eq] at h; subst h; exact hXf, ?_⟩
      by_cases hxb : x = b
      · refine Or.inr ⟨fun S => by rw [hJf, hxb]; cases S z <;> cases S b <;> rfl, ?_⟩
        have : dg u w k (sg f) b ≤ cd k (sg f) := cd_mono fun i _ h => by rw [Bool.and_eq_true] at h; exact h.1
        rw [cd_sg hf] at this; exact this
      · refine Or.inl ⟨fun S => by rw [hJf]; cases S z <;> cases S x <;> rfl, ?_⟩
        unfold dg
        rw [← cd_none k]
        refine cd_congr fun i _ => ?_
        by_cases hif : i = f
        · subst hif
          have hxb' : (x == b) = false := by simpa using hxb
          have hzb' : (z == b) = false := by simpa using hab
          simp [inc, hct, hxb', hzb']
        · simp [sg, hif]
    · have hp : ∀ S, pc u w k (sx X (sg f)) S = (S a != S z) := fun S => by
        rw [pc_sx, hJ, hJf]; cases S x <;> cases S a <;> cases S z <;> rfl
      obtain ⟨P, hP, hor⟩ := ih (sx X (sg f)) z (by have := cd_take hf hXf; omega) hza hp
      have hPf : P f = false := by
        cases h : P f
        · rfl
        · have := hP f hf h; simp [sx, sg, hXf] at this
      have hP2 : ∀ i, i < k → P i = true → X i = true := fun i hi h => by
        have := hP i hi h
        simp only [sx, sg] at this
        by_cases h : i = f
        · subst h; exact hXf
        · simpa [bf h] using this
      rcases hor with ⟨hPJ, hd⟩ | hor
      · have hzb : z ≠ b := by
          rintro rfl
          have := hPJ fun y => y == z
          have h2 : (a == z) = false := by simpa using hab
          simp [h2] at this
          obtain ⟨i, hi, h⟩ := pr_ex this
          have h3 := cd_zero hd i hi
          unfold inc at h3; rw [h3] at h; cases h
        have hJ2 : Jn u w k (sx P (sg f)) a x := fun S => by
          rw [pc_sx, hPJ, hJf]; cases S x <;> cases S a <;> cases S z <;> rfl
        have hsub : ∀ i, i < k → sx P (sg f) i = true → X i = true := fun i hi h => by
          simp only [sx, sg] at h
          by_cases hif : i = f
          · subst hif; exact hXf
          · simp [bf hif] at h; exact hP2 i hi h
        refine ⟨sx P (sg f), hsub, ?_⟩
        by_cases hxb : x = b
        · subst hxb
          refine Or.inr ⟨hJ2, ?_⟩
          have := cd_sum k (fun i => sx P (sg f) i && inc u w x i) (fun _ => false) (fun i => P i && inc u w x i) (fun i => sg f i && inc u w x i) fun i _ => by
            simp only [sx, sg]
            by_cases hif : i = f
            · subst hif; simp [hPf]
            · simp [bf hif]
          rw [cd_none] at this
          have h3 : cd k (fun i => sg f i && inc u w x i) ≤ cd k (sg f) := cd_mono fun i _ h => by rw [Bool.and_eq_true] at h; exact h.1
          rw [cd_sg hf] at h3
          unfold dg at hd ⊢; omega
        · refine Or.inl ⟨hJ2, ?_⟩
          unfold dg at hd ⊢
          rw [← hd]
          refine cd_congr fun i _ => ?_
          by_cases hif : i = f
          · subst hif
            have hxb' : (x == b) = false := by simpa using hxb
            have hzb' : (z == b) = false := by simpa using hzb
            simp [inc, hct, hxb', hzb']
          · simp [sx, sg, bf hif]
      · exact ⟨P, hP2, Or.inr hor⟩

theorem least {p : Nat → Prop} : ∀ n, p n → ∃ m, p m ∧ ∀ j, p j → m ≤ j := by
  intro n
  induction n using Nat.strongRecOn with
  | _ n ih =>
    intro hp
    by_cases h : ∃ j, j < n ∧ p j
    · obtain ⟨j, hj, hpj⟩ := h
      exact ih j hj hpj
    · exact ⟨n, hp, fun j hj => Nat.le_of_not_lt fun hl => h ⟨j, hl, hj⟩⟩
theorem cl_sx {u w : Nat → Nat} {k : Nat} {C D : Nat → Bool} (hC : Cl u w k C) (hD : Cl u w k D) : Cl u w k (sx C D) := fun S => by
  rw [pc_sx, hC, hD]; rfl

/-- the corner: all least sets have one street of it at most, and this one has one -/
theorem corner {u w : Nat → Nat} {k : Nat} {F : Nat → Bool} (hF : Mn u w k F) (hne : ∃ e, e < k ∧ F e = true) :
    ∃ b, (∃ e, e < k ∧ F e = true ∧ inc u w b e = true) ∧ ∀ C, Cl u w k C → cd k (sx F C) = cd k F → ∀ i j, i < k → j < k →
      sx F C i = true → inc u w b i = true → sx F C j = true → inc u w b j = true → i = j := by
  obtain ⟨e0, he0, hFe⟩ := hne
  have hloop : u e0 ≠ w e0 := fun h => by
    have := hF (sg e0) fun S => by rw [pc_sg u w he0]; unfold ct; rw [h]; cases S (w e0) <;> rfl
    have := cd_take he0 hFe
    omega
  obtain ⟨m, ⟨a, b, X0, hab, hX0, hm⟩, hmin⟩ := least (p := fun m => ∃ a b X, a ≠ b ∧ Jn u w k X a b ∧ cd k (sx F X) = m) _
    ⟨u e0, w e0, sg e0, hloop, jn_sg he0 fun S => rfl, rfl⟩
  have hlt : m + 1 ≤ cd k F := by
    have := hmin _ ⟨u e0, w e0, sg e0, hloop, jn_sg he0 fun S => rfl, rfl⟩
    have := cd_take he0 hFe
    omega
  have h1 : ∀ X, Jn u w k X a b → cd k (sx F X) = m → ∀ i, i < k → sx F X i = true → inc u w b i = false := by
    intro X hX hXm i hi hXi
    cases hinc : inc u w b i
    · rfl
    · exfalso
      obtain ⟨z, hz, hct⟩ := inc_end hinc
      have hc : cd k (sx F (sx X (sg i))) + 1 = m := by
        rw [← hXm, ← cd_take hi hXi]
        congr 1
        exact cd_congr fun j _ => by simp only [sx]; cases F j <;> cases X j <;> cases sg i j <;> rfl
      have hp : ∀ S, pc u w k (sx X (sg i)) S = (S a != S z) := fun S => by
        rw [pc_sx, hX, jn_sg hi hct]; cases S a <;> cases S b <;> cases S z <;> rfl
      by_cases hza : z = a
      · have := hF (sx X (sg i)) fun S => by rw [hp, hza]; cases S a <;> rfl
        omega
      · have := hmin _ ⟨a, z, sx X (sg i), Ne.symm hza, hp, rfl⟩
        omega
  refine ⟨b, ?_, ?_⟩
  · have hb := hX0 fun y => y == b
    have hab' : (a == b) = false := bf hab
    simp [hab'] at hb
    obtain ⟨i, hi, h⟩ := pr_ex hb
    rw [Bool.and_eq_true] at h
    refine ⟨i, hi, ?_, h.2⟩
    cases hfi : F i
    · have := h1 X0 hX0 hm i hi (by simp [sx, hfi, h.1])
      unfold inc at this; rw [this] at h; cases h.2
    · rfl
  · intro C hC hcard i j hi hj hFi hbi hFj hbj
    apply Classical.byContradiction
    intro hij
    have hX2 : Jn u w k (sx X0 C) a b := fun S => by rw [pc_sx, hX0, hC]; cases S a <;> cases S b <;> rfl
    have hin : ∀ t, t < k → sx F C t = true → inc u w b t = true → sx X0 C t = true := by
      intro t ht hFt hbt
      have := h1 X0 hX0 hm t ht
      rw [hbt] at this
      simp only [sx] at this hFt ⊢
      revert this hFt
      cases F t <;> cases C t <;> cases X0 t <;> simp
    obtain ⟨P, hP, hor⟩ := trail1 u w k a b hab _ (sx X0 C) b (Nat.le_refl _) (Ne.symm hab) hX2
    have hPJ : Jn u w k P a b ∧ dg u w k P b ≤ 1 := by
      rcases hor with ⟨h, hd⟩ | h
      · exact ⟨h, by omega⟩
      · exact h
    obtain ⟨hPJ, hd⟩ := hPJ
    have hJ2 : Jn u w k (sx C P) a b := fun S => by rw [pc_sx, hPJ, hC]; cases S a <;> cases S b <;> rfl
    have hC2 : Cl u w k (sx C (sx (sx X0 C) P)) := cl_sx hC fun S => by rw [pc_sx, hX2, hPJ]; cases S a <;> cases S b <;> rfl
    have hge := hF _ hC2
    have hge2 := hmin _ ⟨a, b, sx C P, hab, hJ2, rfl⟩
    have hsum := cd_sum k (sx F (sx C (sx (sx X0 C) P))) (sx F (sx C P)) (sx F C) (sx F X0) fun t ht => by
      have := hP t ht
      simp only [sx] at this ⊢
      revert this
      cases F t <;> cases C t <;> cases X0 t <;> cases P t <;> simp
    have heq : cd k (sx F (sx C P)) = m := by omega
    have hno := h1 _ hJ2 heq
    have hPin : ∀ t, t < k → sx F C t = true → inc u w b t = true → P t = true := by
      intro t ht hFt hbt
      have := hno t ht
      rw [hbt] at this
      simp only [sx] at this hFt
      revert this hFt
      cases F t <;> cases C t <;> cases P t <;> simp
    have hPi := hPin i hi hFi hbi
    have hPj := hPin j hj hFj hbj
    have h2 := cd_take (X := fun t => P t && inc u w b t) hi (by simp [hPi, hbi])
    have h3 := cd_take (X := sx (fun t => P t && inc u w b t) (sg i)) hj (by simp [sx, sg, hPj, hbj, bf (Ne.symm hij)])
    unfold dg at hd
    omega

/-- whether a corner is at b by a street -/
def nb (u w : Nat → Nat) (k b x : Nat) : Bool := (List.range k).any fun i => inc u w b i && inc u w x i && x != b
def fo (u w : Nat → Nat) (k b x : Nat) : Nat := if nb u w k b x then b else x
theorem nb_iff {u w : Nat → Nat} {k b x : Nat} : nb u w k b x = true ↔ x ≠ b ∧ ∃ i, i < k ∧ ∀ S, ct u w S i = (S b != S x) := by
  unfold nb
  rw [List.any_eq_true]
  constructor
  · rintro ⟨i, hi, h⟩
    simp only [Bool.and_eq_true, bne_iff_ne, ne_eq] at h
    obtain ⟨⟨hb, hx⟩, hne⟩ := h
    obtain ⟨z, hz, hct⟩ := inc_end hb
    refine ⟨hne, i, by simpa using hi, ?_⟩
    unfold inc at hx
    rw [hct] at hx
    have hbx : (b == x) = false := bf (Ne.symm hne)
    simp [hbx] at hx
    subst hx; exact hct
  · rintro ⟨hne, i, hi, hct⟩
    refine ⟨i, by simpa using hi, ?_⟩
    have hbx : (b == x) = false := bf (Ne.symm hne)
    have hxb : (x == b) = false := bf hne
    simp [inc, hct, hbx, hxb, hne]
theorem fo_b (u w : Nat → Nat) (k b : Nat) : fo u w k b b = b := by
  unfold fo; split <;> rfl
theorem inc_fo {u w : Nat → Nat} {k b i : Nat} (hi : i < k) (h : inc u w b i = true) : fo u w k b (u i) = b ∧ fo u w k b (w i) = b := by
  obtain ⟨z, hz, hct⟩ := inc_end h
  have hnb : nb u w k b z = true := nb_iff.mpr ⟨hz, i, hi, hct⟩
  have hbz : (b == z) = false := bf (Ne.symm hz)
  have hu : u i = b ∨ u i = z := by
    have := hct fun y => y == u i
    unfold ct at this
    apply Classical.byContradiction
    intro hn
    have hn : u i ≠ b ∧ u i ≠ z := ⟨fun h => hn (Or.inl h), fun h => hn (Or.inr h)⟩
    have h1 : (b == u i) = false := bf (Ne.symm hn.1)
    have h2 : (z == u i) = false := bf (Ne.symm hn.2)
    simp [h1, h2] at this
    have h3 := hct fun y => y == b
    unfold ct at h3
    have h4 : (z == b) = false := bf hz
    rw [this] at h3
    simp [h4] at h3
  have hw : w i = b ∨ w i = z := by
    have := hct fun y => y == w i
    unfold ct at this
    apply Classical.byContradiction
    intro hn
    have hn : w i ≠ b ∧ w i ≠ z := ⟨fun h => hn (Or.inl h), fun h => hn (Or.inr h)⟩
    have h1 : (b == w i) = false := bf (Ne.symm hn.1)
    have h2 : (z == w i) = false := bf (Ne.symm hn.2)
    simp [h1, h2] at this
    have h3 := hct fun y => y == b
    unfold ct at h3
    have h4 : (z == b) = false := bf hz
    rw [← this] at h3
    simp [h4] at h3
  have hf : fo u w k b z = b := by unfold fo; rw [if_pos hnb]
  constructor
  · rcases hu with h | h <;> rw [h]; exact fo_b u w k b; exact hf
  · rcases hw with h | h <;> rw [h]; exact fo_b u w k b; exact hf
theorem ct_fo (u w : Nat → Nat) (g : Nat → Nat) (S : Nat → Bool) (i : Nat) : ct (fun j => g (u j)) (fun j => g (w j)) S i = ct u w (fun x => S (g x)) i := rfl
theorem pc_fo (u w : Nat → Nat) (g : Nat → Nat) (k : Nat) (X S : Nat → Bool) : pc (fun j => g (u j)) (fun j => g (w j)) k X S = pc u w k X (fun x => S (g x)) := rfl

theorem fold_loop {u w : Nat → Nat} {k b : Nat} {A : Nat → Bool} (hA : ∀ i, i < k → u i ≠ w i → ct u w A i = true) {i : Nat} (hi : i < k)
    (h : fo u w k b (u i) = fo u w k b (w i)) : u i = w i ∨ inc u w b i = true := by
  apply Classical.byContradiction
  intro hn
  have hne : u i ≠ w i := fun h => hn (Or.inl h)
  have hib : inc u w b i = false := by cases hx : inc u w b i; rfl; exact absurd (Or.inr hx) hn
  have hub : u i ≠ b := by
    rintro rfl
    have : (w i == u i) = false := bf (Ne.symm hne)
    simp [inc, ct, this] at hib
  have hwb : w i ≠ b := by
    rintro rfl
    have : (u i == w i) = false := bf hne
    simp [inc, ct, this] at hib
  have hAi := hA i hi hne
  have nbA : ∀ x, nb u w k b x = true → A x = !A b := by
    intro x hx
    obtain ⟨hxb, j, hj, hct⟩ := nb_iff.mp hx
    have hj2 : u j ≠ w j := fun h => by
      have := hct fun y => y == b
      have hxb' : (x == b) = false := bf hxb
      unfold ct at this; rw [h] at this; simp [hxb'] at this
    have := hA j hj hj2
    rw [hct] at this
    revert this; cases A x <;> cases A b <;> simp
  unfold fo at h
  by_cases h1 : nb u w k b (u i) = true <;> by_cases h2 : nb u w k b (w i) = true <;> simp only [h1, h2, if_true] at h
  · unfold ct at hAi
    rw [nbA _ h1, nbA _ h2] at hAi
    simp at hAi
  · exact hwb (by simpa using h.symm)
  · exact hub (by simpa using h)
  · exact hne (by simpa using h)

theorem fold_min {u w : Nat → Nat} {k b e : Nat} {F A : Nat → Bool} (hF : Mn u w k F) (he : e < k) (hFe : F e = true) (hbe : inc u w b e = true)
    (hone : ∀ C, Cl u w k C → cd k (sx F C) = cd k F → ∀ i j, i < k → j < k → sx F C i = true → inc u w b i = true → sx F C j = true → inc u w b j = true → i = j)
    (hA : ∀ i, i < k → u i ≠ w i → ct u w A i = true) :
    Mn (fun j => fo u w k b (u j)) (fun j => fo u w k b (w j)) k (sx F (sg e)) ∧ (∀ i, i < k → sx F (sg e) i = true → fo u w k b (u i) ≠ fo u w k b (w i)) := by
  have hinl : ∀ i, i < k → inc u w b i = true → fo u w k b (u i) = fo u w k b (w i) := fun i hi h => by
    rw [(inc_fo hi h).1, (inc_fo hi h).2]
  have hnl : ∀ i, i < k → sx F (sg e) i = true → fo u w k b (u i) ≠ fo u w k b (w i) := by
    intro i hi hFi hl
    have hie : i ≠ e := by rintro rfl; simp [sx, sg, hFe] at hFi
    have hFi : F i = true := by simpa [sx, sg, bf hie] using hFi
    rcases fold_loop hA hi hl with h | h
    · have := hF (sg i) fun S => by rw [pc_sg u w hi]; unfold ct; rw [h]; cases S (w i) <;> rfl
      have := cd_take hi hFi
      omega
    · have hs : ∀ j, sx F (fun _ => false) j = F j := fun j => by simp [sx]
      exact hie (hone (fun _ => false) (fun S => pr_zero fun _ _ => by simp) (cd_congr fun j _ => hs j) i e hi he (by rw [hs]; exact hFi) h (by rw [hs]; exact hFe) hbe)
  refine ⟨?_, hnl⟩
  have hcF := cd_take he hFe
  obtain ⟨z0, hz0, hct0⟩ := inc_end hbe
  have heF : sx F (sg e) e = false := by simp [sx, sg, hFe]
  generalize hF' : sx F (sg e) = F' at *
  have hFF : ∀ i, F i = (F' i != sg e i) := fun i => by rw [← hF']; simp only [sx]; cases F i <;> cases sg e i <;> rfl
  -- a part that is closed, or leads from neighbour to neighbour
  have hstep : ∀ P, (∀ i, i < k → P i = true → fo u w k b (u i) ≠ fo u w k b (w i)) → (Cl u w k P ∨ ∃ x y, x ≠ y ∧ nb u w k b x = true ∧ nb u w k b y = true ∧ Jn u w k P x y) → cd k F' ≤ cd k (sx F' P) := by
    intro P hP hor
    have hPin : ∀ i, i < k → inc u w b i = true → P i = false := fun i hi h => by
      cases hx : P i
      · rfl
      · exact absurd (hinl i hi h) (hP i hi hx)
    have hFin : ∀ i, i < k → inc u w b i = true → F' i = false := fun i hi h => by
      cases hx : F' i
      · rfl
      · exact absurd (hinl i hi h) (hnl i hi hx)
    have hPe := hPin e he hbe
    rcases hor with hcl | ⟨x, y, hxy, hx, hy, hJ⟩
    · have h1 := hF P hcl
      have h2 := cd_put (X := sx F' P) he (by simp [sx, heF, hPe])
      have h3 : cd k (sx (sx F' P) (sg e)) = cd k (sx F P) := cd_congr fun i _ => by
        simp only [sx]; rw [hFF]; cases F' i <;> cases P i <;> cases sg e i <;> rfl
      omega
    · have key : ∀ x y, x ≠ y → nb u w k b x = true → nb u w k b y = true → Jn u w k P x y → x = z0 → cd k F' ≤ cd k (sx F' P) := by
        intro x y hxy hx hy hJ hxz
        obtain ⟨hyb, ey, hey, hcy⟩ := nb_iff.mp hy
        obtain ⟨hxb, _⟩ := nb_iff.mp hx
        rw [← hxz] at hct0
        have hiy : inc u w b ey = true := by have : (y == b) = false := bf hyb
                                             simp [inc, hcy, this]
        have hne : ey ≠ e := by
          rintro rfl
          have h1 := hct0 fun t => t == x
          rw [hcy] at h1
          have h2 : (b == x) = false := bf (Ne.symm hxb)
          have h3 : (y == x) = false := bf (Ne.symm hxy)
          simp [h2, h3] at h1
        have h1 := hF (sx P (sx (sg e) (sg ey))) fun S => by
          rw [pc_sx, pc_sx, hJ, pc_sg u w he, pc_sg u w hey, hct0, hcy]; cases S x <;> cases S y <;> cases S b <;> rfl
        have h2 := cd_put (X := sx F' P) hey (by simp [sx, hFin ey hey hiy, hPin ey hey hiy])
        have h3 : cd k (sx (sx F' P) (sg ey)) = cd k (sx F (sx P (sx (sg e) (sg ey)))) := cd_congr fun i _ => by
          simp only [sx]; rw [hFF]; cases F' i <;> cases P i <;> cases sg e i <;> cases sg ey i <;> rfl
        omega
      by_cases hxz : x = z0
      · exact key x y hxy hx hy hJ hxz
      by_cases hyz : y = z0
      · exact key y x (Ne.symm hxy) hy hx (fun S => by rw [hJ]; cases S x <;> cases S y <;> rfl) hyz
      obtain ⟨hyb, ey, hey, hcy⟩ := nb_iff.mp hy
      obtain ⟨hxb, ex, hex, hcx⟩ := nb_iff.mp hx
      have hiy : inc u w b ey = true := by have : (y == b) = false := bf hyb
                                           simp [inc, hcy, this]
      have hix : inc u w b ex = true := by have : (x == b) = false := bf hxb
                                           simp [inc, hcx, this]
      have hney : ey ≠ e := by
        rintro rfl
        have h1 := hct0 fun t => t == y
        rw [hcy] at h1
        have h2 : (b == y) = false := bf (Ne.symm hyb)
        have h3 : (z0 == y) = false := bf (Ne.symm hyz)
        simp [h2, h3] at h1
      have hnex : ex ≠ e := by
        rintro rfl
        have h1 := hct0 fun t => t == x
        rw [hcx] at h1
        have h2 : (b == x) = false := bf (Ne.symm hxb)
        have h3 : (z0 == x) = false := bf (Ne.symm hxz)
        simp [h2, h3] at h1
      have hnxy : ex ≠ ey := by
        rintro rfl
        have h1 := hcx fun t => t == x
        rw [hcy] at h1
        have h2 : (b == x) = false := bf (Ne.symm hxb)
        have h3 : (y == x) = false := bf (Ne.symm hxy)
        simp [h2, h3] at h1
      have hcl : Cl u w k (sx P (sx (sg ex) (sg ey))) := fun S => by
        rw [pc_sx, pc_sx, hJ, pc_sg u w hex, pc_sg u w hey, hcx, hcy]; cases S x <;> cases S y <;> cases S b <;> rfl
      have h1 := hF _ hcl
      have h2 := cd_put (X := sx F' P) he (by simp [sx, heF, hPe])
      have h4 := cd_put (X := sx (sx F' P) (sg e)) hex (by simp [sx, sg, bf hnex, hFin ex hex hix, hPin ex hex hix])
      have h5 := cd_put (X := sx (sx (sx F' P) (sg e)) (sg ex)) hey (by simp [sx, sg, bf hney, bf (Ne.symm hnxy), hFin ey hey hiy, hPin ey hey hiy])
      have h3 : cd k (sx (sx (sx (sx F' P) (sg e)) (sg ex)) (sg ey)) = cd k (sx F (sx P (sx (sg ex) (sg ey)))) := cd_congr fun i _ => by
        simp only [sx]; rw [hFF]; cases F' i <;> cases P i <;> cases sg e i <;> cases sg ey i <;> cases sg ex i <;> rfl
      have hnq : cd k (sx F (sx P (sx (sg ex) (sg ey)))) ≠ cd k F := fun hq => by
        refine hnex (hone _ hcl hq ex e hex he ?_ hix ?_ hbe)
        · simp [sx, sg, hFF, bf hnex, bf hnxy, hFin ex hex hix, hPin ex hex hix]
        · simp [sx, sg, hFF, bf (Ne.symm hnex), bf (Ne.symm hney), heF, hPe]
      have hpar : pr k (sx P (sx (sg ex) (sg ey))) = false := by
        rw [← hcl A]
        refine pr_congr fun i hi => ?_
        cases hDi : sx P (sx (sg ex) (sg ey)) i
        · rfl
        · have hinc0 : ∀ j, inc u w b j = true → u j ≠ w j := fun j h h2 => by unfold inc ct at h; rw [h2] at h; simp at h
          have : u i ≠ w i := by
            by_cases h6 : i = ex
            · subst h6; exact hinc0 _ hix
            · by_cases h7 : i = ey
              · subst h7; exact hinc0 _ hiy
              · have : P i = true := by simpa [sx, sg, bf h6, bf h7] using hDi
                intro h8
                exact hP i hi this (by rw [h8])
          rw [hA i hi this]; rfl
      have hp2 := pr_sx k F (sx P (sx (sg ex) (sg ey)))
      rw [hpar, pr_cd, pr_cd] at hp2
      have hp3 : cd k (sx F (sx P (sx (sg ex) (sg ey)))) % 2 = cd k F % 2 := by
        have a1 := Nat.mod_two_eq_zero_or_one (cd k F)
        have a2 := Nat.mod_two_eq_zero_or_one (cd k (sx F (sx P (sx (sg ex) (sg ey)))))
        rcases a1 with a1 | a1 <;> rcases a2 with a2 | a2 <;> rw [a1, a2] at hp2 <;> simp at hp2 <;> omega
      omega
  have good : ∀ n C, cd k C ≤ n → Cl (fun j => fo u w k b (u j)) (fun j => fo u w k b (w j)) k C → (∀ i, i < k → C i = true → fo u w k b (u i) ≠ fo u w k b (w i)) → cd k F' ≤ cd k (sx F' C) := by
    intro n
    induction n with
    | zero =>
      intro C hn hC hl
      have := cd_zero (k := k) (X := C) (by omega)
      exact Nat.le_of_eq (cd_congr fun i hi => by simp [sx, this i hi])
    | succ n ih =>
      intro C hn hC hl
      by_cases hem : ∃ f, f < k ∧ C f = true
      · have fin : ∀ P, (∀ i, i < k → P i = true → C i = true) → (∃ i, i < k ∧ P i = true) → Cl (fun j => fo u w k b (u j)) (fun j => fo u w k b (w j)) k P → (Cl u w k P ∨ ∃ x y, x ≠ y ∧ nb u w k b x = true ∧ nb u w k b y = true ∧ Jn u w k P x y) → cd k F' ≤ cd k (sx F' C) := by
          intro P hsub hne hP hor
          have h1 := hstep P (fun i hi h => hl i hi (hsub i hi h)) hor
          have h2 := cd_sum k (sx C P) P C (fun _ => false) fun i hi => by
            have := hsub i hi
            revert this; simp only [sx]; cases C i <;> cases P i <;> simp
          rw [cd_none] at h2
          have h3 : 1 ≤ cd k P := by
            obtain ⟨i, hi, hPi⟩ := hne
            have := cd_take hi hPi
            omega
          have h4 := ih (sx C P) (by omega) (cl_sx hC hP) (fun i hi h => hl i hi (by
            have := hsub i hi
            simp only [sx] at h
            revert this h; cases C i <;> cases P i <;> simp))
          have h5 := cd_sum k (sx F' C) F' (sx F' P) (sx F' (sx C P)) fun i hi => by
            have := hsub i hi
            revert this; simp only [sx]; cases C i <;> cases P i <;> cases F' i <;> simp
          omega
        by_cases hodd : ∃ x, pc u w k C (fun z => z == x) = true
        · obtain ⟨x, hx⟩ := hodd
          obtain ⟨P, y, hP, hyx, hy, hJ⟩ := trail u w k _ C x (Nat.le_refl _) hx
          have isnb : ∀ x, pc u w k C (fun z => z == x) = true → nb u w k b x = true := by
            intro x hx
            by_cases hxb : x = b
            · subst hxb
              obtain ⟨i, hi, h⟩ := pr_ex hx
              rw [Bool.and_eq_true] at h
              exact absurd (hinl i hi h.2) (hl i hi h.1)
            · cases hn : nb u w k b x
              · have h1 := hC fun z => z == x
                rw [pc_fo] at h1
                have h2 : (fun z => fo u w k b z == x) = fun z => z == x := by
                  funext z
                  unfold fo
                  split
                  · rename_i hz
                    have : z ≠ x := by rintro rfl; rw [hn] at hz; cases hz
                    rw [bf this, bf (Ne.symm hxb)]
                  · rfl
                rw [h2, hx] at h1; cases h1
              · rfl
          have hnx := isnb x hx
          have hny := isnb y hy
          refine fin P hP ?_ ?_ (Or.inr ⟨x, y, Ne.symm hyx, hnx, hny, hJ⟩)
          · have := hJ fun z => z == x
            have h2 : (y == x) = false := bf hyx
            simp [h2] at this
            obtain ⟨i, hi, h⟩ := pr_ex this
            rw [Bool.and_eq_true] at h
            exact ⟨i, hi, h.1⟩
          · intro S
            rw [pc_fo, hJ]
            unfold fo
            rw [if_pos hnx, if_pos hny]; cases S b <;> rfl
        · obtain ⟨f, hf, hCf⟩ := hem
          have hodd : ∀ x, pc u w k C (fun z => z == x) = false := fun x => by
            cases h : pc u w k C (fun z => z == x)
            · rfl
            · exact absurd ⟨x, h⟩ hodd
          have hfl : u f ≠ w f := fun h => hl f hf hCf (by rw [h])
          have hpf : ∀ x, pc u w k (sx C (sg f)) (fun z => z == x) = ct u w (fun z => z == x) f := fun x => by
            rw [pc_sx, hodd, pc_sg u w hf]; cases ct u w (fun z => z == x) f <;> rfl
          obtain ⟨P, y, hP, hyx, hy, hJ⟩ := trail u w k _ (sx C (sg f)) (u f) (Nat.le_refl _) (by
            rw [hpf]; have : (w f == u f) = false := bf (Ne.symm hfl)
            simp [ct, this])
          have hyw : y = w f := by
            rw [hpf] at hy
            have h1 : (u f == y) = false := bf (Ne.symm hyx)
            simp [ct, h1] at hy; exact hy.symm
          subst hyw
          have hPf : P f = false := by
            cases h : P f
            · rfl
            · have := hP f hf h; simp [sx, sg, hCf] at this
          have hcl : Cl u w k (sx P (sg f)) := fun S => by
            rw [pc_sx, hJ, pc_sg u w hf]; unfold ct; cases S (u f) <;> cases S (w f) <;> rfl
          refine fin (sx P (sg f)) ?_ ⟨f, hf, by simp [sx, sg, hPf]⟩ (fun S => by rw [pc_fo]; exact hcl _) (Or.inl hcl)
          intro i hi h
          by_cases hif : i = f
          · subst hif; exact hCf
          · have h2 := hP i hi (by simpa [sx, sg, bf hif] using h)
            simpa [sx, sg, bf hif] using h2
      · have : ∀ i, i < k → C i = false := fun i hi => by
          cases h : C i
          · rfl
          · exact absurd ⟨i, hi, h⟩ hem
        exact Nat.le_of_eq (cd_congr fun i hi => by simp [sx, this i hi])
  intro C hC
  refine Nat.le_trans (good _ (fun i => C i && fo u w k b (u i) != fo u w k b (w i)) (Nat.le_refl _) ?_ ?_) (cd_mono ?_)
  · intro S
    rw [← hC S]
    refine pr_congr fun i _ => ?_
    by_cases h : fo u w k b (u i) = fo u w k b (w i)
    · simp [ct, h]
    · have h2 : (fo u w k b (u i) != fo u w k b (w i)) = true := by simpa using h
      simp [h2]
  · intro i _ h
    rw [Bool.and_eq_true] at h
    simpa using h.2
  · intro i hi h
    by_cases hl : fo u w k b (u i) = fo u w k b (w i)
    · have : F' i = false := by
        cases hx : F' i
        · rfl
        · exact absurd hl (hnl i hi hx)
      simp [sx, hl, this] at h
    · have h2 : (fo u w k b (u i) != fo u w k b (w i)) = true := by simpa using hl
      simpa [sx, h2] using h

/-- Seymour's theorem: where all streets are between two sides, a least set meets as many cuts without a common street as it has streets -/
theorem seymour (k : Nat) : ∀ (n : Nat) (u w : Nat → Nat) (F A : Nat → Bool), cd k F = n → Mn u w k F → (∀ i, i < k → u i ≠ w i → ct u w A i = true) →
    ∃ L : List (Nat → Bool), L.length = n ∧ (∀ S ∈ L, pc u w k F S = true) ∧ L.Pairwise fun S T => ∀ i, i < k → ¬ (ct u w S i = true ∧ ct u w T i = true) := by
  intro n
  induction n with
  | zero => intro u w F A _ _ _; exact ⟨[], rfl, ⟨fun _ h => absurd h List.not_mem_nil, List.Pairwise.nil⟩⟩
  | succ n ih =>
    intro u w F A hn hF hA
    have hne : ∃ e, e < k ∧ F e = true := by
      apply Classical.byContradiction
      intro h
      have : cd k F = 0 := by
        rw [← cd_none k]
        exact cd_congr fun i hi => by
          cases hx : F i
          · rfl
          · exact absurd ⟨i, hi, hx⟩ h
      omega
    obtain ⟨b, ⟨e, he, hFe, hbe⟩, hone⟩ := corner hF hne
    obtain ⟨hmin, hnl⟩ := fold_min hF he hFe hbe hone hA
    have hbip : ∀ i, i < k → fo u w k b (u i) ≠ fo u w k b (w i) → ct (fun j => fo u w k b (u j)) (fun j => fo u w k b (w j)) (fun x => if x = b then !A b else A x) i = true := by
      intro i hi hl
      have hne : u i ≠ w i := fun h => hl (by rw [h])
      have hni : inc u w b i = false := by
        cases h : inc u w b i
        · rfl
        · exact absurd (by rw [(inc_fo hi h).1, (inc_fo hi h).2]) hl
      have hub : u i ≠ b := by
        rintro rfl
        have : (w i == u i) = false := bf (Ne.symm hne)
        simp [inc, ct, this] at hni
      have hwb : w i ≠ b := by
        rintro rfl
        have : (u i == w i) = false := bf hne
        simp [inc, ct, this] at hni
      have hAA : ∀ x, x ≠ b → (if fo u w k b x = b then !A b else A (fo u w k b x)) = A x := by
        intro x hx
        unfold fo
        by_cases h : nb u w k b x = true
        · obtain ⟨hxb, j, hj, hct⟩ := nb_iff.mp h
          have hj2 : u j ≠ w j := fun h => by
            have := hct fun y => y == b
            have hxb' : (x == b) = false := bf hxb
            unfold ct at this; rw [h] at this; simp [hxb'] at this
          have := hA j hj hj2
          rw [hct] at this
          rw [if_pos h, if_pos rfl]
          revert this; cases A x <;> cases A b <;> simp
        · rw [if_neg h, if_neg hx]
      have := hA i hi hne
      unfold ct at this ⊢
      dsimp only
      rw [hAA _ hub, hAA _ hwb]; exact this
    obtain ⟨L, hL, hodd, hdis⟩ := ih (fun j => fo u w k b (u j)) (fun j => fo u w k b (w j)) (sx F (sg e)) _ (by have := cd_take he hFe; omega) hmin hbip
    refine ⟨(fun x => x == b) :: L.map fun S x => S (fo u w k b x), by simp [hL], ?_, ?_⟩
    · intro S hS
      rcases List.mem_cons.mp hS with rfl | hS
      · unfold pc
        rw [pr_one he fun i hi hie => ?_]
        · rw [hFe]; unfold inc at hbe; rw [hbe]; rfl
        · cases hx : F i && ct u w (fun x => x == b) i
          · rfl
          · rw [Bool.and_eq_true] at hx
            have hs : ∀ j, sx F (fun _ => false) j = F j := fun j => by simp [sx]
            exact absurd (hone (fun _ => false) (fun S => pr_zero fun _ _ => by simp) (cd_congr fun j _ => hs j) i e hi he (by rw [hs]; exact hx.1) hx.2 (by rw [hs]; exact hFe) hbe) hie
      · obtain ⟨T, hT, rfl⟩ := List.mem_map.mp hS
        have h1 := hodd T hT
        rw [pc_fo, pc_sx, pc_sg u w he] at h1
        have h2 : ct u w (fun x => T (fo u w k b x)) e = false := by
          unfold ct; dsimp only; rw [(inc_fo he hbe).1, (inc_fo he hbe).2]; cases T b <;> rfl
        rw [h2] at h1
        simpa using h1
    · refine List.pairwise_cons.mpr ⟨?_, ?_⟩
      · intro S hS i hi h
        obtain ⟨T, hT, rfl⟩ := List.mem_map.mp hS
        have h2 := inc_fo hi (show inc u w b i = true from h.1)
        have h3 := h.2
        unfold ct at h3
        dsimp only at h3
        rw [h2.1, h2.2] at h3
        simp at h3
      · rw [List.pairwise_map]
        exact hdis
end Go.Proofs.YtimddkofcejijaaDoor.Sy
