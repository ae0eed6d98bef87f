/- Layer 1: one whole order. -/
import Derived.Test.YtdnbdaegahcoeaaQueueA
import Derived.Laws.EntriesVeiled
import Derived.Deep.RegionLawGrows
namespace Go.Proofs.Ytdnbdaegahcoeaa
open Go.RowKit Go.Sort
/-- the captured variables' blocks: those that put writes differ from all others. -/
structure Dst (pn pp pm pw pc pt pg gt ga B0 : Nat) : Prop where
  m : pm ≠ pn ∧ pm ≠ pp ∧ pm ≠ pw ∧ pm ≠ pc ∧ pm ≠ pt ∧ pm ≠ pg ∧ pm ≠ gt ∧ pm ≠ ga
  g : pg ≠ pn ∧ pg ≠ pp ∧ pg ≠ pw ∧ pg ≠ pc ∧ pg ≠ pt ∧ pg ≠ gt ∧ pg ≠ ga
  t : gt ≠ pn ∧ gt ≠ pp ∧ gt ≠ pw ∧ gt ≠ pc ∧ gt ≠ pt ∧ gt ≠ ga
  b : pm < B0 ∧ pg < B0 ∧ gt < B0
  c : pn < B0 ∧ pp < B0 ∧ pw < B0 ∧ pc < B0 ∧ pt < B0 ∧ ga < B0
abbrev putV (pn pp pm pw pc pt pg : Nat) : Array Value := #[.pointer (some ⟨pn, 0, none⟩), .pointer (some ⟨pp, 0, none⟩), .pointer (some ⟨pm, 0, none⟩), .pointer (some ⟨pw, 0, none⟩), .pointer (some ⟨pc, 0, none⟩), .pointer (some ⟨pt, 0, none⟩), .pointer (some ⟨pg, 0, none⟩)]
structure Cst (pn pp pm pw pc pt pg gt ga oa cap : Nat) (x : Int) (zs : List Int) (w : World) : Prop where
  n : w.cell? ⟨pn, 0, none⟩ = some (.int .i64 zs.length)
  p : w.cell? ⟨pp, 0, none⟩ = some (.func (.func 51) #[] (putV pn pp pm pw pc pt pg))
  u : w.cell? ⟨pw, 0, none⟩ = some (.int .i64 x)
  c : w.cell? ⟨pc, 0, none⟩ = some (.slice (some ⟨ga, oa, none⟩) zs.length cap)
  t : w.cell? ⟨pt, 0, none⟩ = some (.slice (some ⟨gt, 0, none⟩) zs.length zs.length)
  z : ∀ j, j < zs.length → w.cell? ⟨ga, oa + j, none⟩ = some (.int .i64 (nth zs j))
structure Mut (pm pg gt : Nat) (n : Nat) (many : Nat) (tf : Fin 5 → Int) (w : World) : Prop where
  m : w.cell? ⟨pm, 0, none⟩ = some (.int .i64 many)
  mf : w.frozen? ⟨pm, 0, none⟩ = false
  g : w.cell? ⟨pg, 0, none⟩ = some (.bool true)
  gf : w.frozen? ⟨pg, 0, none⟩ = false
  t : RowN w gt ((list5 tf).take n)
structure Oth (pm pg gt : Nat) (w w' : World) : Prop where
  os : w'.os = w.os
  tape : w'.tape = w.tape
  output : w'.output = w.output
  size : w.heap.size ≤ w'.heap.size
  block : ∀ k, k < w.heap.size → k ≠ pm → k ≠ pg → k ≠ gt → w'.heap[k]? = w.heap[k]?
theorem Oth.refl {pm pg gt : Nat} (w : World) : Oth pm pg gt w w := ⟨rfl, rfl, rfl, Nat.le_refl _, fun _ _ _ _ _ => rfl⟩
theorem Oth.trans {pm pg gt : Nat} {a b c : World} (h : Oth pm pg gt a b) (k : Oth pm pg gt b c) : Oth pm pg gt a c :=
  ⟨k.os.trans h.os, k.tape.trans h.tape, k.output.trans h.output, Nat.le_trans h.size k.size, fun i hi h1 h2 h3 => (k.block i (Nat.lt_of_lt_of_le hi h.size) h1 h2 h3).trans (h.block i hi h1 h2 h3)⟩
theorem Oth.of {pm pg gt : Nat} {a b : World} (h : Fut a b) : Oth pm pg gt a b := ⟨RowKit.Below.os h, RowKit.Below.tape h, RowKit.Below.output h, RowKit.Below.size h, fun k hk _ _ _ => RowKit.Below.block h k hk⟩
theorem Oth.set {pm pg gt : Nat} {a b : World} (h : Oth pm pg gt a b) (p k : Nat) (v : Value) (hp : p = pm ∨ p = pg ∨ p = gt) : Oth pm pg gt a (b.setCell ⟨p, k, none⟩ v) :=
  h.trans ⟨rfl, rfl, rfl, by simp [World.setCell], fun i _ h1 h2 h3 => RowKit.Below.heap_setCell _ _ _ _ (by dsimp only; omega)⟩
theorem Oth.cell {pm pg gt : Nat} {w w' : World} (h : Oth pm pg gt w w') {p : Addr} {v : Value} (hc : w.cell? p = some v) (h1 : p.block ≠ pm) (h2 : p.block ≠ pg) (h3 : p.block ≠ gt) : w'.cell? p = some v :=
  (World.cell?_of_block (h.block p.block (World.block_lt_of_cell? w _ hc) h1 h2 h3)).trans hc
theorem Oth.ints {pm pg gt B0 : Nat} {w w' : World} {a : Option Addr} {zs : List Int} (h : Oth pm pg gt w w') (hA : IntsAt w a zs) (hb : ∀ b off, a = some ⟨b, off, none⟩ → B0 ≤ b) (hB : pm < B0 ∧ pg < B0 ∧ gt < B0) : IntsAt w' a zs := fun j hj => by
  obtain ⟨b, off, rfl, h1, h2⟩ := hA j hj
  have := hb b off rfl
  exact ⟨b, off, rfl, Nat.lt_of_lt_of_le h1 h.size, h.cell h2 (by dsimp only; omega) (by dsimp only; omega) (by dsimp only; omega)⟩
theorem Cst.oth {pn pp pm pw pc pt pg gt ga oa cap B0 : Nat} {x : Int} {zs : List Int} {w w' : World} (h : Cst pn pp pm pw pc pt pg gt ga oa cap x zs w) (D : Dst pn pp pm pw pc pt pg gt ga B0) (o : Oth pm pg gt w w') : Cst pn pp pm pw pc pt pg gt ga oa cap x zs w' := by
  obtain ⟨m1, m2, m3, m4, m5, m6, m7, m8⟩ := D.m
  obtain ⟨g1, g2, g3, g4, g5, g6, g7⟩ := D.g
  obtain ⟨t1, t2, t3, t4, t5, t6⟩ := D.t
  exact ⟨o.cell h.n m1.symm g1.symm t1.symm, o.cell h.p m2.symm g2.symm t2.symm, o.cell h.u m3.symm g3.symm t3.symm, o.cell h.c m4.symm g4.symm t4.symm, o.cell h.t m5.symm g5.symm t5.symm, fun j hj => o.cell (h.z j hj) m8.symm g7.symm t6.symm⟩
theorem far_cell {w : World} {g k : Nat} {v u : Value} {p : Addr} (h : w.cell? p = some u) (hne : p.block ≠ g) : (w.setCell ⟨g, k, none⟩ v).cell? p = some u := by
  rw [World.cell?_setCell_other _ _ _ _ (fun e => hne (by rw [← e]))]; exact h
theorem Cst.far {pn pp pm pw pc pt pg gt ga oa cap B0 : Nat} {x : Int} {zs : List Int} {w : World} (h : Cst pn pp pm pw pc pt pg gt ga oa cap x zs w) (D : Dst pn pp pm pw pc pt pg gt ga B0) (g k : Nat) (v : Value) (hg : B0 ≤ g) : Cst pn pp pm pw pc pt pg gt ga oa cap x zs (w.setCell ⟨g, k, none⟩ v) := by
  obtain ⟨c1, c2, c3, c4, c5, c6⟩ := D.c
  exact ⟨far_cell h.n (by dsimp only; omega), far_cell h.p (by dsimp only; omega), far_cell h.u (by dsimp only; omega), far_cell h.c (by dsimp only; omega), far_cell h.t (by dsimp only; omega), fun j hj => far_cell (h.z j hj) (by dsimp only; omega)⟩
theorem Mut.far {pm pg gt n many B0 : Nat} {tf : Fin 5 → Int} {w : World} (h : Mut pm pg gt n many tf w) (hB : pm < B0 ∧ pg < B0 ∧ gt < B0) (g k : Nat) (v : Value) (hg : B0 ≤ g) : Mut pm pg gt n many tf (w.setCell ⟨g, k, none⟩ v) :=
  ⟨far_cell h.m (by dsimp only; omega), by rw [World.frozen?_setCell]; exact h.mf, far_cell h.g (by dsimp only; omega), by rw [World.frozen?_setCell]; exact h.gf, h.t.setO (by omega) k v⟩
theorem Oth.far {pm pg gt : Nat} {a b : World} (h : Oth pm pg gt a b) (g k : Nat) (v : Value) (hg : a.heap.size ≤ g) : Oth pm pg gt a (b.setCell ⟨g, k, none⟩ v) :=
  ⟨h.os, h.tape, h.output, by simpa [World.setCell] using h.size, fun i hi h1 h2 h3 => (RowKit.Below.heap_setCell _ _ _ _ (by dsimp only; omega)).trans (h.block i hi h1 h2 h3)⟩
theorem IntsAt.far {w : World} {b off g k : Nat} {v : Value} {zs : List Int} (h : IntsAt w (some ⟨b, off, none⟩) zs) (hne : b ≠ g) : IntsAt (w.setCell ⟨g, k, none⟩ v) (some ⟨b, off, none⟩) zs := fun j hj => by
  obtain ⟨b', off', e, h1, h2⟩ := h j hj
  injection e with e
  injection e with e1 e2
  subst e1 e2
  exact ⟨b, off, rfl, by simpa [World.setCell] using h1, far_cell h2 hne⟩
theorem Mut.add {pm pg gt n many : Nat} {tf : Fin 5 → Int} {w : World} (h : Mut pm pg gt n many tf w) (h1 : gt ≠ pm) (h2 : gt ≠ pg) (hn : n ≤ 5) (d : Fin 5) (hd : d.val < n) (v : Int) : Mut pm pg gt n many (upd tf d v) (w.setCell ⟨gt, d.val, none⟩ (.int .i64 v)) :=
  ⟨far_cell h.m (fun e => h1 e.symm), by rw [World.frozen?_setCell]; exact h.mf, far_cell h.g (fun e => h2 e.symm), by rw [World.frozen?_setCell]; exact h.gf, by
    rw [← list5_set tf n hn d hd v]; exact h.t.set d.val v (by rw [list5_len _ _ hn]; exact hd)⟩
theorem Mut.good {pm pg gt n many : Nat} {tf : Fin 5 → Int} {w : World} (h : Mut pm pg gt n many tf w) (h1 : pm ≠ pg) (h2 : pg ≠ gt) : Mut pm pg gt n many tf (w.setCell ⟨pg, 0, none⟩ (.bool true)) :=
  ⟨far_cell h.m h1, by rw [World.frozen?_setCell]; exact h.mf, World.cell?_setCell_same _ _ _ h.g, by rw [World.frozen?_setCell]; exact h.gf, h.t.setO h2 0 _⟩
theorem Mut.drew {pm pg gt n many : Nat} {tf : Fin 5 → Int} {w : World} (h : Mut pm pg gt n many tf w) : Mut pm pg gt n many tf w.drew := ⟨h.m, h.mf, h.g, h.gf, h.t⟩
theorem Mut.fut {pm pg gt n many : Nat} {tf : Fin 5 → Int} {w w' : World} (h : Mut pm pg gt n many tf w) (F : Fut w w') (hg : gt < w.heap.size) : Mut pm pg gt n many tf w' :=
  ⟨ptr_fut h.m F, (RowKit.Below.frozen F (p := ⟨pm, 0, none⟩) (World.block_lt_of_cell? _ _ h.m)).trans h.mf, ptr_fut h.g F, (RowKit.Below.frozen F (p := ⟨pg, 0, none⟩) (World.block_lt_of_cell? _ _ h.g)).trans h.gf, h.t.below F hg⟩
abbrev PutPost (pm pg gt n many : Nat) (tf : Fin 5 → Int) (w : World) (e : Ending) (w' : World) : Prop :=
  e = .returned (.tuple #[]) ∧ Mut pm pg gt n many tf w' ∧ Oth pm pg gt w w'
theorem od_len (x : Int) (a c : Option Addr) (cap dap : Nat) (zs : List Int) (ds : List (Fin 5)) (w : World) (h : Full5 x zs) (hp : ds.Perm (idxL zs.length)) (hA : IntsAt w a zs) (hG : IntsAt w c (valL ds)) :
    Calls Try.prog 28 #[.int .i64 x, .slice a zs.length cap, .slice c zs.length dap] w (SlN zs.length w ((list5 (inF (K zs) ds (x * 120) (fun _ => 0))).take zs.length)) := by
  have hl : ds.length = zs.length := by rw [hp.length_eq, idxL_length _ h.2.1]
  have ho : onceE zs.length (valL ds) = 0 := by
    unfold onceE
    rw [if_neg (by rw [valL_length, hl]; simp)]
    exact once_ok zs.length ds _ (hp.nodup_iff.2 (idxL_nodup _)) fun d hd => ⟨idx_lt ⟨zs.length, by have := h.2.1; omega⟩ d (hp.mem_iff.1 hd), rfl⟩
  have := order_ok x a c cap dap zs ds w hA hG (full_chk h) ho
  rw [hl] at this
  exact own_slN rfl (list5_len _ _ h.2.1) this
set_option maxRecDepth 100000 in
set_option maxHeartbeats 4000000 in
theorem put_leaf (pn pp pm pw pc pt pg gt ga oa cap B0 : Nat) (x : Int) (zs : List Int) (hF : Full5 x zs) (D : Dst pn pp pm pw pc pt pg gt ga B0) (os : List (Fin 5)) (hp : os.Perm (idxL zs.length)) (bo : Option Addr) (co : Nat) (many : Nat) (tf : Fin 5 → Int) (w : World)
    (hC : Cst pn pp pm pw pc pt pg gt ga oa cap x zs w) (hM : Mut pm pg gt zs.length many tf w) (hO : IntsAt w bo (valL os)) (hb : ∀ b off, bo = some ⟨b, off, none⟩ → B0 ≤ b) (hB0 : B0 ≤ w.heap.size) (hmb : many ≤ 1000000) (htb : ∀ i, 0 ≤ tf i ∧ tf i ≤ 1000000000000) :
    Calls Try.prog 51 (#[.slice bo zs.length co] ++ putV pn pp pm pw pc pt pg) w (PutPost pm pg gt zs.length (many + 1) (fun i => tf i + inF (K zs) os (x * 120) (fun _ => 0) i) w) := by
  have h1 := hF.1
  have h5 := hF.2.1
  have HK := Lib.hid hF
  have HC := Lib.hid hC
  have hMK := mk5 zs.length h5
  have c1 := hC.n
  have c2 := hC.u
  have m1 := hM.m
  have m2 := hM.mf
  have hlx : ¬ ((zs.length : Int) < zs.length) := by omega
  have hmb' : (many : Int) ≤ 1000000 := by omega
  have HM := Lib.hid hM
  have HTB := Lib.hid htb
  have HO := Lib.hid hO
  have HD := Lib.hid D
  have hbw : ∀ b off, bo = some ⟨b, off, none⟩ → b < w.heap.size := fun b off e => by
    obtain ⟨b', off', e', h, _⟩ := hO 0 (by rw [valL_length, hp.length_eq, idxL_length _ h5]; omega)
    rw [e] at e'
    injection e' with e'
    injection e' with e1 _
    omega
  clear hC hM hF htb hO D
  show Calls Try.prog 51 #[.slice bo zs.length co, .pointer (some ⟨pn, 0, none⟩), .pointer (some ⟨pp, 0, none⟩), .pointer (some ⟨pm, 0, none⟩), .pointer (some ⟨pw, 0, none⟩), .pointer (some ⟨pc, 0, none⟩), .pointer (some ⟨pt, 0, none⟩), .pointer (some ⟨pg, 0, none⟩)] w _
  go_enter Try.func51, Try.ntmps51
  go_upto_region 8 with fail
  have O1 : Oth pm pg gt w (w.setCell ⟨pm, 0, none⟩ (.int .i64 ((many : Int) + 1))) := (Oth.refl w).set pm 0 _ (.inl rfl)
  have C1 := HC.out.oth HD.out O1
  have M1 : Mut pm pg gt zs.length (many + 1) tf (w.setCell ⟨pm, 0, none⟩ (.int .i64 ((many : Int) + 1))) :=
    ⟨by rw [show ((many + 1 : Nat) : Int) = (many : Int) + 1 by omega]; exact World.cell?_setCell_same _ _ _ HM.out.m, by rw [World.frozen?_setCell]; exact HM.out.mf,
      by rw [World.cell?_setCell_other _ _ _ _ (by intro h; injection h with h; exact HD.out.m.2.2.2.2.2.1 h)]; exact HM.out.g, by rw [World.frozen?_setCell]; exact HM.out.gf, HM.out.t.setO HD.out.m.2.2.2.2.2.2.1 0 _⟩
  have I1 := O1.ints HO.out hb HD.out.b
  have hsz1 : B0 ≤ (w.setCell ⟨pm, 0, none⟩ (.int .i64 ((many : Int) + 1))).heap.size := Nat.le_trans hB0 O1.size
  generalize w.setCell ⟨pm, 0, none⟩ (.int .i64 ((many : Int) + 1)) = ws at *
  have HO1 := Lib.hid O1
  have HC1 := Lib.hid C1
  have HM1 := Lib.hid M1
  have HI1 := Lib.hid I1
  have d1 := C1.u
  have d2 := C1.n
  clear O1 C1 M1 I1 c1 c2 m1 m2 HC HM HO
  go_wp2_with fail
  have hmade := made_row ws zs.length
  have hF0 : Fut ws (ws.alloc (.cells (Array.replicate zs.length (Value.int .i64 0)) 3)) := Fut.alloc _ _
  have hgt1 : gt < ws.heap.size := World.block_lt_of_cell? _ _ (HM1.out.t.cell 0 (by rw [list5_len _ _ h5]; omega))
  have HC2 := Lib.hid (HC1.out.oth HD.out (Oth.of hF0))
  have HM2 := Lib.hid (HM1.out.fut hF0 hgt1)
  have HI2 := Lib.hid (HI1.out.fut hF0)
  have HO2 : Hid (Oth pm pg gt w (ws.alloc (.cells (Array.replicate zs.length (Value.int .i64 0)) 3))) := Lib.hid (HO1.out.trans (Oth.of hF0))
  have hgw : B0 ≤ ws.heap.size := hsz1
  have hgw0 : w.heap.size ≤ ws.heap.size := HO1.out.size
  have hwlt : ws.heap.size < (ws.alloc (.cells (Array.replicate zs.length (Value.int .i64 0)) 3)).heap.size := by simp
  generalize ws.alloc (.cells (Array.replicate zs.length (Value.int .i64 0)) 3) = wt at *
  generalize ws.heap.size = gw at *
  have HW2 : Hid (RowN wt gw ((list5 (inF (K zs) (os.take 0) (x * 120) (fun _ => 0))).take zs.length)) := Lib.hid (by
    have e : (list5 (inF (K zs) (os.take 0) (x * 120) (fun _ => 0))).take zs.length = List.replicate zs.length 0 := by
      have : ∀ n : Fin 6, (list5 (fun _ => (0 : Int))).take n.val = List.replicate n.val 0 := by decide
      exact this ⟨zs.length, by omega⟩
    rw [e]; exact hmade)
  clear hmade hF0 d1 d2 HC1 HM1 HI1 HO1 hMK
  have hx0 := HK.out.2.2.2
  have hsm := full_sum HK.out
  have hol : os.length = zs.length := by rw [hp.length_eq, idxL_length _ h5]
  have hnd := Lib.hid (hp.nodup_iff.2 (idxL_nodup zs.length))
  have hdl := Lib.hid (fun d hd => idx_lt ⟨zs.length, by omega⟩ d (hp.mem_iff.1 hd))
  go_wp2_with fail
  go_loopw [10, 47] (fun lv jv wr => ∃ (j : Nat) (l : Int), j ≤ zs.length ∧ jv = .int .i64 j ∧ lv = .int .i64 l ∧ (0 ≤ l ∧ l ≤ 5000) ∧ Hid (120 * l = rst (K zs) (os.take j) (x * 120)) ∧ Hid (Cst pn pp pm pw pc pt pg gt ga oa cap x zs wr) ∧
      Hid (Mut pm pg gt zs.length (many + 1) (fun i => tf i + inF (K zs) (os.take j) (x * 120) (fun _ => 0) i) wr) ∧ Hid (IntsAt wr bo (valL os)) ∧ Hid (RowN wr gw ((list5 (inF (K zs) (os.take j) (x * 120) (fun _ => 0))).take zs.length)) ∧ Hid (Oth pm pg gt w wr) ∧ gw < wr.heap.size) (fun _ jv _ => zs.length - (intOf jv).toNat)
  case atStart => exact ⟨0, x, Nat.zero_le _, rfl, rfl, by omega, Lib.hid (by show 120 * x = x * 120; omega), HC2, by
    have e : (fun i => tf i + inF (K zs) (os.take 0) (x * 120) (fun _ => 0) i) = tf := by funext i; show tf i + 0 = tf i; omega
    rw [e]; exact HM2, HI2, HW2, HO2, hwlt⟩
  case round =>
    obtain ⟨j, l, hj, rfl, rfl, ⟨hl0, hl1⟩, HL, HC3, HM3, HI3, HW3, HO3, hgwl⟩ := hrel
    clear HC2 HM2 HI2 HW2 HO2
    by_cases hjt : j < zs.length
    · have hjo : j < os.length := by omega
      obtain ⟨bb, ob, rfl, hbb, hob⟩ := HI3.out.addr (by rw [valL_length]; omega)
      have e0 : wr.cell? ⟨bb, ob + j, none⟩ = some (.int .i64 ((os[j]'hjo).val : Int)) := by rw [hob j (by rw [valL_length]; exact hjo), valL_nth _ _ hjo]
      have hdn := hdl.out (os[j]'hjo) (List.getElem_mem hjo)
      have htk : os.take (j + 1) = os.take j ++ [os[j]'hjo] := by rw [List.take_add_one, List.getElem?_eq_getElem hjo]; rfl
      have hni : os[j]'hjo ∉ os.take j := by
        have h2 := hnd.out
        rw [← List.take_append_drop (j + 1) os, htk] at h2
        have h3 := (List.nodup_append.1 h2).1
        have h4 := (List.nodup_append.1 h3).2.2
        exact fun h => h4 _ h _ (List.mem_singleton.2 rfl) rfl
      have HTK := Lib.hid htk
      have HNI := Lib.hid hni
      generalize hdd : os[j]'hjo = d at *
      clear htk hni hdd
      have hjx : (j : Int) < zs.length := by omega
      have hdx : ((d.val : Nat) : Int) < zs.length := by omega
      have z1 := HC3.out.z d.val hdn
      have k1 := HC3.out.c
      have k2 := HC3.out.t
      obtain ⟨n1, n2⟩ := full_nth HK.out d.val
      have w1 := HW3.out.cell d.val (by rw [list5_len _ _ h5]; exact hdn)
      have w2 := HW3.out.2 d.val
      clear hob
      have hbbw := hbw bb ob rfl
      go_upto_region 14 with fail
      have hrs : min (K zs d) (rst (K zs) (os.take j) (x * 120)) = 120 * min l (nth zs d.val) := by
        rw [← HL.out]; show min (nth zs d.val * 120) _ = _; omega
      have hin0 : inF (K zs) (os.take j) (x * 120) (fun _ => 0) d = 0 := inF_not _ _ _ _ _ HNI.out
      have HC4 := Lib.hid (HC3.out.far HD.out gw d.val (.int .i64 (120 * min l (nth zs d.val))) hgw)
      have HM4 := Lib.hid (HM3.out.far HD.out.b gw d.val (.int .i64 (120 * min l (nth zs d.val))) hgw)
      have HO4 := Lib.hid (HO3.out.far gw d.val (.int .i64 (120 * min l (nth zs d.val))) hgw0)
      have HI4 := Lib.hid (IntsAt.far (g := gw) (k := d.val) (v := .int .i64 (120 * min l (nth zs d.val))) HI3.out (by omega))
      have HW4 : Hid (RowN (wr.setCell ⟨gw, d.val, none⟩ (.int .i64 (120 * min l (nth zs d.val)))) gw ((list5 (inF (K zs) (os.take (j + 1)) (x * 120) (fun _ => 0))).take zs.length)) := Lib.hid (by
        have h := HW3.out.set d.val (120 * min l (nth zs d.val)) (by rw [list5_len _ _ h5]; exact hdn)
        rw [list5_set _ _ h5 d hdn, ← hrs, ← inF_snoc, ← HTK.out] at h
        rw [← hrs]; exact h)
      have HL4 : Hid (120 * (max 0 (l - nth zs d.val)) = rst (K zs) (os.take (j + 1)) (x * 120)) := Lib.hid (by
        rw [HTK.out, rst_snoc, hrs, ← HL.out]; omega)
      have hgwl4 : gw < (wr.setCell ⟨gw, d.val, none⟩ (.int .i64 (120 * min l (nth zs d.val)))).heap.size := by simpa [World.setCell] using hgwl
      have HV : Hid (inF (K zs) (os.take (j + 1)) (x * 120) (fun _ => 0) = upd (inF (K zs) (os.take j) (x * 120) (fun _ => 0)) d (120 * min l (nth zs d.val))) := Lib.hid (by rw [HTK.out, inF_snoc, hrs])
      generalize wr.setCell ⟨gw, d.val, none⟩ (.int .i64 (120 * min l (nth zs d.val))) = wu at *
      have z2 := HC4.out.z d.val hdn
      have q1 := HC4.out.c
      have q2 := HC4.out.t
      have v1 : wu.cell? ⟨gw, d.val, none⟩ = some (.int .i64 (120 * min l (nth zs d.val))) := by
        have h := HW4.out.cell d.val (by rw [list5_len _ _ h5]; exact hdn)
        rw [list5_nth _ _ h5 _ hdn, HV.out] at h
        simpa [upd] using h
      have v2 : wu.cell? ⟨gt, d.val, none⟩ = some (.int .i64 (tf d)) := by
        have h := HM4.out.t.cell d.val (by rw [list5_len _ _ h5]; exact hdn)
        rw [list5_nth _ _ h5 _ hdn] at h
        have e : (⟨d.val, by omega⟩ : Fin 5) = d := rfl
        rw [e, hin0] at h
        simpa using h
      have v3 := HM4.out.t.2 d.val
      obtain ⟨tb0, tb1⟩ := HTB.out d
      have hma := Lib.hid (HM4.out.add (Ne.symm HD.out.m.2.2.2.2.2.2.1) (Ne.symm HD.out.g.2.2.2.2.2.1) h5 d hdn (tf d + 120 * min l (nth zs d.val)))
      have HEQ : Hid (upd (fun i => tf i + inF (K zs) (os.take j) (x * 120) (fun _ => 0) i) d (tf d + 120 * min l (nth zs d.val)) = fun i => tf i + inF (K zs) (os.take (j + 1)) (x * 120) (fun _ => 0) i) := Lib.hid (by
        funext i
        rw [HV.out]
        unfold upd
        by_cases e : i = d
        · rw [if_pos e, if_pos e, e]
        · rw [if_neg e, if_neg e])
      have HMA : Hid (Mut pm pg gt zs.length (many + 1) (fun i => tf i + inF (K zs) (os.take (j + 1)) (x * 120) (fun _ => 0) i) (wu.setCell ⟨gt, d.val, none⟩ (.int .i64 (tf d + 120 * min l (nth zs d.val))))) := Lib.hid (by rw [← HEQ.out]; exact hma.out)
      clear hma HEQ HC3 HM3 HI3 HW3 HO3 hrs hin0 z1 k1 k2 w1 w2 e0 HL
      generalize hzd : nth zs d.val = zd at *
      have hv0 : 0 ≤ 120 * min l zd := by omega
      have hv1 : 120 * min l zd ≤ 600000 := by omega
      have hgtw : gt ≠ gw := by have := HD.out.b; omega
      have hll : max 0 (l - zd) ≤ 5000 := by omega
      clear hzd
      go_wp2_with fail
      go_region
      all_goals
        go_wp2
        go_roundw
        case rel => exact ⟨j + 1, max 0 (l - zd), by omega, by go_num, rfl, ⟨by omega, hll⟩, HL4, Lib.hid ((HC4.out.oth HD.out ((Oth.refl wu).set gt d.val (.int .i64 (tf d + 120 * min l zd)) (.inr (.inr rfl)))).oth HD.out (Oth.of (Fut.drewN _ 1))), Lib.hid HMA.out.drew, Lib.hid ((IntsAt.far (g := gt) (k := d.val) (v := .int .i64 (tf d + 120 * min l zd)) HI4.out (by have := hb bb ob rfl; have := HD.out.b; omega)).fut (Fut.drewN _ 1)), Lib.hid ((HW4.out.setO hgtw d.val _).drew), Lib.hid ((HO4.out.set gt d.val _ (.inr (.inr rfl))).trans (Oth.of (Fut.drewN _ 1))), by simpa [World.setCell] using hgwl4⟩
        case measure => simp [intOf]; omega
    · obtain rfl : j = zs.length := by omega
      rw [← hol, List.take_length] at HL HM3 HW3
      have q1 := HC3.out.u
      have q2 := HC3.out.c
      have hzi : IntsAt wr (some ⟨ga, oa, none⟩) zs := fun j hj => ⟨ga, oa, rfl, World.block_lt_of_cell? _ _ (HC3.out.z j hj), HC3.out.z j hj⟩
      have hod := Lib.hid (od_len x (some ⟨ga, oa, none⟩) bo cap co zs os wr HK.out hp hzi HI3.out)
      have hgtl : gt < wr.heap.size := World.block_lt_of_cell? _ _ (HM3.out.t.cell 0 (by rw [list5_len _ _ (by omega)]; omega))
      clear hzi HL
      go_wp2_with fail
      refine hod.out.mono ?_
      rintro _ wv ⟨lr, cr, rfl, hr, F⟩
      have HM5 := Lib.hid (HM3.out.fut F (by rw [hol] at *; exact hgtl))
      have HW5 := Lib.hid (HW3.out.below F hgwl)
      have HO5 : Hid (Oth pm pg gt w wv) := Lib.hid (HO3.out.trans (Oth.of F))
      have HR5 := Lib.hid hr
      clear hod hr F HM3 HW3 HO3 HI3 HC3 q1 q2
      have g1 := HM5.out.g
      have hsl := Lib.hid (same_len lr (some ⟨gw, 0, none⟩) cr zs.length zs.length _ _ wv h5 (list5_len _ _ h5) (list5_len _ _ h5) HR5.out (by rw [hol] at HW5; exact HW5.out.ints))
      go_wp2_with fail
      refine hsl.out.mono ?_
      have hself : sameB ((list5 (inF (K zs) os (x * 120) (fun _ => 0))).take zs.length) ((list5 (inF (K zs) os (x * 120) (fun _ => 0))).take zs.length) = true := by simp [sameB]
      rw [hself]
      rintro _ wx ⟨rfl, F⟩
      have HM6 := Lib.hid (HM5.out.fut F (World.block_lt_of_cell? _ _ (HM5.out.t.cell 0 (by rw [list5_len _ _ (by omega)]; omega))))
      have HO6 : Hid (Oth pm pg gt w wx) := Lib.hid (HO5.out.trans (Oth.of F))
      clear F g1 hsl hself HM5 HO5 HW5 HR5
      have g1 := HM6.out.g
      have g2 := HM6.out.gf
      go_wp2_with fail
      go_end0
      refine ⟨rfl, ?_, HO6.out.set pg 0 _ (.inr (.inl rfl))⟩
      rw [hol] at HM6
      exact HM6.out.good HD.out.m.2.2.2.2.2.1 (HD.out.g.2.2.2.2.2.1)
end Go.Proofs.Ytdnbdaegahcoeaa
