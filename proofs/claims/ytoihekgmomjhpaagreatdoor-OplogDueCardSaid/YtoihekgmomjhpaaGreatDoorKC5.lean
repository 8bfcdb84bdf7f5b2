/-
  Texts laid into one (a claim has 60 files at most): CPF.
-/
import Derived.Test.YtoihekgmomjhpaaGreatDoorKC4
import Derived.Deep.RegionHeld3
/-
  The program's parseFields (layer 4).
-/
set_option linter.unusedVariables false
namespace Go.Proofs.YtoihekgmomjhpaaGreatDoor
open Go.RowKit Crn
/-- What lies in the world while parseFields runs: the spec that comes back, the sets so far, the texts. -/
structure PF (w wr : World) (A : Nat) (t0 t1 t2 t3 t4 : Bytes) (m3 m4 : Value) (cs : Array Value) : Prop where
  res : wr.heap[w.heap.size]? = some (.cells #[.int .u64 0, .int .u64 0, .int .u64 0, .int .u64 0, .int .u64 0, .bool false, .bool false, .int .i64 0] 157)
  row : wr.heap[w.heap.size + 1]? = some (.cells cs 188)
  x0 : wr.cell? ⟨A, 0, none⟩ = some (.string (bs t0))
  x1 : wr.cell? ⟨A, 1, none⟩ = some (.string (bs t1))
  x2 : wr.cell? ⟨A, 2, none⟩ = some (.string (bs t2))
  x3 : wr.cell? ⟨A, 3, none⟩ = some (.string (bs t3))
  x4 : wr.cell? ⟨A, 4, none⟩ = some (.string (bs t4))
  lt : A < w.heap.size
  two : max 1 3 < w.heap.size
  size : w.heap.size + 2 ≤ wr.heap.size
  below : Below w.heap.size w wr
  tab : Tab wr
  n3 : NamesAt wr m3 3
  n4 : NamesAt wr m4 4
theorem PF.step {w wr w' : World} {A : Nat} {t0 t1 t2 t3 t4 : Bytes} {m3 m4 : Value} {cs : Array Value} (h : PF w wr A t0 t1 t2 t3 t4 m3 m4 cs) (k : Below wr.heap.size wr w') : PF w w' A t0 t1 t2 t3 t4 m3 m4 cs := by
  have hA : A < wr.heap.size := by have := h.lt; have := h.size; omega
  have s0 : w.heap.size < wr.heap.size := by have := h.size; omega
  have s1 : w.heap.size + 1 < wr.heap.size := by have := h.size; omega
  exact ⟨(k.block _ s0).trans h.res, (k.block _ s1).trans h.row, (k.cell (p := ⟨A, 0, none⟩) hA).trans h.x0, (k.cell (p := ⟨A, 1, none⟩) hA).trans h.x1, (k.cell (p := ⟨A, 2, none⟩) hA).trans h.x2, (k.cell (p := ⟨A, 3, none⟩) hA).trans h.x3, (k.cell (p := ⟨A, 4, none⟩) hA).trans h.x4,
    h.lt, h.two, Nat.le_trans h.size k.size, h.below.trans (k.mono (by omega)), h.tab.below k, h.n3.below k (Nat.le_refl _), h.n4.below k (Nat.le_refl _)⟩
theorem PF.grow {w wr : World} {A : Nat} {t0 t1 t2 t3 t4 : Bytes} {m3 m4 : Value} {cs : Array Value} (h : PF w wr A t0 t1 t2 t3 t4 m3 m4 cs) (o : Obj) : PF w (wr.alloc o) A t0 t1 t2 t3 t4 m3 m4 cs := h.step ((Below.refl _ _).alloc (Nat.le_refl _) o)
theorem PF.drew {w wr : World} {A : Nat} {t0 t1 t2 t3 t4 : Bytes} {m3 m4 : Value} {cs : Array Value} (h : PF w wr A t0 t1 t2 t3 t4 m3 m4 cs) : PF w wr.drew A t0 t1 t2 t3 t4 m3 m4 cs := h.step ((Below.refl _ _).drew)
theorem Tab.keep {B : Nat} {w w' : World} (t : Tab w) (h : Below B w w') (hB : max 1 3 < B) : Tab w' := by
  refine ⟨fun f hf => ?_, ?_, Nat.lt_of_lt_of_le t.size h.size⟩
  · obtain ⟨a, b⟩ := t.spans f hf
    exact ⟨(h.cell (p := ⟨1, 2 * f, none⟩) (by show 1 < B; omega)).trans a, (h.cell (p := ⟨1, 2 * f + 1, none⟩) (by show 1 < B; omega)).trans b⟩
  · obtain ⟨m, hm⟩ := t.most
    exact ⟨m, (h.cell (p := ⟨3, 0, none⟩) (by show 3 < B; omega)).trans hm⟩
theorem NamesAt.set {w : World} {m : Value} {f g i : Nat} (h : NamesAt w m f) {cs : Array Value} {t : TypeId} (hg : w.heap[g]? = some (.cells cs t)) (v : Value) : NamesAt (w.setCell ⟨g, i, none⟩ v) m f := by
  rcases h with h | ⟨b, e, es, clock, h1, h2⟩
  · exact Or.inl h
  · refine Or.inr ⟨b, e, es, clock, (heap_setCell_other _ _ _ _ ?_).trans h1, h2⟩
    intro e2
    have e3 : b = g := e2
    rw [e3, hg] at h1
    cases h1
theorem PF.set {w wr : World} {A : Nat} {t0 t1 t2 t3 t4 : Bytes} {m3 m4 : Value} {cs : Array Value} (h : PF w wr A t0 t1 t2 t3 t4 m3 m4 cs) (i : Nat) (v : Value) : PF w (wr.setCell ⟨w.heap.size + 1, i, none⟩ v) A t0 t1 t2 t3 t4 m3 m4 (cs.setIfInBounds i v) := by
  have k : Below (w.heap.size + 1) wr (wr.setCell ⟨w.heap.size + 1, i, none⟩ v) := Below.setCell (p := ⟨w.heap.size + 1, i, none⟩) (Below.refl (w.heap.size + 1) wr) (Nat.le_refl _) v
  have hA : A < w.heap.size + 1 := by have := h.lt; omega
  exact ⟨(k.block _ (by omega)).trans h.res, heap_setCell_same wr _ i cs 188 v h.row, (k.cell (p := ⟨A, 0, none⟩) hA).trans h.x0, (k.cell (p := ⟨A, 1, none⟩) hA).trans h.x1, (k.cell (p := ⟨A, 2, none⟩) hA).trans h.x2, (k.cell (p := ⟨A, 3, none⟩) hA).trans h.x3, (k.cell (p := ⟨A, 4, none⟩) hA).trans h.x4,
    h.lt, h.two, Nat.le_trans h.size k.size, h.below.trans (k.mono (by omega)), h.tab.keep k (by have := h.two; omega), h.n3.set h.row v, h.n4.set h.row v⟩
theorem PF.loads {w wr : World} {A : Nat} {t0 t1 t2 t3 t4 : Bytes} {m3 m4 : Value} {v0 v1 v2 v3 v4 : Nat} (h : PF w wr A t0 t1 t2 t3 t4 m3 m4 #[.int .u64 v0, .int .u64 v1, .int .u64 v2, .int .u64 v3, .int .u64 v4]) :
    wr.cell? ⟨w.heap.size + 1, 0, none⟩ = some (.int .u64 v0) ∧ wr.cell? ⟨w.heap.size + 1, 1, none⟩ = some (.int .u64 v1) ∧ wr.cell? ⟨w.heap.size + 1, 2, none⟩ = some (.int .u64 v2) ∧ wr.cell? ⟨w.heap.size + 1, 3, none⟩ = some (.int .u64 v3) ∧ wr.cell? ⟨w.heap.size + 1, 4, none⟩ = some (.int .u64 v4) ∧ wr.cell? ⟨A, 2, none⟩ = some (.string (bs t2)) ∧ wr.cell? ⟨A, 4, none⟩ = some (.string (bs t4)) :=
  ⟨cell_of_row wr (w.heap.size + 1) 0 _ 188 (0, 0) h.row, cell_of_row wr (w.heap.size + 1) 1 _ 188 (0, 0) h.row, cell_of_row wr (w.heap.size + 1) 2 _ 188 (0, 0) h.row, cell_of_row wr (w.heap.size + 1) 3 _ 188 (0, 0) h.row, cell_of_row wr (w.heap.size + 1) 4 _ 188 (0, 0) h.row, h.x2, h.x4⟩
theorem PF.stores {w wr : World} {A : Nat} {t0 t1 t2 t3 t4 : Bytes} {m3 m4 : Value} {cs : Array Value} (h : PF w wr A t0 t1 t2 t3 t4 m3 m4 cs) :
    wr.cell? ⟨w.heap.size, 0, none⟩ = some (.int .u64 0) ∧ wr.cell? ⟨w.heap.size, 1, none⟩ = some (.int .u64 0) ∧ wr.cell? ⟨w.heap.size, 2, none⟩ = some (.int .u64 0) ∧ wr.cell? ⟨w.heap.size, 3, none⟩ = some (.int .u64 0) ∧ wr.cell? ⟨w.heap.size, 4, none⟩ = some (.int .u64 0) ∧ wr.cell? ⟨w.heap.size, 5, none⟩ = some (.bool false) ∧ wr.cell? ⟨w.heap.size, 6, none⟩ = some (.bool false) ∧ wr.cell? ⟨w.heap.size, 7, none⟩ = some (.int .i64 0) ∧ wr.frozen? ⟨w.heap.size, 0, none⟩ = false ∧ wr.frozen? ⟨w.heap.size, 1, none⟩ = false ∧ wr.frozen? ⟨w.heap.size, 2, none⟩ = false ∧ wr.frozen? ⟨w.heap.size, 3, none⟩ = false ∧ wr.frozen? ⟨w.heap.size, 4, none⟩ = false ∧ wr.frozen? ⟨w.heap.size, 5, none⟩ = false ∧ wr.frozen? ⟨w.heap.size, 6, none⟩ = false ∧ wr.frozen? ⟨w.heap.size, 7, none⟩ = false :=
  ⟨cell_of_row wr w.heap.size 0 _ 157 (0, 0) h.res, cell_of_row wr w.heap.size 1 _ 157 (0, 0) h.res, cell_of_row wr w.heap.size 2 _ 157 (0, 0) h.res, cell_of_row wr w.heap.size 3 _ 157 (0, 0) h.res, cell_of_row wr w.heap.size 4 _ 157 (0, 0) h.res, cell_of_row wr w.heap.size 5 _ 157 (0, 0) h.res, cell_of_row wr w.heap.size 6 _ 157 (0, 0) h.res, cell_of_row wr w.heap.size 7 _ 157 (0, 0) h.res, frozen_of_row wr w.heap.size 0 _ 157 h.res, frozen_of_row wr w.heap.size 1 _ 157 h.res, frozen_of_row wr w.heap.size 2 _ 157 h.res, frozen_of_row wr w.heap.size 3 _ 157 h.res, frozen_of_row wr w.heap.size 4 _ 157 h.res, frozen_of_row wr w.heap.size 5 _ 157 h.res, frozen_of_row wr w.heap.size 6 _ 157 h.res, frozen_of_row wr w.heap.size 7 _ 157 h.res⟩
theorem keep8 {W : World} {g b o : Nat} (v0 v1 v2 v3 v4 v5 v6 v7 : Value) (h : b ≠ g) :
    ((((((((W.setCell ⟨g, 0, none⟩ v0).setCell ⟨g, 1, none⟩ v1).setCell ⟨g, 2, none⟩ v2).setCell ⟨g, 3, none⟩ v3).setCell ⟨g, 4, none⟩ v4).setCell ⟨g, 5, none⟩ v5).setCell ⟨g, 6, none⟩ v6).setCell ⟨g, 7, none⟩ v7).cell? ⟨b, o, none⟩ = W.cell? ⟨b, o, none⟩ := by
  have ne : ∀ i : Nat, (⟨g, i, none⟩ : Addr) ≠ ⟨b, o, none⟩ := fun i e => h (by injection e with e; exact e.symm)
  simp only [World.cell?_setCell_other _ _ _ _ (ne _)]
theorem fieldU_lt {f : Nat} (hf : f < 5) {s : Bytes} {n : Nat} (h : fieldU f s = some n) : n < 18446744073709551616 := by
  have key : ∀ (l : List Bytes) (a n : Nat), a < 18446744073709551616 → partsU f l a = some n → n < 18446744073709551616 := by
    intro l
    induction l with
    | nil => intro a n ha h; cases h; exact ha
    | cons p r ih =>
      intro a n ha h
      unfold partsU at h
      split at h
      · rename_i m hm
        exact ih _ _ (Nat.or_lt_two_pow (n := 64) ha (Crn.part_lt hf hm)) h
      · cases h
  exact key _ 0 n (by omega) h
theorem five_no0 (t0 t1 t2 t3 t4 : Bytes) (h : fieldU 0 t0 = none) : five t0 t1 t2 t3 t4 0 = none := by
  have e : field 0 t0 = none := by rw [field_fold (by omega), h]; rfl
  unfold five
  rw [e]
theorem five_no1 (t0 t1 t2 t3 t4 : Bytes) (h : fieldU 1 t1 = none) : five t0 t1 t2 t3 t4 0 = none := by
  have e : field 1 t1 = none := by rw [field_fold (by omega), h]; rfl
  unfold five
  rw [e]
  cases field 0 t0 <;> rfl
theorem five_no2 (t0 t1 t2 t3 t4 : Bytes) (h : fieldU 2 t2 = none) : five t0 t1 t2 t3 t4 0 = none := by
  have e : field 2 t2 = none := by rw [field_fold (by omega), h]; rfl
  unfold five
  rw [e]
  cases field 0 t0 <;> cases field 1 t1 <;> rfl
theorem five_no3 (t0 t1 t2 t3 t4 : Bytes) (h : fieldU 3 t3 = none) : five t0 t1 t2 t3 t4 0 = none := by
  have e : field 3 t3 = none := by rw [field_fold (by omega), h]; rfl
  unfold five
  rw [e]
  cases field 0 t0 <;> cases field 1 t1 <;> cases field 2 t2 <;> rfl
theorem five_no4 (t0 t1 t2 t3 t4 : Bytes) (h : fieldU 4 t4 = none) : five t0 t1 t2 t3 t4 0 = none := by
  have e : field 4 t4 = none := by rw [field_fold (by omega), h]; rfl
  unfold five
  rw [e]
  cases field 0 t0 <;> cases field 1 t1 <;> cases field 2 t2 <;> cases field 3 t3 <;> rfl
theorem five_yes {t0 t1 t2 t3 t4 : Bytes} {v0 v1 v2 v3 v4 : Nat} (h0 : fieldU 0 t0 = some v0) (h1 : fieldU 1 t1 = some v1) (h2 : fieldU 2 t2 = some v2) (h3 : fieldU 3 t3 = some v3) (h4 : fieldU 4 t4 = some v4) :
    five t0 t1 t2 t3 t4 0 = some ⟨v0, v1, v2, v3, wk v4, t2.head? == some 42, t4.head? == some 42, 0⟩ := by
  unfold five
  rw [field_fold (by omega), field_fold (by omega), field_fold (by omega), field_fold (by omega), field_fold (by omega), h0, h1, h2, h3, h4]
  rfl
theorem index_fields0 (m3 m4 : Value) (W : World) : (Instr.index 244 (.agg #[.int .i64 0, .int .i64 59, .map none, .int .i64 0, .int .i64 23, .map none, .int .i64 1, .int .i64 31, .map none, .int .i64 1, .int .i64 12, m3, .int .i64 0, .int .i64 7, m4]) (.int .i64 0)).run Tryz.prog W = .ok (.agg #[.int .i64 0, .int .i64 59, .map none]) W := by
  kernel_rfl
theorem index_fields1 (m3 m4 : Value) (W : World) : (Instr.index 244 (.agg #[.int .i64 0, .int .i64 59, .map none, .int .i64 0, .int .i64 23, .map none, .int .i64 1, .int .i64 31, .map none, .int .i64 1, .int .i64 12, m3, .int .i64 0, .int .i64 7, m4]) (.int .i64 1)).run Tryz.prog W = .ok (.agg #[.int .i64 0, .int .i64 23, .map none]) W := by
  kernel_rfl
theorem index_fields2 (m3 m4 : Value) (W : World) : (Instr.index 244 (.agg #[.int .i64 0, .int .i64 59, .map none, .int .i64 0, .int .i64 23, .map none, .int .i64 1, .int .i64 31, .map none, .int .i64 1, .int .i64 12, m3, .int .i64 0, .int .i64 7, m4]) (.int .i64 2)).run Tryz.prog W = .ok (.agg #[.int .i64 1, .int .i64 31, .map none]) W := by
  kernel_rfl
theorem index_fields3 (m3 m4 : Value) (W : World) : (Instr.index 244 (.agg #[.int .i64 0, .int .i64 59, .map none, .int .i64 0, .int .i64 23, .map none, .int .i64 1, .int .i64 31, .map none, .int .i64 1, .int .i64 12, m3, .int .i64 0, .int .i64 7, m4]) (.int .i64 3)).run Tryz.prog W = .ok (.agg #[.int .i64 1, .int .i64 12, m3]) W := by
  kernel_rfl
theorem index_fields4 (m3 m4 : Value) (W : World) : (Instr.index 244 (.agg #[.int .i64 0, .int .i64 59, .map none, .int .i64 0, .int .i64 23, .map none, .int .i64 1, .int .i64 31, .map none, .int .i64 1, .int .i64 12, m3, .int .i64 0, .int .i64 7, m4]) (.int .i64 4)).run Tryz.prog W = .ok (.agg #[.int .i64 0, .int .i64 7, m4]) W := by
  kernel_rfl
set_option maxRecDepth 100000 in
set_option maxHeartbeats 4000000 in
theorem parseFields_any (A cap : Nat) (t0 t1 t2 t3 t4 : Bytes) (w : World) (tb : Tab w) (z0 : t0.length ≤ 1000) (z1 : t1.length ≤ 1000) (z2 : t2.length ≤ 1000) (z3 : t3.length ≤ 1000) (z4 : t4.length ≤ 1000)
    (x0 : w.cell? ⟨A, 0, none⟩ = some (.string (bs t0))) (x1 : w.cell? ⟨A, 1, none⟩ = some (.string (bs t1))) (x2 : w.cell? ⟨A, 2, none⟩ = some (.string (bs t2))) (x3 : w.cell? ⟨A, 3, none⟩ = some (.string (bs t3))) (x4 : w.cell? ⟨A, 4, none⟩ = some (.string (bs t4))) :
    Calls Tryz.prog 122 #[.slice (some ⟨A, 0, none⟩) 5 cap] w fun e w' => e = answerP (five t0 t1 t2 t3 t4 0) ∧ Below w.heap.size w w' := by
  have hA := World.block_lt_of_cell? w _ x0
  have b2 : Below w.heap.size w ((w.alloc (.cells #[.int .u64 0, .int .u64 0, .int .u64 0, .int .u64 0, .int .u64 0, .bool false, .bool false, .int .i64 0] 157)).alloc (.cells #[.int .u64 0, .int .u64 0, .int .u64 0, .int .u64 0, .int .u64 0] 188)) := ((Below.refl _ _).alloc (Nat.le_refl _) _).alloc (by simp) _
  have hpre : Hid (∀ m3 m4 W, NamesAt W m3 3 → NamesAt W m4 4 → Below ((w.alloc (.cells #[.int .u64 0, .int .u64 0, .int .u64 0, .int .u64 0, .int .u64 0, .bool false, .bool false, .int .i64 0] 157)).alloc (.cells #[.int .u64 0, .int .u64 0, .int .u64 0, .int .u64 0, .int .u64 0] 188)).heap.size ((w.alloc (.cells #[.int .u64 0, .int .u64 0, .int .u64 0, .int .u64 0, .int .u64 0, .bool false, .bool false, .int .i64 0] 157)).alloc (.cells #[.int .u64 0, .int .u64 0, .int .u64 0, .int .u64 0, .int .u64 0] 188)) W →
      PF w W A t0 t1 t2 t3 t4 m3 m4 #[.int .u64 (0 : Nat), .int .u64 (0 : Nat), .int .u64 (0 : Nat), .int .u64 (0 : Nat), .int .u64 (0 : Nat)]) := fun m3 m4 W n3 n4 k => by
    have kw := b2.trans (k.mono (by simp; omega))
    exact ⟨(k.block _ (by simp; omega)).trans (heap_alloc2_old w _ _), (k.block _ (by simp)).trans (heap_alloc2_new w _ _), (kw.cell (p := ⟨A, 0, none⟩) hA).trans x0, (kw.cell (p := ⟨A, 1, none⟩) hA).trans x1, (kw.cell (p := ⟨A, 2, none⟩) hA).trans x2, (kw.cell (p := ⟨A, 3, none⟩) hA).trans x3, (kw.cell (p := ⟨A, 4, none⟩) hA).trans x4,
      hA, tb.size, by have := k.size; simp at this; omega, kw, tb.below kw, n3, n4⟩
  have cf := Lib.hid (fields_any _ (tb.below b2))
  replace b2 := Lib.hid b2
  clear x0 x1 x2 x3 x4
  go_enter Tryz.func122, Tryz.ntmps122
  go_wp2_with fail
  refine cf.out.mono ?_
  rintro e w3 ⟨⟨m3, m4, rfl, n3, n4⟩, k3⟩
  have hF := Lib.hid (hpre.out m3 m4 w3 n3 n4 k3)
  obtain ⟨b3, rfl⟩ : ∃ b3, m3 = .map (some b3) := by
    rcases n3 with ⟨h, _⟩ | ⟨b, e, _⟩
    · exact absurd h (by decide)
    · exact ⟨b, e⟩
  obtain ⟨b4, rfl⟩ : ∃ b4, m4 = .map (some b4) := by
    rcases n4 with ⟨h, _⟩ | ⟨b, e, _⟩
    · exact absurd h (by decide)
    · exact ⟨b, e⟩
  clear n3 n4 k3 cf hpre tb
  simp only [fieldsV]
  go_wp2_with fail
  go_loopw [10] (fun i wr => ∃ k v0 v1 v2 v3 v4 : Nat, k ≤ 5 ∧ i = .int .i64 k ∧ Hid (PF w wr A t0 t1 t2 t3 t4 (.map (some b3)) (.map (some b4)) #[.int .u64 v0, .int .u64 v1, .int .u64 v2, .int .u64 v3, .int .u64 v4]) ∧
      Hid ((0 < k → fieldU 0 t0 = some v0) ∧ (1 < k → fieldU 1 t1 = some v1) ∧ (2 < k → fieldU 2 t2 = some v2) ∧ (3 < k → fieldU 3 t3 = some v3) ∧ (4 < k → fieldU 4 t4 = some v4)) ∧
      Hid (v0 < 18446744073709551616 ∧ v1 < 18446744073709551616 ∧ v2 < 18446744073709551616 ∧ v3 < 18446744073709551616 ∧ v4 < 18446744073709551616)) (fun i _ => 5 - (intOf i).toNat)
  case atStart => exact ⟨0, 0, 0, 0, 0, 0, by omega, rfl, hF, ⟨fun h => by omega, fun h => by omega, fun h => by omega, fun h => by omega, fun h => by omega⟩, ⟨by omega, by omega, by omega, by omega, by omega⟩⟩
  case round =>
    obtain ⟨k, v0, v1, v2, v3, v4, hk, rfl, hF2, hdone, hlt⟩ := hrel
    clear hF
    have hF := hF2
    clear hF2
    have : k = 0 ∨ k = 1 ∨ k = 2 ∨ k = 3 ∨ k = 4 ∨ k = 5 := by omega
    rcases this with rfl | rfl | rfl | rfl | rfl | rfl
    · have cp : Hid (∀ W, Tab W → NamesAt W (.map none) 0 → Calls Tryz.prog 158 #[.agg #[.int .i64 0, .int .i64 59, .map none], .string (bs t0)] W fun e w' => e = answer (fieldU 0 t0) ∧ Below W.heap.size W w') := fun W h1 h2 => fieldParse_any 0 (.map none) (bs t0) W (by omega) (by rw [bs_size]; exact z0) h1 h2
      have hw1 := Lib.hid (hF.out.grow (.cells #[.int .i64 0, .int .i64 59, .map none] 243))
      have c0 : (wr.alloc (.cells #[.int .i64 0, .int .i64 59, .map none] 243)).cell? ⟨wr.heap.size, 0, none⟩ = some (.int .i64 0) := by rw [World.cell?_alloc_new]; rfl
      have c1 : (wr.alloc (.cells #[.int .i64 0, .int .i64 59, .map none] 243)).cell? ⟨wr.heap.size, 1, none⟩ = some (.int .i64 59) := by rw [World.cell?_alloc_new]; rfl
      have c2 : (wr.alloc (.cells #[.int .i64 0, .int .i64 59, .map none] 243)).cell? ⟨wr.heap.size, 2, none⟩ = some (.map none) := by rw [World.cell?_alloc_new]; rfl
      have c3 : (wr.alloc (.cells #[.int .i64 0, .int .i64 59, .map none] 243)).cell? ⟨A, 0, none⟩ = some (.string (bs t0)) := hw1.out.x0
      have hsz : wr.heap.size < (wr.alloc (.cells #[.int .i64 0, .int .i64 59, .map none] 243)).heap.size := by simp
      have hAz : A < (wr.alloc (.cells #[.int .i64 0, .int .i64 59, .map none] 243)).heap.size := by have := hF.out.lt; have := hF.out.size; simp; omega
      have hpl : Hid (∀ n, fieldU 0 t0 = some n → n < 18446744073709551616) := fun n h => fieldU_lt (by omega) h
      have hno : Hid (fieldU 0 t0 = none → five t0 t1 t2 t3 t4 0 = none) := five_no0 t0 t1 t2 t3 t4
      simp only [answer] at cp
      generalize bs t0 = X at *
      generalize hq : fieldU 0 t0 = q at *
      replace hq := Lib.hid hq
      obtain ⟨v, hv⟩ : ∃ v, q.getD 0 = v := ⟨_, rfl⟩
      obtain ⟨o, ho⟩ : ∃ o, q.isSome = o := ⟨_, rfl⟩
      rw [hv, ho] at cp
      replace hv := Lib.hid hv
      replace ho := Lib.hid ho
      have hix := index_fields0 (.map (some b3)) (.map (some b4)) wr
      go_wp2_with fail
      clear hix hF
      generalize wr.alloc (.cells #[.int .i64 0, .int .i64 59, .map none] 243) = w1 at *
      generalize wr.heap.size = B at *
      go_region_held3 (fun w' => w'.cell? ⟨B, 0, none⟩ = some (.int .i64 0) ∧ w'.cell? ⟨B, 1, none⟩ = some (.int .i64 59) ∧ w'.cell? ⟨B, 2, none⟩ = some (.map none) ∧ w'.cell? ⟨A, 0, none⟩ = some (.string X)) (first | exact hc6 | exact ⟨c0, c1, c2, c3⟩ | go_keep)
        (first
          | (go_at_call 158; refine (cp.out _ hw1.out.drew.tab (Or.inl ⟨rfl, rfl⟩)).mono ?_; rintro e w6 ⟨rfl, k6⟩; have hc6 := And.intro ((k6.cell (p := ⟨B, 0, none⟩) hsz).trans c0) (And.intro ((k6.cell (p := ⟨B, 1, none⟩) hsz).trans c1) (And.intro ((k6.cell (p := ⟨B, 2, none⟩) hsz).trans c2) ((k6.cell (p := ⟨A, 0, none⟩) hAz).trans c3))); have hw6 := Lib.hid (hw1.out.drew.step k6); replace k6 := Lib.hid k6))
      clear hw1 k6 hc6 cp c0 c1 c2 c3 hsz hAz
      cases q with
      | none =>
        obtain rfl : 0 = v := hv.out
        obtain rfl : false = o := ho.out
        have hres := Lib.hid (hno.out rfl)
        clear hno hpl hq hv ho hdone hlt
        have r0 : w6.cell? ⟨w.heap.size, 0, none⟩ = some (.int .u64 0) := cell_of_row w6 w.heap.size 0 _ 157 (0, 0) hw6.out.res
        have g0 := frozen_of_row w6 w.heap.size 0 _ 157 hw6.out.res
        have r1 : w6.cell? ⟨w.heap.size, 1, none⟩ = some (.int .u64 0) := cell_of_row w6 w.heap.size 1 _ 157 (0, 0) hw6.out.res
        have g1 := frozen_of_row w6 w.heap.size 1 _ 157 hw6.out.res
        have r2 : w6.cell? ⟨w.heap.size, 2, none⟩ = some (.int .u64 0) := cell_of_row w6 w.heap.size 2 _ 157 (0, 0) hw6.out.res
        have g2 := frozen_of_row w6 w.heap.size 2 _ 157 hw6.out.res
        have r3 : w6.cell? ⟨w.heap.size, 3, none⟩ = some (.int .u64 0) := cell_of_row w6 w.heap.size 3 _ 157 (0, 0) hw6.out.res
        have g3 := frozen_of_row w6 w.heap.size 3 _ 157 hw6.out.res
        have r4 : w6.cell? ⟨w.heap.size, 4, none⟩ = some (.int .u64 0) := cell_of_row w6 w.heap.size 4 _ 157 (0, 0) hw6.out.res
        have g4 := frozen_of_row w6 w.heap.size 4 _ 157 hw6.out.res
        have r5 : w6.cell? ⟨w.heap.size, 5, none⟩ = some (.bool false) := cell_of_row w6 w.heap.size 5 _ 157 (0, 0) hw6.out.res
        have g5 := frozen_of_row w6 w.heap.size 5 _ 157 hw6.out.res
        have r6 : w6.cell? ⟨w.heap.size, 6, none⟩ = some (.bool false) := cell_of_row w6 w.heap.size 6 _ 157 (0, 0) hw6.out.res
        have g6 := frozen_of_row w6 w.heap.size 6 _ 157 hw6.out.res
        have r7 : w6.cell? ⟨w.heap.size, 7, none⟩ = some (.int .i64 0) := cell_of_row w6 w.heap.size 7 _ 157 (0, 0) hw6.out.res
        have g7 := frozen_of_row w6 w.heap.size 7 _ 157 hw6.out.res
        go_wp2_with fail
        refine bodyPost_ret (v := .tuple #[specV zero, .bool false]) ?_ rfl ?_
        · rw [results_cell_tmp rfl]
          go_simp
          rfl
        · exact ⟨by rw [hres.out]; rfl, below_eight hw6.out.below _ _ _ _ _ _ _ _⟩
      | some n =>
        obtain rfl : n = v := hv.out
        obtain rfl : true = o := ho.out
        clear hno hv ho
        have r0 : w6.cell? ⟨w.heap.size + 1, 0, none⟩ = some (.int .u64 v0) := cell_of_row w6 (w.heap.size + 1) 0 _ 188 (0, 0) hw6.out.row
        have g0 := frozen_of_row w6 (w.heap.size + 1) 0 _ 188 hw6.out.row
        go_wp2_with fail
        exact ⟨⟨1, n, v1, v2, v3, v4, by omega, by go_num, hw6.out.set 0 (.int .u64 n), ⟨fun _ => rfl, fun h => hdone.out.2.1 (by omega), fun h => hdone.out.2.2.1 (by omega), fun h => hdone.out.2.2.2.1 (by omega), fun h => hdone.out.2.2.2.2 (by omega)⟩, ⟨hpl.out n rfl, hlt.out.2.1, hlt.out.2.2.1, hlt.out.2.2.2.1, hlt.out.2.2.2.2⟩⟩, by simp [intOf]⟩
    · have cp : Hid (∀ W, Tab W → NamesAt W (.map none) 1 → Calls Tryz.prog 158 #[.agg #[.int .i64 0, .int .i64 23, .map none], .string (bs t1)] W fun e w' => e = answer (fieldU 1 t1) ∧ Below W.heap.size W w') := fun W h1 h2 => fieldParse_any 1 (.map none) (bs t1) W (by omega) (by rw [bs_size]; exact z1) h1 h2
      have hw1 := Lib.hid (hF.out.grow (.cells #[.int .i64 0, .int .i64 23, .map none] 243))
      have c0 : (wr.alloc (.cells #[.int .i64 0, .int .i64 23, .map none] 243)).cell? ⟨wr.heap.size, 0, none⟩ = some (.int .i64 0) := by rw [World.cell?_alloc_new]; rfl
      have c1 : (wr.alloc (.cells #[.int .i64 0, .int .i64 23, .map none] 243)).cell? ⟨wr.heap.size, 1, none⟩ = some (.int .i64 23) := by rw [World.cell?_alloc_new]; rfl
      have c2 : (wr.alloc (.cells #[.int .i64 0, .int .i64 23, .map none] 243)).cell? ⟨wr.heap.size, 2, none⟩ = some (.map none) := by rw [World.cell?_alloc_new]; rfl
      have c3 : (wr.alloc (.cells #[.int .i64 0, .int .i64 23, .map none] 243)).cell? ⟨A, 1, none⟩ = some (.string (bs t1)) := hw1.out.x1
      have hsz : wr.heap.size < (wr.alloc (.cells #[.int .i64 0, .int .i64 23, .map none] 243)).heap.size := by simp
      have hAz : A < (wr.alloc (.cells #[.int .i64 0, .int .i64 23, .map none] 243)).heap.size := by have := hF.out.lt; have := hF.out.size; simp; omega
      have hpl : Hid (∀ n, fieldU 1 t1 = some n → n < 18446744073709551616) := fun n h => fieldU_lt (by omega) h
      have hno : Hid (fieldU 1 t1 = none → five t0 t1 t2 t3 t4 0 = none) := five_no1 t0 t1 t2 t3 t4
      simp only [answer] at cp
      generalize bs t1 = X at *
      generalize hq : fieldU 1 t1 = q at *
      replace hq := Lib.hid hq
      obtain ⟨v, hv⟩ : ∃ v, q.getD 0 = v := ⟨_, rfl⟩
      obtain ⟨o, ho⟩ : ∃ o, q.isSome = o := ⟨_, rfl⟩
      rw [hv, ho] at cp
      replace hv := Lib.hid hv
      replace ho := Lib.hid ho
      have hix := index_fields1 (.map (some b3)) (.map (some b4)) wr
      go_wp2_with fail
      clear hix hF
      generalize wr.alloc (.cells #[.int .i64 0, .int .i64 23, .map none] 243) = w1 at *
      generalize wr.heap.size = B at *
      go_region_held3 (fun w' => w'.cell? ⟨B, 0, none⟩ = some (.int .i64 0) ∧ w'.cell? ⟨B, 1, none⟩ = some (.int .i64 23) ∧ w'.cell? ⟨B, 2, none⟩ = some (.map none) ∧ w'.cell? ⟨A, 1, none⟩ = some (.string X)) (first | exact hc6 | exact ⟨c0, c1, c2, c3⟩ | go_keep)
        (first
          | (go_at_call 158; refine (cp.out _ hw1.out.drew.tab (Or.inl ⟨rfl, rfl⟩)).mono ?_; rintro e w6 ⟨rfl, k6⟩; have hc6 := And.intro ((k6.cell (p := ⟨B, 0, none⟩) hsz).trans c0) (And.intro ((k6.cell (p := ⟨B, 1, none⟩) hsz).trans c1) (And.intro ((k6.cell (p := ⟨B, 2, none⟩) hsz).trans c2) ((k6.cell (p := ⟨A, 1, none⟩) hAz).trans c3))); have hw6 := Lib.hid (hw1.out.drew.step k6); replace k6 := Lib.hid k6))
      clear hw1 k6 hc6 cp c0 c1 c2 c3 hsz hAz
      cases q with
      | none =>
        obtain rfl : 0 = v := hv.out
        obtain rfl : false = o := ho.out
        have hres := Lib.hid (hno.out rfl)
        clear hno hpl hq hv ho hdone hlt
        have r0 : w6.cell? ⟨w.heap.size, 0, none⟩ = some (.int .u64 0) := cell_of_row w6 w.heap.size 0 _ 157 (0, 0) hw6.out.res
        have g0 := frozen_of_row w6 w.heap.size 0 _ 157 hw6.out.res
        have r1 : w6.cell? ⟨w.heap.size, 1, none⟩ = some (.int .u64 0) := cell_of_row w6 w.heap.size 1 _ 157 (0, 0) hw6.out.res
        have g1 := frozen_of_row w6 w.heap.size 1 _ 157 hw6.out.res
        have r2 : w6.cell? ⟨w.heap.size, 2, none⟩ = some (.int .u64 0) := cell_of_row w6 w.heap.size 2 _ 157 (0, 0) hw6.out.res
        have g2 := frozen_of_row w6 w.heap.size 2 _ 157 hw6.out.res
        have r3 : w6.cell? ⟨w.heap.size, 3, none⟩ = some (.int .u64 0) := cell_of_row w6 w.heap.size 3 _ 157 (0, 0) hw6.out.res
        have g3 := frozen_of_row w6 w.heap.size 3 _ 157 hw6.out.res
        have r4 : w6.cell? ⟨w.heap.size, 4, none⟩ = some (.int .u64 0) := cell_of_row w6 w.heap.size 4 _ 157 (0, 0) hw6.out.res
        have g4 := frozen_of_row w6 w.heap.size 4 _ 157 hw6.out.res
        have r5 : w6.cell? ⟨w.heap.size, 5, none⟩ = some (.bool false) := cell_of_row w6 w.heap.size 5 _ 157 (0, 0) hw6.out.res
        have g5 := frozen_of_row w6 w.heap.size 5 _ 157 hw6.out.res
        have r6 : w6.cell? ⟨w.heap.size, 6, none⟩ = some (.bool false) := cell_of_row w6 w.heap.size 6 _ 157 (0, 0) hw6.out.res
        have g6 := frozen_of_row w6 w.heap.size 6 _ 157 hw6.out.res
        have r7 : w6.cell? ⟨w.heap.size, 7, none⟩ = some (.int .i64 0) := cell_of_row w6 w.heap.size 7 _ 157 (0, 0) hw6.out.res
        have g7 := frozen_of_row w6 w.heap.size 7 _ 157 hw6.out.res
        go_wp2_with fail
        refine bodyPost_ret (v := .tuple #[specV zero, .bool false]) ?_ rfl ?_
        · rw [results_cell_tmp rfl]
          go_simp
          rfl
        · exact ⟨by rw [hres.out]; rfl, below_eight hw6.out.below _ _ _ _ _ _ _ _⟩
      | some n =>
        obtain rfl : n = v := hv.out
        obtain rfl : true = o := ho.out
        clear hno hv ho
        have r1 : w6.cell? ⟨w.heap.size + 1, 1, none⟩ = some (.int .u64 v1) := cell_of_row w6 (w.heap.size + 1) 1 _ 188 (0, 0) hw6.out.row
        have g1 := frozen_of_row w6 (w.heap.size + 1) 1 _ 188 hw6.out.row
        go_wp2_with fail
        exact ⟨⟨2, v0, n, v2, v3, v4, by omega, by go_num, hw6.out.set 1 (.int .u64 n), ⟨fun h => hdone.out.1 (by omega), fun _ => rfl, fun h => hdone.out.2.2.1 (by omega), fun h => hdone.out.2.2.2.1 (by omega), fun h => hdone.out.2.2.2.2 (by omega)⟩, ⟨hlt.out.1, hpl.out n rfl, hlt.out.2.2.1, hlt.out.2.2.2.1, hlt.out.2.2.2.2⟩⟩, by simp [intOf]⟩
    · have cp : Hid (∀ W, Tab W → NamesAt W (.map none) 2 → Calls Tryz.prog 158 #[.agg #[.int .i64 1, .int .i64 31, .map none], .string (bs t2)] W fun e w' => e = answer (fieldU 2 t2) ∧ Below W.heap.size W w') := fun W h1 h2 => fieldParse_any 2 (.map none) (bs t2) W (by omega) (by rw [bs_size]; exact z2) h1 h2
      have hw1 := Lib.hid (hF.out.grow (.cells #[.int .i64 1, .int .i64 31, .map none] 243))
      have c0 : (wr.alloc (.cells #[.int .i64 1, .int .i64 31, .map none] 243)).cell? ⟨wr.heap.size, 0, none⟩ = some (.int .i64 1) := by rw [World.cell?_alloc_new]; rfl
      have c1 : (wr.alloc (.cells #[.int .i64 1, .int .i64 31, .map none] 243)).cell? ⟨wr.heap.size, 1, none⟩ = some (.int .i64 31) := by rw [World.cell?_alloc_new]; rfl
      have c2 : (wr.alloc (.cells #[.int .i64 1, .int .i64 31, .map none] 243)).cell? ⟨wr.heap.size, 2, none⟩ = some (.map none) := by rw [World.cell?_alloc_new]; rfl
      have c3 : (wr.alloc (.cells #[.int .i64 1, .int .i64 31, .map none] 243)).cell? ⟨A, 2, none⟩ = some (.string (bs t2)) := hw1.out.x2
      have hsz : wr.heap.size < (wr.alloc (.cells #[.int .i64 1, .int .i64 31, .map none] 243)).heap.size := by simp
      have hAz : A < (wr.alloc (.cells #[.int .i64 1, .int .i64 31, .map none] 243)).heap.size := by have := hF.out.lt; have := hF.out.size; simp; omega
      have hpl : Hid (∀ n, fieldU 2 t2 = some n → n < 18446744073709551616) := fun n h => fieldU_lt (by omega) h
      have hno : Hid (fieldU 2 t2 = none → five t0 t1 t2 t3 t4 0 = none) := five_no2 t0 t1 t2 t3 t4
      simp only [answer] at cp
      generalize bs t2 = X at *
      generalize hq : fieldU 2 t2 = q at *
      replace hq := Lib.hid hq
      obtain ⟨v, hv⟩ : ∃ v, q.getD 0 = v := ⟨_, rfl⟩
      obtain ⟨o, ho⟩ : ∃ o, q.isSome = o := ⟨_, rfl⟩
      rw [hv, ho] at cp
      replace hv := Lib.hid hv
      replace ho := Lib.hid ho
      have hix := index_fields2 (.map (some b3)) (.map (some b4)) wr
      go_wp2_with fail
      clear hix hF
      generalize wr.alloc (.cells #[.int .i64 1, .int .i64 31, .map none] 243) = w1 at *
      generalize wr.heap.size = B at *
      go_region_held3 (fun w' => w'.cell? ⟨B, 0, none⟩ = some (.int .i64 1) ∧ w'.cell? ⟨B, 1, none⟩ = some (.int .i64 31) ∧ w'.cell? ⟨B, 2, none⟩ = some (.map none) ∧ w'.cell? ⟨A, 2, none⟩ = some (.string X)) (first | exact hc6 | exact ⟨c0, c1, c2, c3⟩ | go_keep)
        (first
          | (go_at_call 158; refine (cp.out _ hw1.out.drew.tab (Or.inl ⟨rfl, rfl⟩)).mono ?_; rintro e w6 ⟨rfl, k6⟩; have hc6 := And.intro ((k6.cell (p := ⟨B, 0, none⟩) hsz).trans c0) (And.intro ((k6.cell (p := ⟨B, 1, none⟩) hsz).trans c1) (And.intro ((k6.cell (p := ⟨B, 2, none⟩) hsz).trans c2) ((k6.cell (p := ⟨A, 2, none⟩) hAz).trans c3))); have hw6 := Lib.hid (hw1.out.drew.step k6); replace k6 := Lib.hid k6))
      clear hw1 k6 hc6 cp c0 c1 c2 c3 hsz hAz
      cases q with
      | none =>
        obtain rfl : 0 = v := hv.out
        obtain rfl : false = o := ho.out
        have hres := Lib.hid (hno.out rfl)
        clear hno hpl hq hv ho hdone hlt
        have r0 : w6.cell? ⟨w.heap.size, 0, none⟩ = some (.int .u64 0) := cell_of_row w6 w.heap.size 0 _ 157 (0, 0) hw6.out.res
        have g0 := frozen_of_row w6 w.heap.size 0 _ 157 hw6.out.res
        have r1 : w6.cell? ⟨w.heap.size, 1, none⟩ = some (.int .u64 0) := cell_of_row w6 w.heap.size 1 _ 157 (0, 0) hw6.out.res
        have g1 := frozen_of_row w6 w.heap.size 1 _ 157 hw6.out.res
        have r2 : w6.cell? ⟨w.heap.size, 2, none⟩ = some (.int .u64 0) := cell_of_row w6 w.heap.size 2 _ 157 (0, 0) hw6.out.res
        have g2 := frozen_of_row w6 w.heap.size 2 _ 157 hw6.out.res
        have r3 : w6.cell? ⟨w.heap.size, 3, none⟩ = some (.int .u64 0) := cell_of_row w6 w.heap.size 3 _ 157 (0, 0) hw6.out.res
        have g3 := frozen_of_row w6 w.heap.size 3 _ 157 hw6.out.res
        have r4 : w6.cell? ⟨w.heap.size, 4, none⟩ = some (.int .u64 0) := cell_of_row w6 w.heap.size 4 _ 157 (0, 0) hw6.out.res
        have g4 := frozen_of_row w6 w.heap.size 4 _ 157 hw6.out.res
        have r5 : w6.cell? ⟨w.heap.size, 5, none⟩ = some (.bool false) := cell_of_row w6 w.heap.size 5 _ 157 (0, 0) hw6.out.res
        have g5 := frozen_of_row w6 w.heap.size 5 _ 157 hw6.out.res
        have r6 : w6.cell? ⟨w.heap.size, 6, none⟩ = some (.bool false) := cell_of_row w6 w.heap.size 6 _ 157 (0, 0) hw6.out.res
        have g6 := frozen_of_row w6 w.heap.size 6 _ 157 hw6.out.res
        have r7 : w6.cell? ⟨w.heap.size, 7, none⟩ = some (.int .i64 0) := cell_of_row w6 w.heap.size 7 _ 157 (0, 0) hw6.out.res
        have g7 := frozen_of_row w6 w.heap.size 7 _ 157 hw6.out.res
        go_wp2_with fail
        refine bodyPost_ret (v := .tuple #[specV zero, .bool false]) ?_ rfl ?_
        · rw [results_cell_tmp rfl]
          go_simp
          rfl
        · exact ⟨by rw [hres.out]; rfl, below_eight hw6.out.below _ _ _ _ _ _ _ _⟩
      | some n =>
        obtain rfl : n = v := hv.out
        obtain rfl : true = o := ho.out
        clear hno hv ho
        have r2 : w6.cell? ⟨w.heap.size + 1, 2, none⟩ = some (.int .u64 v2) := cell_of_row w6 (w.heap.size + 1) 2 _ 188 (0, 0) hw6.out.row
        have g2 := frozen_of_row w6 (w.heap.size + 1) 2 _ 188 hw6.out.row
        go_wp2_with fail
        exact ⟨⟨3, v0, v1, n, v3, v4, by omega, by go_num, hw6.out.set 2 (.int .u64 n), ⟨fun h => hdone.out.1 (by omega), fun h => hdone.out.2.1 (by omega), fun _ => rfl, fun h => hdone.out.2.2.2.1 (by omega), fun h => hdone.out.2.2.2.2 (by omega)⟩, ⟨hlt.out.1, hlt.out.2.1, hpl.out n rfl, hlt.out.2.2.2.1, hlt.out.2.2.2.2⟩⟩, by simp [intOf]⟩
    · have cp : Hid (∀ W, Tab W → NamesAt W ((.map (some b3))) 3 → Calls Tryz.prog 158 #[.agg #[.int .i64 1, .int .i64 12, (.map (some b3))], .string (bs t3)] W fun e w' => e = answer (fieldU 3 t3) ∧ Below W.heap.size W w') := fun W h1 h2 => fieldParse_any 3 ((.map (some b3))) (bs t3) W (by omega) (by rw [bs_size]; exact z3) h1 h2
      have hw1 := Lib.hid (hF.out.grow (.cells #[.int .i64 1, .int .i64 12, (.map (some b3))] 243))
      have c0 : (wr.alloc (.cells #[.int .i64 1, .int .i64 12, (.map (some b3))] 243)).cell? ⟨wr.heap.size, 0, none⟩ = some (.int .i64 1) := by rw [World.cell?_alloc_new]; rfl
      have c1 : (wr.alloc (.cells #[.int .i64 1, .int .i64 12, (.map (some b3))] 243)).cell? ⟨wr.heap.size, 1, none⟩ = some (.int .i64 12) := by rw [World.cell?_alloc_new]; rfl
      have c2 : (wr.alloc (.cells #[.int .i64 1, .int .i64 12, (.map (some b3))] 243)).cell? ⟨wr.heap.size, 2, none⟩ = some (.map (some b3)) := by rw [World.cell?_alloc_new]; rfl
      have c3 : (wr.alloc (.cells #[.int .i64 1, .int .i64 12, (.map (some b3))] 243)).cell? ⟨A, 3, none⟩ = some (.string (bs t3)) := hw1.out.x3
      have hsz : wr.heap.size < (wr.alloc (.cells #[.int .i64 1, .int .i64 12, (.map (some b3))] 243)).heap.size := by simp
      have hAz : A < (wr.alloc (.cells #[.int .i64 1, .int .i64 12, (.map (some b3))] 243)).heap.size := by have := hF.out.lt; have := hF.out.size; simp; omega
      have hpl : Hid (∀ n, fieldU 3 t3 = some n → n < 18446744073709551616) := fun n h => fieldU_lt (by omega) h
      have hno : Hid (fieldU 3 t3 = none → five t0 t1 t2 t3 t4 0 = none) := five_no3 t0 t1 t2 t3 t4
      simp only [answer] at cp
      generalize bs t3 = X at *
      generalize hq : fieldU 3 t3 = q at *
      replace hq := Lib.hid hq
      obtain ⟨v, hv⟩ : ∃ v, q.getD 0 = v := ⟨_, rfl⟩
      obtain ⟨o, ho⟩ : ∃ o, q.isSome = o := ⟨_, rfl⟩
      rw [hv, ho] at cp
      replace hv := Lib.hid hv
      replace ho := Lib.hid ho
      have hix := index_fields3 (.map (some b3)) (.map (some b4)) wr
      go_wp2_with fail
      clear hix hF
      generalize wr.alloc (.cells #[.int .i64 1, .int .i64 12, (.map (some b3))] 243) = w1 at *
      generalize wr.heap.size = B at *
      go_region_held3 (fun w' => w'.cell? ⟨B, 0, none⟩ = some (.int .i64 1) ∧ w'.cell? ⟨B, 1, none⟩ = some (.int .i64 12) ∧ w'.cell? ⟨B, 2, none⟩ = some (.map (some b3)) ∧ w'.cell? ⟨A, 3, none⟩ = some (.string X)) (first | exact hc6 | exact ⟨c0, c1, c2, c3⟩ | go_keep)
        (first
          | (go_at_call 158; refine (cp.out _ hw1.out.drew.tab (hw1.out.drew.n3)).mono ?_; rintro e w6 ⟨rfl, k6⟩; have hc6 := And.intro ((k6.cell (p := ⟨B, 0, none⟩) hsz).trans c0) (And.intro ((k6.cell (p := ⟨B, 1, none⟩) hsz).trans c1) (And.intro ((k6.cell (p := ⟨B, 2, none⟩) hsz).trans c2) ((k6.cell (p := ⟨A, 3, none⟩) hAz).trans c3))); have hw6 := Lib.hid (hw1.out.drew.step k6); replace k6 := Lib.hid k6))
      clear hw1 k6 hc6 cp c0 c1 c2 c3 hsz hAz
      cases q with
      | none =>
        obtain rfl : 0 = v := hv.out
        obtain rfl : false = o := ho.out
        have hres := Lib.hid (hno.out rfl)
        clear hno hpl hq hv ho hdone hlt
        have r0 : w6.cell? ⟨w.heap.size, 0, none⟩ = some (.int .u64 0) := cell_of_row w6 w.heap.size 0 _ 157 (0, 0) hw6.out.res
        have g0 := frozen_of_row w6 w.heap.size 0 _ 157 hw6.out.res
        have r1 : w6.cell? ⟨w.heap.size, 1, none⟩ = some (.int .u64 0) := cell_of_row w6 w.heap.size 1 _ 157 (0, 0) hw6.out.res
        have g1 := frozen_of_row w6 w.heap.size 1 _ 157 hw6.out.res
        have r2 : w6.cell? ⟨w.heap.size, 2, none⟩ = some (.int .u64 0) := cell_of_row w6 w.heap.size 2 _ 157 (0, 0) hw6.out.res
        have g2 := frozen_of_row w6 w.heap.size 2 _ 157 hw6.out.res
        have r3 : w6.cell? ⟨w.heap.size, 3, none⟩ = some (.int .u64 0) := cell_of_row w6 w.heap.size 3 _ 157 (0, 0) hw6.out.res
        have g3 := frozen_of_row w6 w.heap.size 3 _ 157 hw6.out.res
        have r4 : w6.cell? ⟨w.heap.size, 4, none⟩ = some (.int .u64 0) := cell_of_row w6 w.heap.size 4 _ 157 (0, 0) hw6.out.res
        have g4 := frozen_of_row w6 w.heap.size 4 _ 157 hw6.out.res
        have r5 : w6.cell? ⟨w.heap.size, 5, none⟩ = some (.bool false) := cell_of_row w6 w.heap.size 5 _ 157 (0, 0) hw6.out.res
        have g5 := frozen_of_row w6 w.heap.size 5 _ 157 hw6.out.res
        have r6 : w6.cell? ⟨w.heap.size, 6, none⟩ = some (.bool false) := cell_of_row w6 w.heap.size 6 _ 157 (0, 0) hw6.out.res
        have g6 := frozen_of_row w6 w.heap.size 6 _ 157 hw6.out.res
        have r7 : w6.cell? ⟨w.heap.size, 7, none⟩ = some (.int .i64 0) := cell_of_row w6 w.heap.size 7 _ 157 (0, 0) hw6.out.res
        have g7 := frozen_of_row w6 w.heap.size 7 _ 157 hw6.out.res
        go_wp2_with fail
        refine bodyPost_ret (v := .tuple #[specV zero, .bool false]) ?_ rfl ?_
        · rw [results_cell_tmp rfl]
          go_simp
          rfl
        · exact ⟨by rw [hres.out]; rfl, below_eight hw6.out.below _ _ _ _ _ _ _ _⟩
      | some n =>
        obtain rfl : n = v := hv.out
        obtain rfl : true = o := ho.out
        clear hno hv ho
        have r3 : w6.cell? ⟨w.heap.size + 1, 3, none⟩ = some (.int .u64 v3) := cell_of_row w6 (w.heap.size + 1) 3 _ 188 (0, 0) hw6.out.row
        have g3 := frozen_of_row w6 (w.heap.size + 1) 3 _ 188 hw6.out.row
        go_wp2_with fail
        exact ⟨⟨4, v0, v1, v2, n, v4, by omega, by go_num, hw6.out.set 3 (.int .u64 n), ⟨fun h => hdone.out.1 (by omega), fun h => hdone.out.2.1 (by omega), fun h => hdone.out.2.2.1 (by omega), fun _ => rfl, fun h => hdone.out.2.2.2.2 (by omega)⟩, ⟨hlt.out.1, hlt.out.2.1, hlt.out.2.2.1, hpl.out n rfl, hlt.out.2.2.2.2⟩⟩, by simp [intOf]⟩
    · have cp : Hid (∀ W, Tab W → NamesAt W ((.map (some b4))) 4 → Calls Tryz.prog 158 #[.agg #[.int .i64 0, .int .i64 7, (.map (some b4))], .string (bs t4)] W fun e w' => e = answer (fieldU 4 t4) ∧ Below W.heap.size W w') := fun W h1 h2 => fieldParse_any 4 ((.map (some b4))) (bs t4) W (by omega) (by rw [bs_size]; exact z4) h1 h2
      have hw1 := Lib.hid (hF.out.grow (.cells #[.int .i64 0, .int .i64 7, (.map (some b4))] 243))
      have c0 : (wr.alloc (.cells #[.int .i64 0, .int .i64 7, (.map (some b4))] 243)).cell? ⟨wr.heap.size, 0, none⟩ = some (.int .i64 0) := by rw [World.cell?_alloc_new]; rfl
      have c1 : (wr.alloc (.cells #[.int .i64 0, .int .i64 7, (.map (some b4))] 243)).cell? ⟨wr.heap.size, 1, none⟩ = some (.int .i64 7) := by rw [World.cell?_alloc_new]; rfl
      have c2 : (wr.alloc (.cells #[.int .i64 0, .int .i64 7, (.map (some b4))] 243)).cell? ⟨wr.heap.size, 2, none⟩ = some (.map (some b4)) := by rw [World.cell?_alloc_new]; rfl
      have c3 : (wr.alloc (.cells #[.int .i64 0, .int .i64 7, (.map (some b4))] 243)).cell? ⟨A, 4, none⟩ = some (.string (bs t4)) := hw1.out.x4
      have hsz : wr.heap.size < (wr.alloc (.cells #[.int .i64 0, .int .i64 7, (.map (some b4))] 243)).heap.size := by simp
      have hAz : A < (wr.alloc (.cells #[.int .i64 0, .int .i64 7, (.map (some b4))] 243)).heap.size := by have := hF.out.lt; have := hF.out.size; simp; omega
      have hpl : Hid (∀ n, fieldU 4 t4 = some n → n < 18446744073709551616) := fun n h => fieldU_lt (by omega) h
      have hno : Hid (fieldU 4 t4 = none → five t0 t1 t2 t3 t4 0 = none) := five_no4 t0 t1 t2 t3 t4
      simp only [answer] at cp
      generalize bs t4 = X at *
      generalize hq : fieldU 4 t4 = q at *
      replace hq := Lib.hid hq
      obtain ⟨v, hv⟩ : ∃ v, q.getD 0 = v := ⟨_, rfl⟩
      obtain ⟨o, ho⟩ : ∃ o, q.isSome = o := ⟨_, rfl⟩
      rw [hv, ho] at cp
      replace hv := Lib.hid hv
      replace ho := Lib.hid ho
      have hix := index_fields4 (.map (some b3)) (.map (some b4)) wr
      go_wp2_with fail
      clear hix hF
      generalize wr.alloc (.cells #[.int .i64 0, .int .i64 7, (.map (some b4))] 243) = w1 at *
      generalize wr.heap.size = B at *
      go_region_held3 (fun w' => w'.cell? ⟨B, 0, none⟩ = some (.int .i64 0) ∧ w'.cell? ⟨B, 1, none⟩ = some (.int .i64 7) ∧ w'.cell? ⟨B, 2, none⟩ = some (.map (some b4)) ∧ w'.cell? ⟨A, 4, none⟩ = some (.string X)) (first | exact hc6 | exact ⟨c0, c1, c2, c3⟩ | go_keep)
        (first
          | (go_at_call 158; refine (cp.out _ hw1.out.drew.tab (hw1.out.drew.n4)).mono ?_; rintro e w6 ⟨rfl, k6⟩; have hc6 := And.intro ((k6.cell (p := ⟨B, 0, none⟩) hsz).trans c0) (And.intro ((k6.cell (p := ⟨B, 1, none⟩) hsz).trans c1) (And.intro ((k6.cell (p := ⟨B, 2, none⟩) hsz).trans c2) ((k6.cell (p := ⟨A, 4, none⟩) hAz).trans c3))); have hw6 := Lib.hid (hw1.out.drew.step k6); replace k6 := Lib.hid k6))
      clear hw1 k6 hc6 cp c0 c1 c2 c3 hsz hAz
      cases q with
      | none =>
        obtain rfl : 0 = v := hv.out
        obtain rfl : false = o := ho.out
        have hres := Lib.hid (hno.out rfl)
        clear hno hpl hq hv ho hdone hlt
        have r0 : w6.cell? ⟨w.heap.size, 0, none⟩ = some (.int .u64 0) := cell_of_row w6 w.heap.size 0 _ 157 (0, 0) hw6.out.res
        have g0 := frozen_of_row w6 w.heap.size 0 _ 157 hw6.out.res
        have r1 : w6.cell? ⟨w.heap.size, 1, none⟩ = some (.int .u64 0) := cell_of_row w6 w.heap.size 1 _ 157 (0, 0) hw6.out.res
        have g1 := frozen_of_row w6 w.heap.size 1 _ 157 hw6.out.res
        have r2 : w6.cell? ⟨w.heap.size, 2, none⟩ = some (.int .u64 0) := cell_of_row w6 w.heap.size 2 _ 157 (0, 0) hw6.out.res
        have g2 := frozen_of_row w6 w.heap.size 2 _ 157 hw6.out.res
        have r3 : w6.cell? ⟨w.heap.size, 3, none⟩ = some (.int .u64 0) := cell_of_row w6 w.heap.size 3 _ 157 (0, 0) hw6.out.res
        have g3 := frozen_of_row w6 w.heap.size 3 _ 157 hw6.out.res
        have r4 : w6.cell? ⟨w.heap.size, 4, none⟩ = some (.int .u64 0) := cell_of_row w6 w.heap.size 4 _ 157 (0, 0) hw6.out.res
        have g4 := frozen_of_row w6 w.heap.size 4 _ 157 hw6.out.res
        have r5 : w6.cell? ⟨w.heap.size, 5, none⟩ = some (.bool false) := cell_of_row w6 w.heap.size 5 _ 157 (0, 0) hw6.out.res
        have g5 := frozen_of_row w6 w.heap.size 5 _ 157 hw6.out.res
        have r6 : w6.cell? ⟨w.heap.size, 6, none⟩ = some (.bool false) := cell_of_row w6 w.heap.size 6 _ 157 (0, 0) hw6.out.res
        have g6 := frozen_of_row w6 w.heap.size 6 _ 157 hw6.out.res
        have r7 : w6.cell? ⟨w.heap.size, 7, none⟩ = some (.int .i64 0) := cell_of_row w6 w.heap.size 7 _ 157 (0, 0) hw6.out.res
        have g7 := frozen_of_row w6 w.heap.size 7 _ 157 hw6.out.res
        go_wp2_with fail
        refine bodyPost_ret (v := .tuple #[specV zero, .bool false]) ?_ rfl ?_
        · rw [results_cell_tmp rfl]
          go_simp
          rfl
        · exact ⟨by rw [hres.out]; rfl, below_eight hw6.out.below _ _ _ _ _ _ _ _⟩
      | some n =>
        obtain rfl : n = v := hv.out
        obtain rfl : true = o := ho.out
        clear hno hv ho
        have r4 : w6.cell? ⟨w.heap.size + 1, 4, none⟩ = some (.int .u64 v4) := cell_of_row w6 (w.heap.size + 1) 4 _ 188 (0, 0) hw6.out.row
        have g4 := frozen_of_row w6 (w.heap.size + 1) 4 _ 188 hw6.out.row
        go_wp2_with fail
        exact ⟨⟨5, v0, v1, v2, v3, n, by omega, by go_num, hw6.out.set 4 (.int .u64 n), ⟨fun h => hdone.out.1 (by omega), fun h => hdone.out.2.1 (by omega), fun h => hdone.out.2.2.1 (by omega), fun h => hdone.out.2.2.2.1 (by omega), fun _ => rfl⟩, ⟨hlt.out.1, hlt.out.2.1, hlt.out.2.2.1, hlt.out.2.2.2.1, hpl.out n rfl⟩⟩, by simp [intOf]⟩
    · have hy := Lib.hid (five_yes (hdone.out.1 (by omega)) (hdone.out.2.1 (by omega)) (hdone.out.2.2.1 (by omega)) (hdone.out.2.2.2.1 (by omega)) (hdone.out.2.2.2.2 (by omega)))
      have cw : Hid (Calls Tryz.prog 159 #[.int .u64 v4] wr.drew fun e w' => e = .returned (.int .u64 (wk v4 : Nat)) ∧ Below wr.drew.heap.size wr.drew w') := week_any v4 wr.drew hF.out.drew.tab hlt.out.2.2.2.2
      have c2 : Hid (∀ W, Calls Tryz.prog 160 #[.string (bs t2)] W fun e w' => e = .returned (.bool (t2.head? == some 42)) ∧ W = w') := fun W => isAny_any (bs t2) W
      have c4 : Hid (∀ W, Calls Tryz.prog 160 #[.string (bs t4)] W fun e w' => e = .returned (.bool (t4.head? == some 42)) ∧ W = w') := fun W => isAny_any (bs t4) W
      have hkeep : Hid (∀ W, Below wr.drew.heap.size wr.drew W → (W.cell? ⟨w.heap.size + 1, 0, none⟩ = some (.int .u64 v0) ∧ W.cell? ⟨w.heap.size + 1, 1, none⟩ = some (.int .u64 v1) ∧ W.cell? ⟨w.heap.size + 1, 2, none⟩ = some (.int .u64 v2) ∧ W.cell? ⟨w.heap.size + 1, 3, none⟩ = some (.int .u64 v3) ∧ W.cell? ⟨w.heap.size + 1, 4, none⟩ = some (.int .u64 v4) ∧ W.cell? ⟨A, 2, none⟩ = some (.string (bs t2)) ∧ W.cell? ⟨A, 4, none⟩ = some (.string (bs t4))) ∧ (W.cell? ⟨w.heap.size, 0, none⟩ = some (.int .u64 0) ∧ W.cell? ⟨w.heap.size, 1, none⟩ = some (.int .u64 0) ∧ W.cell? ⟨w.heap.size, 2, none⟩ = some (.int .u64 0) ∧ W.cell? ⟨w.heap.size, 3, none⟩ = some (.int .u64 0) ∧ W.cell? ⟨w.heap.size, 4, none⟩ = some (.int .u64 0) ∧ W.cell? ⟨w.heap.size, 5, none⟩ = some (.bool false) ∧ W.cell? ⟨w.heap.size, 6, none⟩ = some (.bool false) ∧ W.cell? ⟨w.heap.size, 7, none⟩ = some (.int .i64 0) ∧ W.frozen? ⟨w.heap.size, 0, none⟩ = false ∧ W.frozen? ⟨w.heap.size, 1, none⟩ = false ∧ W.frozen? ⟨w.heap.size, 2, none⟩ = false ∧ W.frozen? ⟨w.heap.size, 3, none⟩ = false ∧ W.frozen? ⟨w.heap.size, 4, none⟩ = false ∧ W.frozen? ⟨w.heap.size, 5, none⟩ = false ∧ W.frozen? ⟨w.heap.size, 6, none⟩ = false ∧ W.frozen? ⟨w.heap.size, 7, none⟩ = false) ∧ Below w.heap.size w W) := fun W k => ⟨(hF.out.drew.step k).loads, (hF.out.drew.step k).stores, (hF.out.drew.step k).below⟩
      obtain ⟨q0, q1, q2, q3, q4, q5, q6⟩ := hF.out.loads
      generalize wk v4 = u4 at *
      generalize bs t2 = X2 at *
      generalize bs t4 = X4 at *
      generalize (t2.head? == some 42) = d2 at *
      generalize (t4.head? == some 42) = d4 at *
      clear hdone hlt hF b2
      have h1 : w.heap.size + 1 ≠ w.heap.size := by omega
      have h2 : A ≠ w.heap.size := by omega
      have p0 := show wr.drew.cell? _ = _ from q0
      have p1 := show wr.drew.cell? _ = _ from q1
      have p2 := show wr.drew.cell? _ = _ from q2
      have p3 := show wr.drew.cell? _ = _ from q3
      have p4 := show wr.drew.cell? _ = _ from q4
      have p5 := show wr.drew.cell? _ = _ from q5
      have p6 := show wr.drew.cell? _ = _ from q6
      go_wp2_with fail
      go_region_held3 (fun w' => w'.cell? ⟨w.heap.size + 1, 0, none⟩ = some (.int .u64 v0) ∧ w'.cell? ⟨w.heap.size + 1, 1, none⟩ = some (.int .u64 v1) ∧ w'.cell? ⟨w.heap.size + 1, 2, none⟩ = some (.int .u64 v2) ∧ w'.cell? ⟨w.heap.size + 1, 3, none⟩ = some (.int .u64 v3) ∧ w'.cell? ⟨w.heap.size + 1, 4, none⟩ = some (.int .u64 v4) ∧ w'.cell? ⟨A, 2, none⟩ = some (.string X2) ∧ w'.cell? ⟨A, 4, none⟩ = some (.string X4)) (first | (with_reducible exact hc6) | (with_reducible exact ⟨p0, p1, p2, p3, p4, p5, p6⟩) | (with_reducible exact ⟨(keep8 _ _ _ _ _ _ _ _ h1).trans hc6.1, (keep8 _ _ _ _ _ _ _ _ h1).trans hc6.2.1, (keep8 _ _ _ _ _ _ _ _ h1).trans hc6.2.2.1, (keep8 _ _ _ _ _ _ _ _ h1).trans hc6.2.2.2.1, (keep8 _ _ _ _ _ _ _ _ h1).trans hc6.2.2.2.2.1, (keep8 _ _ _ _ _ _ _ _ h2).trans hc6.2.2.2.2.2.1, (keep8 _ _ _ _ _ _ _ _ h2).trans hc6.2.2.2.2.2.2⟩) | go_keep)
        (first
          | (go_at_call 159; (with_reducible refine cw.out.mono ?_); rintro e w6 ⟨rfl, k6⟩; obtain ⟨hc6, ⟨r0, r1, r2, r3, r4, r5, r6, r7, r8, r9, r10, r11, r12, r13, r14, r15⟩, hb6⟩ := hkeep.out w6 k6; replace hb6 := Lib.hid hb6; replace k6 := Lib.hid k6)
          | (go_at_call 160; (with_reducible refine (c2.out _).mono ?_); rintro e w7 ⟨rfl, rfl⟩)
          | (go_at_call 160; (with_reducible refine (c4.out _).mono ?_); rintro e w7 ⟨rfl, rfl⟩))
      all_goals
        go_wp2_with fail
        refine bodyPost_ret (v := .tuple #[specV ⟨v0, v1, v2, v3, u4, d2, d4, 0⟩, .bool true]) ?_ rfl ?_
        · rw [results_cell_tmp rfl]
          go_simp
          rfl
        · exact ⟨by rw [hy.out]; rfl, below_eight hb6.out _ _ _ _ _ _ _ _⟩
end Go.Proofs.YtoihekgmomjhpaaGreatDoor
