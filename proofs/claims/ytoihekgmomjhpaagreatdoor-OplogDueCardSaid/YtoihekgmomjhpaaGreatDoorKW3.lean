/-
  Texts laid into one (a claim has 60 files at most): WMin, WDel, WOut.
-/
import Derived.Test.YtoihekgmomjhpaaGreatDoorKW2
import Derived.Laws.Rows
import Derived.Deep.RegionLaw
import Derived.Laws.IdiomCopy
import Derived.Lib.AppendZeros
/-
  Layer 6: slices.MinFunc at a list of pairs, and the program's least.
-/
set_option linter.unusedVariables false
namespace Go.Proofs.YtoihekgmomjhpaaGreatDoor.W
open Go.RowKit Whl
theorem leastOf_snoc (x : ItemN) : ∀ (r : List ItemN) (m : ItemN), Whl.leastOf m (r ++ [x]) = if ltB x (Whl.leastOf m r) = true then x else Whl.leastOf m r
  | [], m => rfl
  | y :: r, m => by
    show Whl.leastOf _ (r ++ [x]) = _
    rw [leastOf_snoc x r]
    rfl
/-- The least of the first k of a list. -/
def minTo (l : List ItemN) (k : Nat) : ItemN := Whl.leastOf (l.headD (0, 0)) ((l.take k).drop 1)
theorem minTo_succ (l : List ItemN) (k : Nat) (h1 : 1 ≤ k) (hk : k < l.length) : minTo l (k + 1) = if ltB l[k] (minTo l k) = true then l[k] else minTo l k := by
  unfold minTo
  have e : (l.take (k + 1)).drop 1 = (l.take k).drop 1 ++ [l[k]] := by
    rw [List.take_succ_eq_append_getElem hk, List.drop_append_of_le_length (by rw [List.length_take]; omega)]
  rw [e, leastOf_snoc]
theorem minTo_one (l : List ItemN) (h : 0 < l.length) : minTo l 1 = l[0] := by
  unfold minTo
  cases l with
  | nil => simp at h
  | cons p r => simp [Whl.leastOf]
theorem minTo_mem (l : List ItemN) (h : 0 < l.length) : minTo l l.length ∈ l := by
  unfold minTo
  cases l with
  | nil => simp at h
  | cons p r =>
    simp only [List.headD_cons, List.take_length, List.drop_succ_cons, List.drop_zero]
    rcases leastOf_mem r p with e | e
    · rw [e]; simp
    · exact List.mem_cons_of_mem _ e
theorem minTo_le (l : List ItemN) {q : ItemN} (hq : q ∈ l) : (minTo l l.length).1 ≤ q.1 := by
  unfold minTo
  cases l with
  | nil => simp at hq
  | cons p r =>
    simp only [List.headD_cons, List.take_length, List.drop_succ_cons, List.drop_zero]
    obtain ⟨h1, h2⟩ := leastOf_le r p
    rcases List.mem_cons.1 hq with e | e
    · rw [e]; exact h1
    · exact h2 q e
/-- A pair's own block. -/
def Bk (g : Nat) (w : World) (p : ItemN) : Prop := w.heap[g]? = some (.cells #[.int .i64 (p.1 : Int), .int .i64 (p.2 : Int)] 100 (0, 0))
theorem Bk.cells {g : Nat} {w : World} {p : ItemN} (h : Bk g w p) : w.cell? ⟨g, 0, none⟩ = some (.int .i64 (p.1 : Int)) ∧ w.cell? ⟨g, 1, none⟩ = some (.int .i64 (p.2 : Int)) ∧ w.frozen? ⟨g, 0, none⟩ = false ∧ w.frozen? ⟨g, 1, none⟩ = false :=
  ⟨cell_of_row w g 0 _ 100 (0, 0) h, cell_of_row w g 1 _ 100 (0, 0) h, frozen_of_row w g 0 _ 100 h, frozen_of_row w g 1 _ 100 h⟩
theorem Bk.below {g : Nat} {w w' : World} {p : ItemN} (h : Bk g w p) (k : Below w.heap.size w w') : Bk g w' p := (k.block g (Array.getElem?_eq_some_iff.1 h).1).trans h
theorem Bk.put {g : Nat} {w : World} {p : ItemN} (h : Bk g w p) (q : ItemN) : Bk g ((w.setCell ⟨g, 0, none⟩ (.int .i64 (q.1 : Int))).setCell ⟨g, 1, none⟩ (.int .i64 (q.2 : Int))) q := by
  have h1 := heap_setCell_same w g 0 _ _ (.int .i64 (q.1 : Int)) h
  exact heap_setCell_same _ g 1 _ _ (.int .i64 (q.2 : Int)) h1
theorem Rw.lower {base : Nat} {w w' : World} {v : Value} {l : List ItemN} {B : Nat} (h : Rw base w v l) (k : Below B w w') (hv : ∀ g, v.ownBlock = some g → g < B) : Rw base w' v l := by
  refine ⟨h.1, ?_⟩
  rcases h.2 with h2 | ⟨g, cap, cur, h1, h2, h3, h4⟩
  · exact .inl h2
  · exact .inr ⟨g, cap, cur, h1, h2, (k.block g (hv g (by rw [h1]; rfl))).trans h3, h4⟩
theorem results_cell {fn : Func} {p : Tmp} {ty : TypeId} (h : fn.results = #[.cell p ty]) (tmps : Array Value) (P : Program) (w : World) :
    (results fn tmps).run P w = ((asAddr (tmps.getD p undef)).run P w).andThen fun a w₁ => (loadVar ty a).run P w₁ := by
  simp only [results, h]
  simp [Sem.run_bind, Result.andThen]
set_option maxRecDepth 100000 in
set_option maxHeartbeats 2000000 in
theorem minFunc_any (base : Nat) (v : Value) (l : List ItemN) (w : World) (hr : Rw base w v l) (h0 : 0 < l.length) (hlen : l.length ≤ 1000000) :
    Calls Tryz.prog 152 #[v, .func (.func 95) #[] #[]] w fun e w' => e = .returned (pairV (minTo l l.length)) ∧ Below w.heap.size w w' := by
  rcases hr.form with ⟨_, h⟩ | ⟨g, cap, rfl, hg1, hg2⟩
  · subst h; simp at h0
  obtain ⟨M, hMM⟩ : ∃ M, minTo l l.length = M := ⟨_, rfl⟩
  rw [hMM]
  replace hMM := Lib.hid hMM
  have hn : (l.length : Int) ≤ 1000000 := by omega
  have hn0 : 1 ≤ (l.length : Int) := by omega
  have hs := Lib.hid (minTo_succ l)
  have h1 := Lib.hid (minTo_one l h0)
  have b1 := Lib.hid ((Below.refl w.heap.size w).alloc (Nat.le_refl _) (.cells #[.int .i64 0, .int .i64 0] 100))
  obtain ⟨c0, c1⟩ := hr.cells 0 h0
  rw [← h1.out] at c0 c1
  have R1 := Lib.hid (hr.below b1.out)
  have cc := Lib.hid (fun W q p => compare_any q p W)
  clear hr
  simp only [Nat.zero_mul, Nat.zero_add] at c0 c1
  generalize hM : minTo l 1 = M0 at *
  obtain ⟨m0, m1⟩ := M0
  simp only at c0 c1
  unfold pairV at *
  go_enter Tryz.func152, Tryz.ntmps152
  go_upto_region 4 with fail
  have hM0 : Hid (minTo l 1 = (m0, m1)) := hM
  clear hM c0 c1 h1
  have A1 : Hid (Bk w.heap.size ((w.alloc (.cells #[.int .i64 0, .int .i64 0] 100)).alloc (.cells #[.int .i64 (m0 : Int), .int .i64 (m1 : Int)] 100)) (0, 0)) := (Go.heap_alloc_old _ _ (by simp)).trans (Go.heap_alloc_new w _)
  have A2 : Hid (Bk (w.heap.size + 1) ((w.alloc (.cells #[.int .i64 0, .int .i64 0] 100)).alloc (.cells #[.int .i64 (m0 : Int), .int .i64 (m1 : Int)] 100)) (minTo l 1)) := by
    rw [hM0.out]
    have := Go.heap_alloc_new (w.alloc (.cells #[.int .i64 0, .int .i64 0] 100)) (.cells #[.int .i64 (m0 : Int), .int .i64 (m1 : Int)] 100)
    rwa [show (w.alloc (.cells #[.int .i64 0, .int .i64 0] 100)).heap.size = w.heap.size + 1 by simp] at this
  have b2 := Lib.hid (b1.out.alloc b1.out.size (.cells #[.int .i64 (m0 : Int), .int .i64 (m1 : Int)] 100))
  have R2 := Lib.hid (R1.out.below ((Below.refl _ _).alloc (Nat.le_refl _) (.cells #[.int .i64 (m0 : Int), .int .i64 (m1 : Int)] 100)))
  clear b1 R1 hM0
  generalize ((w.alloc (.cells #[.int .i64 0, .int .i64 0] 100)).alloc (.cells #[.int .i64 (m0 : Int), .int .i64 (m1 : Int)] 100)) = W2 at *
  go_wp2_with fail
  go_loopw [6] (fun v wr => ∃ k : Nat, v = .int .i64 k ∧ 1 ≤ (k : Int) ∧ (k : Int) ≤ l.length ∧ Hid (Bk w.heap.size wr (0, 0)) ∧ Hid (Bk (w.heap.size + 1) wr (minTo l k)) ∧ Hid (Below w.heap.size w wr) ∧ Hid (Rw base wr (.slice (some ⟨g, 0, none⟩) l.length cap) l)) (fun v _ => ((l.length : Int) - intOf v).toNat)
  case atStart => exact ⟨1, rfl, by omega, by omega, A1, A2, b2, R2⟩
  case round =>
    obtain ⟨k, rfl, k1, k2, A3, A4, b3, R3⟩ := hrel
    clear A1 A2 b2 R2
    by_cases hlt : (k : Int) < l.length
    · obtain ⟨c0, c1⟩ := R3.out.cells k (by omega)
      have hsk := Lib.hid (hs.out k (by omega) (by omega))
      generalize hq : l[k] = q at *
      clear hq
      obtain ⟨d0, d1, f0, f1⟩ := A4.out.cells
      generalize hm : minTo l k = m at *
      have hcm := Lib.hid (cmpP_lt q m)
      have cq := Lib.hid (fun W => cc.out W q m)
      generalize cmpP q m = C at *
      replace hm := Lib.hid hm
      obtain ⟨q0, q1⟩ := q
      obtain ⟨e0, e1⟩ := m
      simp only at c0 c1 d0 d1 cq
      have hg : g < wr.heap.size := World.block_lt_of_cell? wr _ c0
      have hw : w.heap.size + 1 < wr.heap.size := World.block_lt_of_cell? wr _ d0
      have hS : Hid (∀ W, Below wr.heap.size wr W → W.cell? ⟨g, k * 2, none⟩ = some (.int .i64 (q0 : Int)) ∧ W.cell? ⟨g, k * 2 + 1, none⟩ = some (.int .i64 (q1 : Int)) ∧ W.cell? ⟨w.heap.size + 1, 0, none⟩ = some (.int .i64 (e0 : Int)) ∧ W.cell? ⟨w.heap.size + 1, 1, none⟩ = some (.int .i64 (e1 : Int))) := fun W hW =>
        ⟨(hW.cell (p := ⟨g, k * 2, none⟩) hg).trans c0, (hW.cell (p := ⟨g, k * 2 + 1, none⟩) hg).trans c1, (hW.cell (p := ⟨w.heap.size + 1, 0, none⟩) hw).trans d0, (hW.cell (p := ⟨w.heap.size + 1, 1, none⟩) hw).trans d1⟩
      have hb : Hid (Below wr.heap.size wr wr.drew) := (Below.refl _ _).drew
      have hcA := hS.out _ hb.out
      clear c0 c1 d0 d1 f0 f1 hw
      replace hg := Lib.hid hg
      go_upto_region 7 with fail
      go_region_held3 (fun W => W.cell? ⟨g, k * 2, none⟩ = some (.int .i64 (q0 : Int)) ∧ W.cell? ⟨g, k * 2 + 1, none⟩ = some (.int .i64 (q1 : Int)) ∧ W.cell? ⟨w.heap.size + 1, 0, none⟩ = some (.int .i64 (e0 : Int)) ∧ W.cell? ⟨w.heap.size + 1, 1, none⟩ = some (.int .i64 (e1 : Int))) (first | (with_reducible exact hc6) | (with_reducible exact hcA) | go_keep)
        (first
          | (go_at_call 95; (with_reducible refine (cq.out _).mono ?_); rintro e w6 ⟨rfl, k6⟩; replace hb := Lib.hid (hb.out.trans (k6.mono hb.out.size)); have hc6 := hS.out _ hb.out; clear k6))
      have b4 := Lib.hid (b3.out.trans (hb.out.mono b3.out.size))
      have A5 := Lib.hid (A3.out.below hb.out)
      have A6 := Lib.hid (A4.out.below hb.out)
      have R4 := Lib.hid (R3.out.below hb.out)
      obtain ⟨c0, c1, d0, d1⟩ := hc6
      obtain ⟨_, _, f0, f1⟩ := A6.out.cells
      by_cases hC0 : C < 0
      · have hsn : Hid (minTo l (k + 1) = (q0, q1)) := by rw [hsk.out]; exact if_pos (hcm.out.1 hC0)
        have A7 : Hid (Bk (w.heap.size + 1) ((w6.setCell ⟨w.heap.size + 1, 0, none⟩ (.int .i64 (q0 : Int))).setCell ⟨w.heap.size + 1, 1, none⟩ (.int .i64 (q1 : Int))) (minTo l (k + 1))) := by
          rw [hsn.out]
          exact A6.out.put (q0, q1)
        have A8 : Hid (Bk w.heap.size ((w6.setCell ⟨w.heap.size + 1, 0, none⟩ (.int .i64 (q0 : Int))).setCell ⟨w.heap.size + 1, 1, none⟩ (.int .i64 (q1 : Int))) (0, 0)) := (heap_setCell_other _ _ _ _ (by simp)).trans ((heap_setCell_other _ _ _ _ (by simp)).trans A5.out)
        have b5 : Hid (Below w.heap.size w ((w6.setCell ⟨w.heap.size + 1, 0, none⟩ (.int .i64 (q0 : Int))).setCell ⟨w.heap.size + 1, 1, none⟩ (.int .i64 (q1 : Int)))) := (b4.out.setCell (by simp) _).setCell (by simp) _
        have R5 : Hid (Rw base ((w6.setCell ⟨w.heap.size + 1, 0, none⟩ (.int .i64 (q0 : Int))).setCell ⟨w.heap.size + 1, 1, none⟩ (.int .i64 (q1 : Int))) (.slice (some ⟨g, 0, none⟩) l.length cap) l) := R4.out.lower (B := w.heap.size) (((Below.refl _ _).setCell (by simp) _).setCell (by simp) _) (fun x hx => by
          simp [Value.ownBlock] at hx
          omega)
        go_wp2_with fail
        exact ⟨⟨k + 1, by go_num, by omega, by omega, A8, A7, b5, R5⟩, by simp [intOf]; omega⟩
      · have hsn : Hid (minTo l (k + 1) = (e0, e1)) := by
          rw [hsk.out]
          exact if_neg fun hx => hC0 (hcm.out.2 hx)
        rw [← hsn.out] at A6
        go_wp2_with fail
        exact ⟨⟨k + 1, by go_num, by omega, by omega, A5, A6, b4, R4⟩, by simp [intOf]; omega⟩
    · have hkn : k = l.length := by omega
      subst hkn
      obtain ⟨d0, d1, _, _⟩ := A4.out.cells
      obtain ⟨f0, f1, f2, f3⟩ := A3.out.cells
      rw [hMM.out] at d0 d1
      obtain ⟨e0, e1⟩ := M
      simp only at d0 d1 f0 f1
      go_wp2_with fail
      refine bodyPost_ret (v := .agg #[.int .i64 (e0 : Int), .int .i64 (e1 : Int)]) ?_ rfl ?_
      · rw [results_cell rfl]
        go_simp
      · exact ⟨rfl, (b3.out.setCell (by simp) _).setCell (by simp) _⟩
theorem least_any (base : Nat) (v : Value) (l : List ItemN) (w : World) (hr : Rw base w v l) (h0 : 0 < l.length) (hlen : l.length ≤ 1000000) :
    Calls Tryz.prog 112 #[v] w fun e w' => e = .returned (.int .i64 ((minTo l l.length).1 : Nat)) ∧ Below w.heap.size w w' := by
  have cm := Lib.hid (minFunc_any base v l w hr h0 hlen)
  clear hr h0 hlen
  generalize minTo l l.length = M at *
  obtain ⟨e0, e1⟩ := M
  unfold pairV at cm
  go_enter Tryz.func112, Tryz.ntmps112
  go_wp2_with fail
  refine cm.out.mono ?_
  rintro e w1 ⟨rfl, k⟩
  have hi : ∀ W, (Instr.index 100 (.agg #[.int .i64 (e0 : Int), .int .i64 (e1 : Int)]) (.int .i64 0)).run Tryz.prog W = .ok (.int .i64 (e0 : Int)) W := fun W => by kernel_rfl
  go_wp2_with fail
  go_ret
  exact ⟨rfl, k⟩
end Go.Proofs.YtoihekgmomjhpaaGreatDoor.W

/-
  Layer 6: cells written one behind the other; slices.Delete of one pair, and the program's without and copyOf.
-/
set_option linter.unusedVariables false
namespace Go.Proofs.YtoihekgmomjhpaaGreatDoor.W
open Go.RowKit Whl
/-- A row with some of its cells written. -/
def layIn (cur : List Value) (o : Nat) (vs : List Value) : List Value := cur.take o ++ vs ++ cur.drop (o + vs.length)
theorem layIn_len {cur vs : List Value} {o : Nat} (h : o + vs.length ≤ cur.length) : (layIn cur o vs).length = cur.length := by
  simp [layIn]; omega
theorem layIn_cons {cur : List Value} {o : Nat} {v : Value} {r : List Value} (h : o + (r.length + 1) ≤ cur.length) : layIn (cur.set o v) (o + 1) r = layIn cur o (v :: r) := by
  have e1 : (cur.set o v).take (o + 1) = cur.take o ++ [v] := by
    rw [List.take_succ_eq_append_getElem (by simp; omega)]
    simp [List.take_set]
    apply List.set_eq_of_length_le
    simp
    omega
  have e2 : (cur.set o v).drop (o + 1 + r.length) = cur.drop (o + 1 + r.length) := List.drop_set_of_lt (by omega)
  unfold layIn
  rw [e1, e2]
  simp [Nat.add_assoc, Nat.add_comm 1]
theorem heap_setCells {g : Nat} {t : TypeId} : ∀ (vs : List Value) (o : Nat) (w : World) (cur : Array Value), w.heap[g]? = some (.cells cur t (0, 0)) → o + vs.length ≤ cur.size → (w.setCells g o vs).heap[g]? = some (.cells (layIn cur.toList o vs).toArray t (0, 0))
  | [], o, w, cur, h, _ => by
    show w.heap[g]? = _
    rw [h]
    simp [layIn]
  | v :: r, o, w, cur, h, hl => by
    have h1 := heap_setCell_same w g o cur t v h
    have := heap_setCells r (o + 1) (w.setCell ⟨g, o, none⟩ v) (cur.setIfInBounds o v) h1 (by simp at hl ⊢; omega)
    show ((w.setCell ⟨g, o, none⟩ v).setCells g (o + 1) r).heap[g]? = _
    rw [this, Array.toList_setIfInBounds, layIn_cons (by simpa using hl)]
theorem heap_setCells_other {g k : Nat} (hk : k ≠ g) : ∀ (vs : List Value) (o : Nat) (w : World), (w.setCells g o vs).heap[k]? = w.heap[k]?
  | [], o, w => rfl
  | v :: r, o, w => (heap_setCells_other hk r (o + 1) _).trans (heap_setCell_other _ _ _ _ hk)
theorem grown_setCells (g : Nat) : ∀ (vs : List Value) (o : Nat) (w : World), w.grownBy (w.setCells g o vs) (some g)
  | [], o, w => ⟨rfl, rfl, rfl, Nat.le_refl _, fun _ _ _ => rfl⟩
  | v :: r, o, w => by
    have h := grown_setCells g r (o + 1) (w.setCell ⟨g, o, none⟩ v)
    have h0 : w.grownBy (w.setCell ⟨g, o, none⟩ v) (some g) := ⟨rfl, rfl, rfl, by simp [World.setCell], fun k _ hk => heap_setCell_other _ _ _ _ (fun e => hk (by rw [e]))⟩
    exact h0.trans h
theorem drew_grown {w w' : World} {r : Option Nat} (h : w.drew.grownBy w' r) : w.grownBy w' r := ⟨h.os, h.tape, h.output, h.size, h.block⟩
theorem Rw.row {base : Nat} {w : World} {l : List ItemN} {g cap : Nat} (h : Rw base w (.slice (some ⟨g, 0, none⟩) l.length cap) l) :
    ∃ cur : Array Value, base ≤ g ∧ w.heap[g]? = some (.cells cur 100 (0, 0)) ∧ l.length ≤ cap ∧ cap ≤ maxLen ∧ cur.size = cap * 2 ∧ cur.toList.take (l.length * 2) = flat l := by
  rcases h.2 with ⟨h1, _⟩ | ⟨g', cap', cur, h1, h2, h3, h4, h5, h6, h7⟩
  · cases h1
  · injection h1 with a b c
    injection a with a
    injection a with a _ _
    subst a c
    exact ⟨cur, h2, h3, h4, h5, h6, h7⟩
theorem Rw.of_row {base : Nat} {w : World} {l : List ItemN} {g cap : Nat} {cur : Array Value} (h1 : base ≤ g) (h2 : w.heap[g]? = some (.cells cur 100 (0, 0))) (h3 : l.length ≤ cap) (h4 : cap ≤ maxLen) (h5 : cur.size = cap * 2) (h6 : cur.toList.take (l.length * 2) = flat l) :
    Rw base w (.slice (some ⟨g, 0, none⟩) l.length cap) l := ⟨flat_len l, .inr ⟨g, cap, cur, rfl, h1, h2, h3, h4, h5, h6⟩⟩
theorem clear_two (g o c : Nat) (cur : Array Value) (w : World) (ty : TypeId) (h : w.heap[g]? = some (.cells cur 100 (0, 0))) (hl : o + 2 ≤ cur.size) :
    (Builtin.clear_ #[98] ty #[.slice (some ⟨g, o, none⟩) 1 c]).run Tryz.prog w = .ok (.tuple #[]) (w.setCells g o [.int .i64 0, .int .i64 0]) := by
  have hst := run_storeCells_cells (P := Tryz.prog) g o [.int .i64 0, .int .i64 0] 0 w (fun j hj => by
    rw [cell_of_row w g _ cur 100 (0, 0) h, Array.getElem?_eq_getElem (by simp at hj; omega)]; rfl) (fun j hj => frozen_of_row w g _ cur 100 h) (fun v hv => by
    simp at hv; subst hv; rfl)
  simp only [Nat.add_zero] at hst
  have hz : (Builtin.zeroCells (Value.agg #[.int .i64 0, .int .i64 0]).cells 1).toList = [.int .i64 0, .int .i64 0] := by kernel_rfl
  simp [Builtin.clear_, run_underlying Tryz.underlying98, Tryz.zeroValue100, hz, hst]
set_option maxHeartbeats 4000000 in
set_option maxRecDepth 100000 in
theorem delete_any (base g cap : Nat) (l : List ItemN) (i : Nat) (w : World) (hr : Rw base w (.slice (some ⟨g, 0, none⟩) l.length cap) l) (hi : i < l.length) (hlen : l.length ≤ 1000000) :
    Calls Tryz.prog 129 #[.slice (some ⟨g, 0, none⟩) l.length cap, .int .i64 i, .int .i64 ((i + 1 : Nat) : Int)] w fun e w' => e = .returned (.slice (some ⟨g, 0, none⟩) (l.length - 1) cap) ∧ Rw base w' (.slice (some ⟨g, 0, none⟩) (l.eraseIdx i).length cap) (l.eraseIdx i) ∧ w.grownBy w' (some g) := by
  obtain ⟨cur, h1, h2, h3, h4, h5, h6⟩ := hr.row
  have hlE : (l.eraseIdx i).length = l.length - 1 := List.length_eraseIdx_of_lt hi
  obtain ⟨news, hnews⟩ : ∃ news, news = flat (l.drop (i + 1)) := ⟨_, rfl⟩
  have hnl : news.length = (l.length - (i + 1)) * 2 := by rw [hnews, flat_len, List.length_drop]
  obtain ⟨W1, hW1⟩ : ∃ W1, W1 = w.drew.setCells g (0 + i * 2) news := ⟨_, rfl⟩
  have g1 : w.drew.grownBy W1 (some g) := by rw [hW1]; exact grown_setCells g _ _ _
  have r1 : W1.heap[g]? = some (.cells (layIn cur.toList (0 + i * 2) news).toArray 100 (0, 0)) := by rw [hW1]; exact heap_setCells _ _ _ cur h2 (by omega)
  have r1s : (layIn cur.toList (0 + i * 2) news).toArray.size = cap * 2 := by
    rw [List.size_toArray, layIn_len (by simp; omega)]; simp [h5]
  have hcl : ∀ ty c, (Builtin.clear_ #[98] ty #[.slice (some ⟨g, (l.length - 1) * 2, none⟩) 1 c]).run Tryz.prog W1 = .ok (.tuple #[]) (W1.setCells g ((l.length - 1) * 2) [.int .i64 0, .int .i64 0]) := fun ty c => clear_two g _ c _ W1 ty r1 (by omega)
  have fin : Hid (Rw base (W1.setCells g ((l.length - 1) * 2) [.int .i64 0, .int .i64 0]) (.slice (some ⟨g, 0, none⟩) (l.eraseIdx i).length cap) (l.eraseIdx i) ∧ w.grownBy (W1.setCells g ((l.length - 1) * 2) [.int .i64 0, .int .i64 0]) (some g)) := by
    refine ⟨Rw.of_row h1 (heap_setCells _ _ _ _ r1 (by simp only [List.length_cons, List.length_nil]; omega)) (by omega) h4 ?_ ?_, drew_grown (g1.trans (grown_setCells g _ _ _))⟩
    · rw [List.size_toArray, layIn_len (by simp only [List.length_cons, List.length_nil]; rw [List.size_toArray] at r1s; omega), ← r1s, List.size_toArray]
    · have e : l.eraseIdx i = l.take i ++ l.drop (i + 1) := List.eraseIdx_eq_take_drop_succ l i
      have ht : flat (l.take i) = cur.toList.take (i * 2) := by
        rw [flat_take l i (by omega), ← h6, List.take_take]; congr 1; omega
      rw [e, flat_app, ht, ← hnews, ← e, hlE]
      unfold layIn
      rw [List.append_assoc (List.take ((l.length - 1) * 2) _), List.take_left' (by simp; omega)]
      rw [List.take_left' (by simp; omega)]
      simp
  have hcell : Hid (∀ j, j < cap * 2 → ∃ u, w.drew.cell? ⟨g, j, none⟩ = some u ∧ w.drew.frozen? ⟨g, j, none⟩ = false) := fun j hj =>
    ⟨cur[j]'(by omega), (cell_of_row w g j cur 100 (0, 0) h2).trans (Array.getElem?_eq_getElem (by omega)), frozen_of_row w g j cur 100 h2⟩
  obtain ⟨A, hA, hsrc⟩ : ∃ A : Addr, (if cap = i + 1 then some (⟨g, 0, none⟩ : Addr) else some ⟨g, (i + 1) * 2, none⟩) = some A ∧ Hid (∀ t u, news[t]? = some u → w.drew.cell? (A.add t) = some u) := by
    by_cases h : cap = i + 1
    · refine ⟨⟨g, 0, none⟩, by simp [h], fun t u hu => ?_⟩
      have h0 : news.length = 0 := by omega
      rw [List.length_eq_zero_iff.1 h0] at hu
      simp at hu
    · refine ⟨⟨g, (i + 1) * 2, none⟩, by simp [h], fun t u hu => ?_⟩
      have ht := (List.getElem?_eq_some_iff.1 hu).1
      rw [Addr.add_lit]
      show w.cell? _ = _
      rw [cell_of_row w g _ cur 100 (0, 0) h2]
      rw [hnews, flat_drop l (i + 1) (by omega), List.getElem?_drop, ← h6, List.getElem?_take] at hu
      split at hu
      · simpa using hu
      · cases hu
  have s1 : Hid (news.length = (l.length - (i + 1)) * 2) := hnl
  have s2 : Hid (∀ u ∈ news, u.oneCell' = true) := by rw [hnews]; exact flat_one _
  have s3 : Hid (∀ t, t < news.length → (w.drew.cell? ⟨g, 0 + i * 2 + t, none⟩).isSome = true ∧ w.drew.frozen? ⟨g, 0 + i * 2 + t, none⟩ = false) := by
    intro t ht
    obtain ⟨u, e1, e2⟩ := hcell.out (0 + i * 2 + t) (by omega)
    exact ⟨by rw [e1]; rfl, e2⟩
  have hW : Hid (W1 = w.drew.setCells g (0 + i * 2) news) := hW1
  obtain ⟨i0, hi0, hz0, hzs, hzb⟩ := info_parts info52
  have hn1 : (l.length : Int) ≤ 1000000 := by omega
  have hi1 : (i : Int) < l.length := by omega
  have hc1 : (l.length : Int) ≤ cap := by omega
  have hc2 : (cap : Int) ≤ 9223372036854775807 := by simp only [maxLen] at h4; omega
  clear hr h2 g1 r1 r1s hnews hnl hW1 hcell h6 h5
  have en : l.length - 1 = i + (l.length - (i + 1)) := by omega
  rw [en] at hcl fin ⊢
  have hic : i ≤ cap := by omega
  have hjc : i + 1 ≤ cap := by omega
  have hjn : i + 1 ≤ l.length := by omega
  generalize hm : l.length - (i + 1) = m at *
  have hlm : l.length = i + m + 1 := by omega
  have hx1 : l.length - (i + m) = 1 := by omega
  rw [hlm] at *
  have hb1 : (0 : Int) ≤ (i : Int) + 1 := by omega
  have hb2 : (i : Int) ≤ (i : Int) + (m : Int) := by omega
  go_enter Tryz.func129, Tryz.ntmps129
  go_wp2_with fail
  go_region_law (refine step_append_room rfl (.tmp 22) (.tmp 25) 98 rfl 100 i0 2 Tryz.underlying98 hi0 hzs g 0 i cap (by simp [Act.eval, Act.put]) A m (cap - (i + 1)) news (by simp [Act.eval, Act.put]) s1.out hsrc.out s2.out (by omega) s3.out ?_; rw [← hW.out])
  go_wp2_with fail
  go_ret
  exact ⟨rfl, fin.out.1, fin.out.2⟩
end Go.Proofs.YtoihekgmomjhpaaGreatDoor.W

/-
  Layer 6: the program's without and copyOf.
-/
set_option linter.unusedVariables false
namespace Go.Proofs.YtoihekgmomjhpaaGreatDoor.W
open Go.RowKit Whl
/-- A list behind a call that was given one: what it holds, that only its own block may have turned, and where it lies. -/
structure Turned (base : Nat) (w : World) (v : Value) (w' : World) (v' : Value) (l' : List ItemN) : Prop where
  row : Rw base w' v' l'
  grown : w.grownBy w' v.ownBlock
  own : ∀ k, v'.ownBlock = some k → v.ownBlock = some k ∨ w.heap.size ≤ k
theorem below_grown {w w' : World} (h : Below w.heap.size w w') (r : Option Nat) : w.grownBy w' r := ⟨h.os, h.tape, h.output, h.size, fun k hk _ => h.block k hk⟩
set_option maxRecDepth 100000 in
theorem without_any (base : Nat) (v : Value) (l : List ItemN) (p : ItemN) (w : World) (hr : Rw base w v l) (hp : p ∈ l) (hlen : l.length ≤ 1000000) :
    Calls Tryz.prog 91 #[v, pairV p] w fun e w' => ∃ v', e = .returned v' ∧ Turned base w v w' v' (l.erase p) := by
  have hl : 0 < l.length := List.length_pos_of_mem hp
  rcases hr.form with ⟨_, h0⟩ | ⟨g, cap, rfl, hg1, hg2⟩
  · subst h0; simp at hl
  have hx : l.idxOf p < l.length := List.idxOf_lt_length_of_mem hp
  have he : l.erase p = l.eraseIdx (l.idxOf p) := List.erase_eq_eraseIdx_of_idxOf rfl
  have b1 := Lib.hid ((Below.refl w.heap.size w).alloc (Nat.le_refl _) (.cells #[.int .i64 (p.1 : Int), .int .i64 (p.2 : Int)] 100))
  have R1 := Lib.hid (hr.below b1.out)
  have B1 := Bx.start w p
  obtain ⟨d0, d1⟩ := B1
  have ci := Lib.hid (index_any base _ l p _ R1.out hp hlen)
  have cd := Lib.hid (fun W (h : Rw base W (.slice (some ⟨g, 0, none⟩) l.length cap) l) => delete_any base g cap l (l.idxOf p) W h hx hlen)
  rw [he]
  have hlE : Hid ((l.eraseIdx (l.idxOf p)).length = l.length - 1) := List.length_eraseIdx_of_lt hx
  have hX : (l.idxOf p : Int) < 1000000 := by omega
  clear hp hr he
  generalize l.idxOf p = X at *
  obtain ⟨p0, p1⟩ := p
  unfold pairV at *
  simp only at d0 d1
  go_enter Tryz.func91, Tryz.ntmps91
  go_wp2_with fail
  refine ci.out.mono ?_
  rintro e w2 ⟨rfl, k⟩
  have b2 := Lib.hid (b1.out.trans (k.mono b1.out.size))
  have c2 := Lib.hid (cd.out _ (R1.out.below k))
  clear k ci cd d0 d1 b1 R1
  have hw1 : (((X + 1 : Nat) : Int)) = (X : Int) + 1 := by omega
  rw [hw1] at c2
  clear hw1 hlen
  replace hx := Lib.hid hx
  replace hl := Lib.hid hl
  have hX1 : IntKind.i64.wrap ((X : Int) + 1) = (X : Int) + 1 := by rw [IntKind.wrap_i64]; omega
  clear hX
  go_wp2_with fail
  refine c2.out.mono ?_
  rintro e w3 ⟨rfl, R3, G3⟩
  have G : Hid (w.grownBy w3 (some g)) := (below_grown b2.out (some g)).trans G3
  clear G3 c2
  replace hx := hx.out
  by_cases h1 : l.length = 1
  · have e0 : l.eraseIdx X = [] := List.length_eq_zero_iff.1 (by rw [hlE.out]; omega)
    have hz : l.length - 1 = 0 := by omega
    rw [hz]
    clear h1 hz
    replace R3 := Lib.hid R3
    replace e0 := Lib.hid e0
    go_wp2_with fail
    go_ret
    exact ⟨_, rfl, by rw [e0.out]; exact Rw.nil _ _, G.out, fun k hk => by simp [Value.ownBlock] at hk⟩
  · have hz : (((l.length - 1 : Nat) : Int) == 0) = false := by
      rw [beq_eq_false_iff_ne]
      omega
    rw [hlE.out] at R3
    replace R3 := Lib.hid R3
    generalize hn : l.length - 1 = n at *
    go_wp2_with fail
    go_ret
    exact ⟨_, rfl, R3.out, G.out, fun k hk => .inl hk⟩
set_option maxRecDepth 100000 in
theorem copyOf_any (a : Option Addr) (n c : Nat) (l : List ItemN) (w : World) (hn : l.length = n) (ha : ∀ j u, (flat l)[j]? = some u → ∃ b, a = some b ∧ w.cell? (b.add j) = some u) (hlen : l.length ≤ 1000000) :
    Calls Tryz.prog 65 #[.slice a n c] w fun e w' => ∃ v', e = .returned v' ∧ Rw w.heap.size w' v' l ∧ Below w.heap.size w w' := by
  obtain ⟨i0, hi0, hz0, hzs, hzb⟩ := info_parts info52
  obtain ⟨v', w', hrun, hown, hg⟩ : ∃ v' w', (∀ ty, (Builtin.append_ #[98, 98] ty #[.slice none 0 0, .slice a n c]).run Tryz.prog w = .ok v' w') ∧ Rw w.heap.size w' v' l ∧ w.grownBy w' none := by
    by_cases h0 : n = 0
    · have e : l = [] := List.length_eq_zero_iff.1 (by omega)
      subst h0 e
      refine ⟨.slice none 0 0, w, fun ty => ?_, Rw.nil _ _, ⟨rfl, rfl, rfl, Nat.le_refl _, fun _ _ _ => rfl⟩⟩
      cases a with
      | none => simp [Builtin.append_, run_underlying Tryz.underlying98, sizeOf, typeInfo, hi0, Builtin.lenOf, Builtin.firstCells]
      | some b => simp [Builtin.append_, run_underlying Tryz.underlying98, sizeOf, typeInfo, hi0, Builtin.lenOf, Builtin.firstCells, loadCells, loadCellsFrom]
    · have hpos : 0 < l.length := by omega
      obtain ⟨b, rfl, _⟩ := ha 0 _ (List.getElem?_eq_getElem (by rw [flat_len]; omega))
      have key : ∀ ty, ∃ v' w', (Builtin.append_ #[98, 98] ty #[.slice none 0 0, .slice (some b) n c]).run Tryz.prog w = .ok v' w' ∧ w'.ownsRow w.heap.size 100 2 v' (0 + n) ([] ++ flat l) ∧ w.grownBy w' (Value.slice none 0 0).ownBlock ∧ (v' = .slice none 0 0 ↔ Value.slice none 0 0 = .slice none 0 0 ∧ n = 0) := fun ty =>
        run_append_own w w.heap.size 98 ty 100 i0 _ 2 16 Tryz.underlying98 hi0 hz0 hzs hzb rfl (by omega) (.slice none 0 0) 0 [] (World.ownsRow_nil w _ 100 2) b n c (flat l) (by rw [flat_len, hn]) (fun j u hu => by
          obtain ⟨b', e, hc⟩ := ha j u hu
          injection e with e
          subst e
          exact hc) (flat_one l) (by unfold maxLen; omega) (by omega) (Nat.le_refl _)
      obtain ⟨v', w', h1, h2, h3, _⟩ := key 98
      refine ⟨v', w', fun ty => h1, ?_, h3⟩
      unfold Rw
      rw [hn]
      simpa using h2
  go_enter Tryz.func65, Tryz.ntmps65
  go_wp2_with (at_builtin; refine Lib.wpList_append_run _ rfl _ _ _ _ rfl _ _ rfl rfl _ _ (hrun _) ?_)
  go_ret
  exact ⟨_, rfl, hown, ⟨hg.os, hg.tape, hg.output, hg.size, fun k hk => hg.block k hk (by simp)⟩⟩
end Go.Proofs.YtoihekgmomjhpaaGreatDoor.W
