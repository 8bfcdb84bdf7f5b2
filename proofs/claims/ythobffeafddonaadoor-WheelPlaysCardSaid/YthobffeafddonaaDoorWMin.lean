/-
  Layer 6: slices.MinFunc at a list of pairs, and the program's least.
-/
import Derived.Test.YthobffeafddonaaDoorWList
import Derived.Laws.Rows
set_option linter.unusedVariables false
namespace Go.Proofs.YthobffeafddonaaDoor
open Go.RowKit Whl

theorem leastOf_snoc (x : ItemN) : ∀ (r : List ItemN) (m : ItemN), Whl.leastOf m (r ++ [x]) = if ltB x (Whl.leastOf m r) = true then x else Whl.leastOf m r
  | [], m => rfl
  | y :: r, m => by
    show Whl.leastOf _ (r ++ [x]) = _
    rw [leastOf_snoc x r]
    rfl
/-- The least of the first k of a list. -/
def minTo (l : List ItemN) (k : Nat) : ItemN := Whl.leastOf (l.headD (0, 0)) ((l.take k).drop 1)
theorem minTo_succ (l : List ItemN) (k : Nat) (h1 : 1 ≤ k) (hk : k < l.length) : minTo l (k + 1) = if ltB l[k] (minTo l k) = true then l[k] else minTo l k := by
  unfold minTo
  have e : (l.take (k + 1)).drop 1 = (l.take k).drop 1 ++ [l[k]] := by
    rw [List.take_succ_eq_append_getElem hk, List.drop_append_of_le_length (by rw [List.length_take]; omega)]
  rw [e, leastOf_snoc]
theorem minTo_one (l : List ItemN) (h : 0 < l.length) : minTo l 1 = l[0] := by
  unfold minTo
  cases l with
  | nil => simp at h
  | cons p r => simp [Whl.leastOf]
theorem minTo_mem (l : List ItemN) (h : 0 < l.length) : minTo l l.length ∈ l := by
  unfold minTo
  cases l with
  | nil => simp at h
  | cons p r =>
    simp only [List.headD_cons, List.take_length, List.drop_succ_cons, List.drop_zero]
    rcases leastOf_mem r p with e | e
    · rw [e]; simp
    · exact List.mem_cons_of_mem _ e
theorem minTo_le (l : List ItemN) {q : ItemN} (hq : q ∈ l) : (minTo l l.length).1 ≤ q.1 := by
  unfold minTo
  cases l with
  | nil => simp at hq
  | cons p r =>
    simp only [List.headD_cons, List.take_length, List.drop_succ_cons, List.drop_zero]
    obtain ⟨h1, h2⟩ := leastOf_le r p
    rcases List.mem_cons.1 hq with e | e
    · rw [e]; exact h1
    · exact h2 q e

/-- A pair's own block. -/
def Bk (g : Nat) (w : World) (p : ItemN) : Prop := w.heap[g]? = some (.cells #[.int .i64 (p.1 : Int), .int .i64 (p.2 : Int)] 52 (0, 0))
theorem Bk.cells {g : Nat} {w : World} {p : ItemN} (h : Bk g w p) : w.cell? ⟨g, 0, none⟩ = some (.int .i64 (p.1 : Int)) ∧ w.cell? ⟨g, 1, none⟩ = some (.int .i64 (p.2 : Int)) ∧ w.frozen? ⟨g, 0, none⟩ = false ∧ w.frozen? ⟨g, 1, none⟩ = false :=
  ⟨cell_of_row w g 0 _ 52 (0, 0) h, cell_of_row w g 1 _ 52 (0, 0) h, frozen_of_row w g 0 _ 52 h, frozen_of_row w g 1 _ 52 h⟩
theorem Bk.below {g : Nat} {w w' : World} {p : ItemN} (h : Bk g w p) (k : Below w.heap.size w w') : Bk g w' p := (k.block g (Array.getElem?_eq_some_iff.1 h).1).trans h
theorem Bk.put {g : Nat} {w : World} {p : ItemN} (h : Bk g w p) (q : ItemN) : Bk g ((w.setCell ⟨g, 0, none⟩ (.int .i64 (q.1 : Int))).setCell ⟨g, 1, none⟩ (.int .i64 (q.2 : Int))) q := by
  have h1 := heap_setCell_same w g 0 _ _ (.int .i64 (q.1 : Int)) h
  exact heap_setCell_same _ g 1 _ _ (.int .i64 (q.2 : Int)) h1
theorem Rw.lower {base : Nat} {w w' : World} {v : Value} {l : List ItemN} {B : Nat} (h : Rw base w v l) (k : Below B w w') (hv : ∀ g, v.ownBlock = some g → g < B) : Rw base w' v l := by
  refine ⟨h.1, ?_⟩
  rcases h.2 with h2 | ⟨g, cap, cur, h1, h2, h3, h4⟩
  · exact .inl h2
  · exact .inr ⟨g, cap, cur, h1, h2, (k.block g (hv g (by rw [h1]; rfl))).trans h3, h4⟩

theorem results_cell {fn : Func} {p : Tmp} {ty : TypeId} (h : fn.results = #[.cell p ty]) (tmps : Array Value) (P : Program) (w : World) :
    (results fn tmps).run P w = ((asAddr (tmps.getD p undef)).run P w).andThen fun a w₁ => (loadVar ty a).run P w₁ := by
  simp only [results, h]
  simp [Sem.run_bind, Result.andThen]
set_option maxRecDepth 100000 in
set_option maxHeartbeats 2000000 in
theorem minFunc_any (base : Nat) (v : Value) (l : List ItemN) (w : World) (hr : Rw base w v l) (h0 : 0 < l.length) (hlen : l.length ≤ 1000000) :
    Calls Tryd.prog 43 #[v, .func (.func 35) #[] #[]] w fun e w' => e = .returned (pairV (minTo l l.length)) ∧ Below w.heap.size w w' := by
  rcases hr.form with ⟨_, h⟩ | ⟨g, cap, rfl, hg1, hg2⟩
  · subst h; simp at h0
  obtain ⟨M, hMM⟩ : ∃ M, minTo l l.length = M := ⟨_, rfl⟩
  rw [hMM]
  replace hMM := Lib.hid hMM
  have hn : (l.length : Int) ≤ 1000000 := by omega
  have hn0 : 1 ≤ (l.length : Int) := by omega
  have hs := Lib.hid (minTo_succ l)
  have h1 := Lib.hid (minTo_one l h0)
  have b1 := Lib.hid ((Below.refl w.heap.size w).alloc (Nat.le_refl _) (.cells #[.int .i64 0, .int .i64 0] 52))
  obtain ⟨c0, c1⟩ := hr.cells 0 h0
  rw [← h1.out] at c0 c1
  have R1 := Lib.hid (hr.below b1.out)
  have cc := Lib.hid (fun W q p => compare_any q p W)
  clear hr
  simp only [Nat.zero_mul, Nat.zero_add] at c0 c1
  generalize hM : minTo l 1 = M0 at *
  obtain ⟨m0, m1⟩ := M0
  simp only at c0 c1
  unfold pairV at *
  go_enter Tryd.func43, Tryd.ntmps43
  go_upto_region 4 with fail
  have hM0 : Hid (minTo l 1 = (m0, m1)) := hM
  clear hM c0 c1 h1
  have A1 : Hid (Bk w.heap.size ((w.alloc (.cells #[.int .i64 0, .int .i64 0] 52)).alloc (.cells #[.int .i64 (m0 : Int), .int .i64 (m1 : Int)] 52)) (0, 0)) := (Go.heap_alloc_old _ _ (by simp)).trans (Go.heap_alloc_new w _)
  have A2 : Hid (Bk (w.heap.size + 1) ((w.alloc (.cells #[.int .i64 0, .int .i64 0] 52)).alloc (.cells #[.int .i64 (m0 : Int), .int .i64 (m1 : Int)] 52)) (minTo l 1)) := by
    rw [hM0.out]
    have := Go.heap_alloc_new (w.alloc (.cells #[.int .i64 0, .int .i64 0] 52)) (.cells #[.int .i64 (m0 : Int), .int .i64 (m1 : Int)] 52)
    rwa [show (w.alloc (.cells #[.int .i64 0, .int .i64 0] 52)).heap.size = w.heap.size + 1 by simp] at this
  have b2 := Lib.hid (b1.out.alloc b1.out.size (.cells #[.int .i64 (m0 : Int), .int .i64 (m1 : Int)] 52))
  have R2 := Lib.hid (R1.out.below ((Below.refl _ _).alloc (Nat.le_refl _) (.cells #[.int .i64 (m0 : Int), .int .i64 (m1 : Int)] 52)))
  clear b1 R1 hM0
  generalize ((w.alloc (.cells #[.int .i64 0, .int .i64 0] 52)).alloc (.cells #[.int .i64 (m0 : Int), .int .i64 (m1 : Int)] 52)) = W2 at *
  go_wp2_with fail
  go_loopw [6] (fun v wr => ∃ k : Nat, v = .int .i64 k ∧ 1 ≤ (k : Int) ∧ (k : Int) ≤ l.length ∧ Hid (Bk w.heap.size wr (0, 0)) ∧ Hid (Bk (w.heap.size + 1) wr (minTo l k)) ∧ Hid (Below w.heap.size w wr) ∧ Hid (Rw base wr (.slice (some ⟨g, 0, none⟩) l.length cap) l)) (fun v _ => ((l.length : Int) - intOf v).toNat)
  case atStart => exact ⟨1, rfl, by omega, by omega, A1, A2, b2, R2⟩
  case round =>
    obtain ⟨k, rfl, k1, k2, A3, A4, b3, R3⟩ := hrel
    clear A1 A2 b2 R2
    by_cases hlt : (k : Int) < l.length
    · obtain ⟨c0, c1⟩ := R3.out.cells k (by omega)
      have hsk := Lib.hid (hs.out k (by omega) (by omega))
      generalize hq : l[k] = q at *
      clear hq
      obtain ⟨d0, d1, f0, f1⟩ := A4.out.cells
      generalize hm : minTo l k = m at *
      have hcm := Lib.hid (cmpP_lt q m)
      have cq := Lib.hid (fun W => cc.out W q m)
      generalize cmpP q m = C at *
      replace hm := Lib.hid hm
      obtain ⟨q0, q1⟩ := q
      obtain ⟨e0, e1⟩ := m
      simp only at c0 c1 d0 d1 cq
      have hg : g < wr.heap.size := World.block_lt_of_cell? wr _ c0
      have hw : w.heap.size + 1 < wr.heap.size := World.block_lt_of_cell? wr _ d0
      have hS : Hid (∀ W, Below wr.heap.size wr W → W.cell? ⟨g, k * 2, none⟩ = some (.int .i64 (q0 : Int)) ∧ W.cell? ⟨g, k * 2 + 1, none⟩ = some (.int .i64 (q1 : Int)) ∧ W.cell? ⟨w.heap.size + 1, 0, none⟩ = some (.int .i64 (e0 : Int)) ∧ W.cell? ⟨w.heap.size + 1, 1, none⟩ = some (.int .i64 (e1 : Int))) := fun W hW =>
        ⟨(hW.cell (p := ⟨g, k * 2, none⟩) hg).trans c0, (hW.cell (p := ⟨g, k * 2 + 1, none⟩) hg).trans c1, (hW.cell (p := ⟨w.heap.size + 1, 0, none⟩) hw).trans d0, (hW.cell (p := ⟨w.heap.size + 1, 1, none⟩) hw).trans d1⟩
      have hb : Hid (Below wr.heap.size wr wr.drew) := (Below.refl _ _).drew
      have hcA := hS.out _ hb.out
      clear c0 c1 d0 d1 f0 f1 hw
      replace hg := Lib.hid hg
      go_upto_region 7 with fail
      go_region_held3 (fun W => W.cell? ⟨g, k * 2, none⟩ = some (.int .i64 (q0 : Int)) ∧ W.cell? ⟨g, k * 2 + 1, none⟩ = some (.int .i64 (q1 : Int)) ∧ W.cell? ⟨w.heap.size + 1, 0, none⟩ = some (.int .i64 (e0 : Int)) ∧ W.cell? ⟨w.heap.size + 1, 1, none⟩ = some (.int .i64 (e1 : Int))) (first | (with_reducible exact hc6) | (with_reducible exact hcA) | go_keep)
        (first
          | (go_at_call 35; (with_reducible refine (cq.out _).mono ?_); rintro e w6 ⟨rfl, k6⟩; replace hb := Lib.hid (hb.out.trans (k6.mono hb.out.size)); have hc6 := hS.out _ hb.out; clear k6))
      have b4 := Lib.hid (b3.out.trans (hb.out.mono b3.out.size))
      have A5 := Lib.hid (A3.out.below hb.out)
      have A6 := Lib.hid (A4.out.below hb.out)
      have R4 := Lib.hid (R3.out.below hb.out)
      obtain ⟨c0, c1, d0, d1⟩ := hc6
      obtain ⟨_, _, f0, f1⟩ := A6.out.cells
      by_cases hC0 : C < 0
      · have hsn : Hid (minTo l (k + 1) = (q0, q1)) := by rw [hsk.out]; exact if_pos (hcm.out.1 hC0)
        have A7 : Hid (Bk (w.heap.size + 1) ((w6.setCell ⟨w.heap.size + 1, 0, none⟩ (.int .i64 (q0 : Int))).setCell ⟨w.heap.size + 1, 1, none⟩ (.int .i64 (q1 : Int))) (minTo l (k + 1))) := by
          rw [hsn.out]
          exact A6.out.put (q0, q1)
        have A8 : Hid (Bk w.heap.size ((w6.setCell ⟨w.heap.size + 1, 0, none⟩ (.int .i64 (q0 : Int))).setCell ⟨w.heap.size + 1, 1, none⟩ (.int .i64 (q1 : Int))) (0, 0)) := (heap_setCell_other _ _ _ _ (by simp)).trans ((heap_setCell_other _ _ _ _ (by simp)).trans A5.out)
        have b5 : Hid (Below w.heap.size w ((w6.setCell ⟨w.heap.size + 1, 0, none⟩ (.int .i64 (q0 : Int))).setCell ⟨w.heap.size + 1, 1, none⟩ (.int .i64 (q1 : Int)))) := (b4.out.setCell (by simp) _).setCell (by simp) _
        have R5 : Hid (Rw base ((w6.setCell ⟨w.heap.size + 1, 0, none⟩ (.int .i64 (q0 : Int))).setCell ⟨w.heap.size + 1, 1, none⟩ (.int .i64 (q1 : Int))) (.slice (some ⟨g, 0, none⟩) l.length cap) l) := R4.out.lower (B := w.heap.size) (((Below.refl _ _).setCell (by simp) _).setCell (by simp) _) (fun x hx => by
          simp [Value.ownBlock] at hx
          omega)
        go_wp2_with fail
        exact ⟨⟨k + 1, by go_num, by omega, by omega, A8, A7, b5, R5⟩, by simp [intOf]; omega⟩
      · have hsn : Hid (minTo l (k + 1) = (e0, e1)) := by
          rw [hsk.out]
          exact if_neg fun hx => hC0 (hcm.out.2 hx)
        rw [← hsn.out] at A6
        go_wp2_with fail
        exact ⟨⟨k + 1, by go_num, by omega, by omega, A5, A6, b4, R4⟩, by simp [intOf]; omega⟩
    · have hkn : k = l.length := by omega
      subst hkn
      obtain ⟨d0, d1, _, _⟩ := A4.out.cells
      obtain ⟨f0, f1, f2, f3⟩ := A3.out.cells
      rw [hMM.out] at d0 d1
      obtain ⟨e0, e1⟩ := M
      simp only at d0 d1 f0 f1
      go_wp2_with fail
      refine bodyPost_ret (v := .agg #[.int .i64 (e0 : Int), .int .i64 (e1 : Int)]) ?_ rfl ?_
      · rw [results_cell rfl]
        go_simp
      · exact ⟨rfl, (b3.out.setCell (by simp) _).setCell (by simp) _⟩
theorem least_any (base : Nat) (v : Value) (l : List ItemN) (w : World) (hr : Rw base w v l) (h0 : 0 < l.length) (hlen : l.length ≤ 1000000) :
    Calls Tryd.prog 30 #[v] w fun e w' => e = .returned (.int .i64 ((minTo l l.length).1 : Nat)) ∧ Below w.heap.size w w' := by
  have cm := Lib.hid (minFunc_any base v l w hr h0 hlen)
  clear hr h0 hlen
  generalize minTo l l.length = M at *
  obtain ⟨e0, e1⟩ := M
  unfold pairV at cm
  go_enter Tryd.func30, Tryd.ntmps30
  go_wp2_with fail
  refine cm.out.mono ?_
  rintro e w1 ⟨rfl, k⟩
  have hi : ∀ W, (Instr.index 52 (.agg #[.int .i64 (e0 : Int), .int .i64 (e1 : Int)]) (.int .i64 0)).run Tryd.prog W = .ok (.int .i64 (e0 : Int)) W := fun W => by kernel_rfl
  go_wp2_with fail
  go_ret
  exact ⟨rfl, k⟩
end Go.Proofs.YthobffeafddonaaDoor
