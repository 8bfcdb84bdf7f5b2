/-
  The program's Parse (layer 4).
-/
import Derived.Test.YtiidhcpflplpiaaGreatDoorCPF
set_option linter.unusedVariables false
namespace Go.Proofs.YtiidhcpflplpiaaGreatDoor
open Go.RowKit Crn

/-- What the program's Parse answers. -/
def errOf (r : Option SpecN) : Int := if r.isSome then 0 else 7
def answerE (r : Option SpecN) : Ending := .returned (.tuple #[specV (r.getD zero), .int .i64 (errOf r)])

/-- The answer's block as it was laid. -/
structure Res (w wr : World) : Prop where
  r : wr.heap[w.heap.size]? = some (.cells #[.int .u64 0, .int .u64 0, .int .u64 0, .int .u64 0, .int .u64 0, .bool false, .bool false, .int .i64 0] 64)
  size : w.heap.size + 1 ≤ wr.heap.size
  below : Below w.heap.size w wr
theorem Res.start (w : World) : Res w (w.alloc (.cells #[.int .u64 0, .int .u64 0, .int .u64 0, .int .u64 0, .int .u64 0, .bool false, .bool false, .int .i64 0] 64)) :=
  ⟨Go.heap_alloc_new w _, by simp, (Below.refl _ _).alloc (Nat.le_refl _) _⟩
theorem Res.step {w wr w2 : World} (h : Res w wr) {B : Nat} (hB : w.heap.size + 1 ≤ B) (k : Below B wr w2) : Res w w2 :=
  ⟨(k.block _ (by omega)).trans h.r, Nat.le_trans h.size k.size, h.below.trans (k.mono (by omega))⟩
theorem Res.facts {w wr : World} (h : Res w wr) : wr.cell? ⟨w.heap.size, 0, none⟩ = some (.int .u64 0) ∧ wr.cell? ⟨w.heap.size, 1, none⟩ = some (.int .u64 0) ∧ wr.cell? ⟨w.heap.size, 2, none⟩ = some (.int .u64 0) ∧ wr.cell? ⟨w.heap.size, 3, none⟩ = some (.int .u64 0) ∧ wr.cell? ⟨w.heap.size, 4, none⟩ = some (.int .u64 0) ∧ wr.cell? ⟨w.heap.size, 5, none⟩ = some (.bool false) ∧ wr.cell? ⟨w.heap.size, 6, none⟩ = some (.bool false) ∧ wr.cell? ⟨w.heap.size, 7, none⟩ = some (.int .i64 0) ∧ wr.frozen? ⟨w.heap.size, 0, none⟩ = false ∧ wr.frozen? ⟨w.heap.size, 1, none⟩ = false ∧ wr.frozen? ⟨w.heap.size, 2, none⟩ = false ∧ wr.frozen? ⟨w.heap.size, 3, none⟩ = false ∧ wr.frozen? ⟨w.heap.size, 4, none⟩ = false ∧ wr.frozen? ⟨w.heap.size, 5, none⟩ = false ∧ wr.frozen? ⟨w.heap.size, 6, none⟩ = false ∧ wr.frozen? ⟨w.heap.size, 7, none⟩ = false :=
  ⟨cell_of_row wr w.heap.size 0 _ 64 (0, 0) h.r, cell_of_row wr w.heap.size 1 _ 64 (0, 0) h.r, cell_of_row wr w.heap.size 2 _ 64 (0, 0) h.r, cell_of_row wr w.heap.size 3 _ 64 (0, 0) h.r, cell_of_row wr w.heap.size 4 _ 64 (0, 0) h.r, cell_of_row wr w.heap.size 5 _ 64 (0, 0) h.r, cell_of_row wr w.heap.size 6 _ 64 (0, 0) h.r, cell_of_row wr w.heap.size 7 _ 64 (0, 0) h.r, frozen_of_row wr w.heap.size 0 _ 64 h.r, frozen_of_row wr w.heap.size 1 _ 64 h.r, frozen_of_row wr w.heap.size 2 _ 64 h.r, frozen_of_row wr w.heap.size 3 _ 64 h.r, frozen_of_row wr w.heap.size 4 _ 64 h.r, frozen_of_row wr w.heap.size 5 _ 64 h.r, frozen_of_row wr w.heap.size 6 _ 64 h.r, frozen_of_row wr w.heap.size 7 _ 64 h.r⟩
theorem five_ahead (t0 t1 t2 t3 t4 : Bytes) (n : Int) : five t0 t1 t2 t3 t4 n = (five t0 t1 t2 t3 t4 0).map fun x => { x with ahead := n } := by
  unfold five
  cases field 0 t0 <;> cases field 1 t1 <;> cases field 2 t2 <;> cases field 3 t3 <;> cases field 4 t4 <;> rfl
theorem ofWords_other {pre : List Bytes} (h : ¬ (pre.length = 5 ∨ pre.length = 6)) : ofWords pre = none := by
  match pre, h with
  | [], _ => exact rfl
  | [_], _ => exact rfl
  | [_, _], _ => exact rfl
  | [_, _, _], _ => exact rfl
  | [_, _, _, _], _ => exact rfl
  | [_, _, _, _, _], h => exact absurd (Or.inl rfl) h
  | [_, _, _, _, _, _], h => exact absurd (Or.inr rfl) h
  | _ :: _ :: _ :: _ :: _ :: _ :: _ :: _, _ => exact rfl
theorem words_count (s : Bytes) : (words s).length ≤ s.length + 1 := by
  rw [← words_tabs]
  refine Nat.le_trans (List.length_filter_le _ _) ?_
  have := split_count 32 (s.map (fun b => if b = 9 then 32 else b))
  simpa using this
theorem strs_of_map (l : List ByteArray) : l.map Value.string = strsOf (l.map (·.data.toList)) := by
  unfold strsOf
  rw [List.map_map]
  apply List.map_congr_left
  intro x _
  simp only [Function.comp]
  rw [bs_list]

set_option maxRecDepth 100000 in
set_option maxHeartbeats 400000 in
theorem cParse_long (s : ByteArray) (w : World) (hs : 256 < s.size) (hm : s.size ≤ 1000) :
    Calls Tryz.prog 77 #[.string s] w fun e w' => e = answerE none ∧ Below w.heap.size w w' := by
  go_enter Tryz.func77, Tryz.ntmps77
  go_wp2_with fail
  refine bodyPost_ret (v := .tuple #[specV zero, .int .i64 7]) ?_ rfl ?_
  · rw [results_cell_tmp rfl]
    go_simp
    rfl
  · exact ⟨rfl, (Below.refl _ _).alloc (Nat.le_refl _) _⟩

set_option maxRecDepth 100000 in
set_option maxHeartbeats 4000000 in
theorem cParse_short (s : ByteArray) (w : World) (tb : Tab w) (hs : ¬ 256 < s.size) :
    Calls Tryz.prog 77 #[.string s] w fun e w' => e = answerE (parse s.data.toList) ∧ Below w.heap.size w w' := by
  have hpar := Lib.hid (parse_words (s := s.data.toList) (by simpa using hs))
  generalize parse s.data.toList = res at *
  have cf := Tryz.strings_FieldsFunc 94 #[] (enters_of Tryz.func94 (by kernel_rfl) rfl) blankR s (w.alloc (.cells #[.int .u64 0, .int .u64 0, .int .u64 0, .int .u64 0, .int .u64 0, .bool false, .bool false, .int .i64 0] 64)) (by omega) (isBlank_gives _)
  have hfw := fields_words s
  have hsm := strs_of_map (Lib.goFieldsP blankR s)
  rw [hfw] at hsm
  have hlen : (Lib.goFieldsP blankR s).length = (words s.data.toList).length := by rw [← hfw, List.length_map]
  rw [hsm, hlen] at cf
  clear hsm hlen hfw
  have hR0 := Lib.hid (Res.start w)
  have hp1 := Lib.hid (hpar.out _ rfl)
  clear hpar
  have hcnt : (words s.data.toList).length ≤ 257 := by
    have := words_count s.data.toList
    simp at this
    omega
  have hsz : Hid (∀ q ∈ words s.data.toList, q.length ≤ 1000) := fun q hq => by
    have := words_len hq
    simp at this
    omega
  generalize words s.data.toList = pre at *
  replace cf := Lib.hid cf
  have el : decide (256 < (s.size : Int)) = false := by simp; omega
  have tb1 := Lib.hid (tb.alloc (.cells #[.int .u64 0, .int .u64 0, .int .u64 0, .int .u64 0, .int .u64 0, .bool false, .bool false, .int .i64 0] 64))
  clear tb
  go_enter Tryz.func77, Tryz.ntmps77
  go_wp2_with fail
  refine cf.out.mono ?_
  rintro e w2 ⟨A, rfl, hA, ho, k2⟩
  have R2 := Lib.hid (hR0.out.step (by simp) k2)
  have tb2 := Lib.hid (tb1.out.below k2)
  replace ho := Lib.hid ho
  clear hR0 tb1 k2 cf hA el
  by_cases h56 : pre.length = 5 ∨ pre.length = 6
  · have hne : pre ≠ [] := by rintro rfl; simp at h56
    obtain ⟨g8, cap8, e8, hc8⟩ := own_strs hne ho.out
    obtain ⟨rfl, rfl⟩ : A = g8 ∧ pre.length = cap8 := by
      injection e8 with a1 a2 a3
      injection a1 with a1
      injection a1 with a1
      exact ⟨a1, a3⟩
    clear e8 ho hne
    have x0 := hc8 0 (by omega)
    have x1 := hc8 1 (by omega)
    have x2 := hc8 2 (by omega)
    have x3 := hc8 3 (by omega)
    have x4 := hc8 4 (by omega)
    have hA := World.block_lt_of_cell? w2 _ x0
    have cp := Lib.hid (parseFields_any A pre.length pre[0] pre[1] pre[2] pre[3] pre[4] w2 tb2.out (hsz.out _ (List.getElem_mem (by omega))) (hsz.out _ (List.getElem_mem (by omega))) (hsz.out _ (List.getElem_mem (by omega))) (hsz.out _ (List.getElem_mem (by omega))) (hsz.out _ (List.getElem_mem (by omega))) x0 x1 x2 x3 x4)
    have hc8' := Lib.hid hc8
    obtain ⟨fr, hfr⟩ : ∃ fr, five pre[0] pre[1] pre[2] pre[3] pre[4] 0 = fr := ⟨_, rfl⟩
    have h5 : Hid (pre.length = 5 → res = fr) := fun h => (hp1.out.trans (ofWords_five h)).trans hfr
    have h6 : Hid (∀ h : pre.length = 6, res = (aheadN pre[5]).bind fun n => fr.map fun x => { x with ahead := n }) := fun h => by
      rw [hp1.out, ofWords_six h, ← hfr]
      congr 1
      funext n
      exact five_ahead _ _ _ _ _ n
    rw [hfr] at cp
    clear hfr
    have hlo : 5 ≤ pre.length := by omega
    have hhi : pre.length ≤ 6 := by omega
    clear hc8 x0 x1 x2 x3 x4 hp1 tb2
    have d1 : decide ((pre.length : Int) < 5) = false := by simp; omega
    have d2 : decide (6 < (pre.length : Int)) = false := by simp; omega
    replace h56 := Lib.hid h56
    go_wp2_with fail
    refine cp.out.mono ?_
    rintro e w3 ⟨rfl, k3⟩
    have R3 := Lib.hid (R2.out.step R2.out.size k3)
    have hA3 : A < w3.heap.size := Nat.lt_of_lt_of_le hA k3.size
    have hc3 : Hid (∀ i (h : i < pre.length), w3.cell? ⟨A, i, none⟩ = some (.string (bs pre[i]))) := fun i h => (k3.cell (p := ⟨A, i, none⟩) hA).trans (hc8'.out i h)
    clear k3 R2 cp hc8' hA
    cases fr with
    | none =>
      have hres : Hid (res = none) := by
        rcases h56.out with h | h
        · exact h5.out h
        · have e := h6.out h
          rw [e]
          cases aheadN (pre[5]'(by omega)) <;> exact rfl
      clear h5 h6 h56
      simp only [answerP, Option.getD_none, Option.isSome_none, specV, cellsN, zero]
      have R4 := Lib.hid (R3.out.step R3.out.size ((Below.refl w3.heap.size w3).alloc (Nat.le_refl _) (.cells #[.int .u64 0, .int .u64 0, .int .u64 0, .int .u64 0, .int .u64 0, .bool false, .bool false, .int .i64 0] 64)))
      obtain ⟨q0, q1, q2, q3, q4, q5, q6, q7, q8, q9, q10, q11, q12, q13, q14, q15⟩ := R4.out.facts
      go_wp2_with fail
      refine bodyPost_ret (v := .tuple #[specV zero, .int .i64 7]) ?_ rfl ?_
      · rw [results_cell_tmp rfl]
        go_simp
        rfl
      · exact ⟨by rw [hres.out]; rfl, below_eight R4.out.below _ _ _ _ _ _ _ _⟩
    | some x =>
      obtain ⟨x0, x1, x2, x3, x4, d5, d6, x7⟩ := x
      simp only [answerP, Option.getD_some, Option.isSome_some, specV, cellsN]
      have R4 := Lib.hid (R3.out.step R3.out.size ((Below.refl w3.heap.size w3).alloc (Nat.le_refl _) (.cells #[.int .u64 x0, .int .u64 x1, .int .u64 x2, .int .u64 x3, .int .u64 x4, .bool d5, .bool d6, .int .i64 x7] 64)))
      have y0 : (w3.alloc (.cells #[.int .u64 x0, .int .u64 x1, .int .u64 x2, .int .u64 x3, .int .u64 x4, .bool d5, .bool d6, .int .i64 x7] 64)).cell? ⟨w3.heap.size, 0, none⟩ = some (.int .u64 x0) := by rw [World.cell?_alloc_new]; rfl
      have y1 : (w3.alloc (.cells #[.int .u64 x0, .int .u64 x1, .int .u64 x2, .int .u64 x3, .int .u64 x4, .bool d5, .bool d6, .int .i64 x7] 64)).cell? ⟨w3.heap.size, 1, none⟩ = some (.int .u64 x1) := by rw [World.cell?_alloc_new]; rfl
      have y2 : (w3.alloc (.cells #[.int .u64 x0, .int .u64 x1, .int .u64 x2, .int .u64 x3, .int .u64 x4, .bool d5, .bool d6, .int .i64 x7] 64)).cell? ⟨w3.heap.size, 2, none⟩ = some (.int .u64 x2) := by rw [World.cell?_alloc_new]; rfl
      have y3 : (w3.alloc (.cells #[.int .u64 x0, .int .u64 x1, .int .u64 x2, .int .u64 x3, .int .u64 x4, .bool d5, .bool d6, .int .i64 x7] 64)).cell? ⟨w3.heap.size, 3, none⟩ = some (.int .u64 x3) := by rw [World.cell?_alloc_new]; rfl
      have y4 : (w3.alloc (.cells #[.int .u64 x0, .int .u64 x1, .int .u64 x2, .int .u64 x3, .int .u64 x4, .bool d5, .bool d6, .int .i64 x7] 64)).cell? ⟨w3.heap.size, 4, none⟩ = some (.int .u64 x4) := by rw [World.cell?_alloc_new]; rfl
      have y5 : (w3.alloc (.cells #[.int .u64 x0, .int .u64 x1, .int .u64 x2, .int .u64 x3, .int .u64 x4, .bool d5, .bool d6, .int .i64 x7] 64)).cell? ⟨w3.heap.size, 5, none⟩ = some (.bool d5) := by rw [World.cell?_alloc_new]; rfl
      have y6 : (w3.alloc (.cells #[.int .u64 x0, .int .u64 x1, .int .u64 x2, .int .u64 x3, .int .u64 x4, .bool d5, .bool d6, .int .i64 x7] 64)).cell? ⟨w3.heap.size, 6, none⟩ = some (.bool d6) := by rw [World.cell?_alloc_new]; rfl
      have y7 : (w3.alloc (.cells #[.int .u64 x0, .int .u64 x1, .int .u64 x2, .int .u64 x3, .int .u64 x4, .bool d5, .bool d6, .int .i64 x7] 64)).cell? ⟨w3.heap.size, 7, none⟩ = some (.int .i64 x7) := by rw [World.cell?_alloc_new]; rfl
      have fy : (w3.alloc (.cells #[.int .u64 x0, .int .u64 x1, .int .u64 x2, .int .u64 x3, .int .u64 x4, .bool d5, .bool d6, .int .i64 x7] 64)).frozen? ⟨w3.heap.size, 7, none⟩ = false := by rw [frozen?_alloc_cells]; simp [World.frozen?]
      have hne1 : w.heap.size + 1 ≤ w3.heap.size := R3.out.size
      have hX5 : Hid (∀ h : 5 < pre.length, (w3.alloc (.cells #[.int .u64 x0, .int .u64 x1, .int .u64 x2, .int .u64 x3, .int .u64 x4, .bool d5, .bool d6, .int .i64 x7] 64)).cell? ⟨A, 5, none⟩ = some (.string (bs pre[5]))) := fun h => by
        rw [World.cell?_alloc_lt w3 _ ⟨A, 5, none⟩ hA3]
        exact hc3.out 5 h
      clear hc3 R3
      by_cases hl6 : pre.length = 6
      · have hres := Lib.hid (h6.out hl6)
        have hx5 := hX5.out (by omega)
        have ch := Lib.hid (fun W => parseAhead_any (bs (pre[5]'(by omega))) W (by rw [bs_size]; exact hsz.out _ (List.getElem_mem (by omega))))
        simp only [bs_toList] at ch
        generalize bs (pre[5]'(by omega)) = X5 at *
        generalize aheadN (pre[5]'(by omega)) = ar at *
        have d3 : decide (5 < (pre.length : Int)) = true := by simp; omega
        have n5 : (5 : Int) < (pre.length : Int) := by omega
        clear h5 h6 hX5 h56
        replace hl6 := Lib.hid hl6
        go_wp2_with fail
        refine (ch.out _).mono ?_
        rintro e w' ⟨rfl, rfl⟩
        obtain ⟨q0, q1, q2, q3, q4, q5, q6, q7, q8, q9, q10, q11, q12, q13, q14, q15⟩ := R4.out.facts
        generalize hw4 : w3.alloc (.cells #[.int .u64 x0, .int .u64 x1, .int .u64 x2, .int .u64 x3, .int .u64 x4, .bool d5, .bool d6, .int .i64 x7] 64) = w4 at *
        clear hw4
        generalize w3.heap.size = gx at *
        have ne1 : ¬ gx = w.heap.size := by omega
        have ne2 : ¬ w.heap.size = gx := by omega
        cases ar with
        | none =>
          have hres2 : Hid (res = none) := hres.out
          simp only [answerZ, Option.getD_none, Option.isSome_none]
          go_wp2_with fail
          refine bodyPost_ret (v := .tuple #[specV zero, .int .i64 7]) ?_ rfl ?_
          · rw [results_cell_tmp rfl]
            go_simp
            rfl
          · exact ⟨by rw [hres2.out]; rfl, below_eight (R4.out.below.setCell (by show w.heap.size ≤ gx; omega) _) _ _ _ _ _ _ _ _⟩
        | some n =>
          have hres2 : Hid (res = some ⟨x0, x1, x2, x3, x4, d5, d6, n⟩) := hres.out
          simp only [answerZ, Option.getD_some, Option.isSome_some]
          go_wp2_with fail
          refine bodyPost_ret (v := .tuple #[specV ⟨x0, x1, x2, x3, x4, d5, d6, n⟩, .int .i64 0]) ?_ rfl ?_
          · rw [results_cell_tmp rfl]
            go_simp
            rfl
          · exact ⟨by rw [hres2.out]; rfl, below_eight (R4.out.below.setCell (by show w.heap.size ≤ gx; omega) _) _ _ _ _ _ _ _ _⟩
      · have hres := Lib.hid (h5.out (by omega))
        have d3 : decide (5 < (pre.length : Int)) = false := by simp; omega
        clear h5 h6 hX5 h56
        replace hl6 := Lib.hid hl6
        obtain ⟨q0, q1, q2, q3, q4, q5, q6, q7, q8, q9, q10, q11, q12, q13, q14, q15⟩ := R4.out.facts
        have ne1 : ¬ w3.heap.size = w.heap.size := by omega
        have ne2 : ¬ w.heap.size = w3.heap.size := by omega
        go_wp2_with fail
        refine bodyPost_ret (v := .tuple #[specV ⟨x0, x1, x2, x3, x4, d5, d6, x7⟩, .int .i64 0]) ?_ rfl ?_
        · rw [results_cell_tmp rfl]
          go_simp
          rfl
        · exact ⟨by rw [hres.out]; rfl, below_eight R4.out.below _ _ _ _ _ _ _ _⟩
  · have hres := Lib.hid (hp1.out.trans (ofWords_other h56))
    obtain ⟨q0, q1, q2, q3, q4, q5, q6, q7, q8, q9, q10, q11, q12, q13, q14, q15⟩ := R2.out.facts
    by_cases h4 : pre.length < 5
    · have d1 : decide ((pre.length : Int) < 5) = true := by simp; omega
      clear h56 h4 ho tb2
      go_wp2_with fail
      refine bodyPost_ret (v := .tuple #[specV zero, .int .i64 7]) ?_ rfl ?_
      · rw [results_cell_tmp rfl]
        go_simp
        rfl
      · exact ⟨by rw [hres.out]; rfl, below_eight R2.out.below _ _ _ _ _ _ _ _⟩
    · have d1 : decide ((pre.length : Int) < 5) = false := by simp; omega
      have d2 : decide (6 < (pre.length : Int)) = true := by simp; omega
      clear h56 h4 ho tb2
      go_wp2_with fail
      refine bodyPost_ret (v := .tuple #[specV zero, .int .i64 7]) ?_ rfl ?_
      · rw [results_cell_tmp rfl]
        go_simp
        rfl
      · exact ⟨by rw [hres.out]; rfl, below_eight R2.out.below _ _ _ _ _ _ _ _⟩

theorem cParse_any (s : ByteArray) (w : World) (tb : Tab w) (hm : s.size ≤ 1000) :
    Calls Tryz.prog 77 #[.string s] w fun e w' => e = answerE (parse s.data.toList) ∧ Below w.heap.size w w' := by
  by_cases h : 256 < s.size
  · have e : parse s.data.toList = none := by
      unfold parse
      exact if_pos (by simpa using h)
    rw [e]
    exact cParse_long s w h hm
  · exact cParse_short s w tb h
end Go.Proofs.YtiidhcpflplpiaaGreatDoor
