/-
  Texts laid into one (a claim has 60 files at most): CParse, Any, Right, CRight.
-/
import Derived.Test.YtoihekgmomjhpaaGreatDoorKC5
import Derived.Test.YtoihekgmomjhpaaGreatDoorKC4
import Derived.Deep.RegionHeld3
import Derived.BigQuiet
import Derived.Test.YtoihekgmomjhpaaGreatDoorKC3
/-
  The program's Parse (layer 4).
-/
set_option linter.unusedVariables false
namespace Go.Proofs.YtoihekgmomjhpaaGreatDoor
open Go.RowKit Crn
/-- What the program's Parse answers. -/
def errOf (r : Option SpecN) : Int := if r.isSome then 0 else 7
def answerE (r : Option SpecN) : Ending := .returned (.tuple #[specV (r.getD zero), .int .i64 (errOf r)])
/-- The answer's block as it was laid. -/
structure Res (w wr : World) : Prop where
  r : wr.heap[w.heap.size]? = some (.cells #[.int .u64 0, .int .u64 0, .int .u64 0, .int .u64 0, .int .u64 0, .bool false, .bool false, .int .i64 0] 157)
  size : w.heap.size + 1 ≤ wr.heap.size
  below : Below w.heap.size w wr
theorem Res.start (w : World) : Res w (w.alloc (.cells #[.int .u64 0, .int .u64 0, .int .u64 0, .int .u64 0, .int .u64 0, .bool false, .bool false, .int .i64 0] 157)) :=
  ⟨Go.heap_alloc_new w _, by simp, (Below.refl _ _).alloc (Nat.le_refl _) _⟩
theorem Res.step {w wr w2 : World} (h : Res w wr) {B : Nat} (hB : w.heap.size + 1 ≤ B) (k : Below B wr w2) : Res w w2 :=
  ⟨(k.block _ (by omega)).trans h.r, Nat.le_trans h.size k.size, h.below.trans (k.mono (by omega))⟩
theorem Res.facts {w wr : World} (h : Res w wr) : wr.cell? ⟨w.heap.size, 0, none⟩ = some (.int .u64 0) ∧ wr.cell? ⟨w.heap.size, 1, none⟩ = some (.int .u64 0) ∧ wr.cell? ⟨w.heap.size, 2, none⟩ = some (.int .u64 0) ∧ wr.cell? ⟨w.heap.size, 3, none⟩ = some (.int .u64 0) ∧ wr.cell? ⟨w.heap.size, 4, none⟩ = some (.int .u64 0) ∧ wr.cell? ⟨w.heap.size, 5, none⟩ = some (.bool false) ∧ wr.cell? ⟨w.heap.size, 6, none⟩ = some (.bool false) ∧ wr.cell? ⟨w.heap.size, 7, none⟩ = some (.int .i64 0) ∧ wr.frozen? ⟨w.heap.size, 0, none⟩ = false ∧ wr.frozen? ⟨w.heap.size, 1, none⟩ = false ∧ wr.frozen? ⟨w.heap.size, 2, none⟩ = false ∧ wr.frozen? ⟨w.heap.size, 3, none⟩ = false ∧ wr.frozen? ⟨w.heap.size, 4, none⟩ = false ∧ wr.frozen? ⟨w.heap.size, 5, none⟩ = false ∧ wr.frozen? ⟨w.heap.size, 6, none⟩ = false ∧ wr.frozen? ⟨w.heap.size, 7, none⟩ = false :=
  ⟨cell_of_row wr w.heap.size 0 _ 157 (0, 0) h.r, cell_of_row wr w.heap.size 1 _ 157 (0, 0) h.r, cell_of_row wr w.heap.size 2 _ 157 (0, 0) h.r, cell_of_row wr w.heap.size 3 _ 157 (0, 0) h.r, cell_of_row wr w.heap.size 4 _ 157 (0, 0) h.r, cell_of_row wr w.heap.size 5 _ 157 (0, 0) h.r, cell_of_row wr w.heap.size 6 _ 157 (0, 0) h.r, cell_of_row wr w.heap.size 7 _ 157 (0, 0) h.r, frozen_of_row wr w.heap.size 0 _ 157 h.r, frozen_of_row wr w.heap.size 1 _ 157 h.r, frozen_of_row wr w.heap.size 2 _ 157 h.r, frozen_of_row wr w.heap.size 3 _ 157 h.r, frozen_of_row wr w.heap.size 4 _ 157 h.r, frozen_of_row wr w.heap.size 5 _ 157 h.r, frozen_of_row wr w.heap.size 6 _ 157 h.r, frozen_of_row wr w.heap.size 7 _ 157 h.r⟩
theorem five_ahead (t0 t1 t2 t3 t4 : Bytes) (n : Int) : five t0 t1 t2 t3 t4 n = (five t0 t1 t2 t3 t4 0).map fun x => { x with ahead := n } := by
  unfold five
  cases field 0 t0 <;> cases field 1 t1 <;> cases field 2 t2 <;> cases field 3 t3 <;> cases field 4 t4 <;> rfl
theorem ofWords_other {pre : List Bytes} (h : ¬ (pre.length = 5 ∨ pre.length = 6)) : ofWords pre = none := by
  match pre, h with
  | [], _ => exact rfl
  | [_], _ => exact rfl
  | [_, _], _ => exact rfl
  | [_, _, _], _ => exact rfl
  | [_, _, _, _], _ => exact rfl
  | [_, _, _, _, _], h => exact absurd (Or.inl rfl) h
  | [_, _, _, _, _, _], h => exact absurd (Or.inr rfl) h
  | _ :: _ :: _ :: _ :: _ :: _ :: _ :: _, _ => exact rfl
theorem words_count (s : Bytes) : (words s).length ≤ s.length + 1 := by
  rw [← words_tabs]
  refine Nat.le_trans (List.length_filter_le _ _) ?_
  have := split_count 32 (s.map (fun b => if b = 9 then 32 else b))
  simpa using this
theorem strs_of_map (l : List ByteArray) : l.map Value.string = strsOf (l.map (·.data.toList)) := by
  unfold strsOf
  rw [List.map_map]
  apply List.map_congr_left
  intro x _
  simp only [Function.comp]
  rw [bs_list]
set_option maxRecDepth 100000 in
set_option maxHeartbeats 400000 in
theorem cParse_long (s : ByteArray) (w : World) (hs : 256 < s.size) (hm : s.size ≤ 1000) :
    Calls Tryz.prog 89 #[.string s] w fun e w' => e = answerE none ∧ Below w.heap.size w w' := by
  go_enter Tryz.func89, Tryz.ntmps89
  go_wp2_with fail
  refine bodyPost_ret (v := .tuple #[specV zero, .int .i64 7]) ?_ rfl ?_
  · rw [results_cell_tmp rfl]
    go_simp
    rfl
  · exact ⟨rfl, (Below.refl _ _).alloc (Nat.le_refl _) _⟩
set_option maxRecDepth 100000 in
set_option maxHeartbeats 4000000 in
theorem cParse_short (s : ByteArray) (w : World) (tb : Tab w) (hs : ¬ 256 < s.size) :
    Calls Tryz.prog 89 #[.string s] w fun e w' => e = answerE (parse s.data.toList) ∧ Below w.heap.size w w' := by
  have hpar := Lib.hid (parse_words (s := s.data.toList) (by simpa using hs))
  generalize parse s.data.toList = res at *
  have cf := Tryz.strings_FieldsFunc 121 #[] (enters_of Tryz.func121 (by kernel_rfl) rfl) blankR s (w.alloc (.cells #[.int .u64 0, .int .u64 0, .int .u64 0, .int .u64 0, .int .u64 0, .bool false, .bool false, .int .i64 0] 157)) (by omega) (isBlank_gives _)
  have hfw := fields_words s
  have hsm := strs_of_map (Lib.goFieldsP blankR s)
  rw [hfw] at hsm
  have hlen : (Lib.goFieldsP blankR s).length = (words s.data.toList).length := by rw [← hfw, List.length_map]
  rw [hsm, hlen] at cf
  clear hsm hlen hfw
  have hR0 := Lib.hid (Res.start w)
  have hp1 := Lib.hid (hpar.out _ rfl)
  clear hpar
  have hcnt : (words s.data.toList).length ≤ 257 := by
    have := words_count s.data.toList
    simp at this
    omega
  have hsz : Hid (∀ q ∈ words s.data.toList, q.length ≤ 1000) := fun q hq => by
    have := words_len hq
    simp at this
    omega
  generalize words s.data.toList = pre at *
  replace cf := Lib.hid cf
  have el : decide (256 < (s.size : Int)) = false := by simp; omega
  have tb1 := Lib.hid (tb.alloc (.cells #[.int .u64 0, .int .u64 0, .int .u64 0, .int .u64 0, .int .u64 0, .bool false, .bool false, .int .i64 0] 157))
  clear tb
  go_enter Tryz.func89, Tryz.ntmps89
  go_wp2_with fail
  refine cf.out.mono ?_
  rintro e w2 ⟨A, rfl, hA, ho, k2⟩
  have R2 := Lib.hid (hR0.out.step (by simp) k2)
  have tb2 := Lib.hid (tb1.out.below k2)
  replace ho := Lib.hid ho
  clear hR0 tb1 k2 cf hA el
  by_cases h56 : pre.length = 5 ∨ pre.length = 6
  · have hne : pre ≠ [] := by rintro rfl; simp at h56
    obtain ⟨g8, cap8, e8, hc8⟩ := own_strs hne ho.out
    obtain ⟨rfl, rfl⟩ : A = g8 ∧ pre.length = cap8 := by
      injection e8 with a1 a2 a3
      injection a1 with a1
      injection a1 with a1
      exact ⟨a1, a3⟩
    clear e8 ho hne
    have x0 := hc8 0 (by omega)
    have x1 := hc8 1 (by omega)
    have x2 := hc8 2 (by omega)
    have x3 := hc8 3 (by omega)
    have x4 := hc8 4 (by omega)
    have hA := World.block_lt_of_cell? w2 _ x0
    have cp := Lib.hid (parseFields_any A pre.length pre[0] pre[1] pre[2] pre[3] pre[4] w2 tb2.out (hsz.out _ (List.getElem_mem (by omega))) (hsz.out _ (List.getElem_mem (by omega))) (hsz.out _ (List.getElem_mem (by omega))) (hsz.out _ (List.getElem_mem (by omega))) (hsz.out _ (List.getElem_mem (by omega))) x0 x1 x2 x3 x4)
    have hc8' := Lib.hid hc8
    obtain ⟨fr, hfr⟩ : ∃ fr, five pre[0] pre[1] pre[2] pre[3] pre[4] 0 = fr := ⟨_, rfl⟩
    have h5 : Hid (pre.length = 5 → res = fr) := fun h => (hp1.out.trans (ofWords_five h)).trans hfr
    have h6 : Hid (∀ h : pre.length = 6, res = (aheadN pre[5]).bind fun n => fr.map fun x => { x with ahead := n }) := fun h => by
      rw [hp1.out, ofWords_six h, ← hfr]
      congr 1
      funext n
      exact five_ahead _ _ _ _ _ n
    rw [hfr] at cp
    clear hfr
    have hlo : 5 ≤ pre.length := by omega
    have hhi : pre.length ≤ 6 := by omega
    clear hc8 x0 x1 x2 x3 x4 hp1 tb2
    have d1 : decide ((pre.length : Int) < 5) = false := by simp; omega
    have d2 : decide (6 < (pre.length : Int)) = false := by simp; omega
    replace h56 := Lib.hid h56
    go_wp2_with fail
    refine cp.out.mono ?_
    rintro e w3 ⟨rfl, k3⟩
    have R3 := Lib.hid (R2.out.step R2.out.size k3)
    have hA3 : A < w3.heap.size := Nat.lt_of_lt_of_le hA k3.size
    have hc3 : Hid (∀ i (h : i < pre.length), w3.cell? ⟨A, i, none⟩ = some (.string (bs pre[i]))) := fun i h => (k3.cell (p := ⟨A, i, none⟩) hA).trans (hc8'.out i h)
    clear k3 R2 cp hc8' hA
    cases fr with
    | none =>
      have hres : Hid (res = none) := by
        rcases h56.out with h | h
        · exact h5.out h
        · have e := h6.out h
          rw [e]
          cases aheadN (pre[5]'(by omega)) <;> exact rfl
      clear h5 h6 h56
      simp only [answerP, Option.getD_none, Option.isSome_none, specV, cellsN, zero]
      have R4 := Lib.hid (R3.out.step R3.out.size ((Below.refl w3.heap.size w3).alloc (Nat.le_refl _) (.cells #[.int .u64 0, .int .u64 0, .int .u64 0, .int .u64 0, .int .u64 0, .bool false, .bool false, .int .i64 0] 157)))
      obtain ⟨q0, q1, q2, q3, q4, q5, q6, q7, q8, q9, q10, q11, q12, q13, q14, q15⟩ := R4.out.facts
      go_wp2_with fail
      refine bodyPost_ret (v := .tuple #[specV zero, .int .i64 7]) ?_ rfl ?_
      · rw [results_cell_tmp rfl]
        go_simp
        rfl
      · exact ⟨by rw [hres.out]; rfl, below_eight R4.out.below _ _ _ _ _ _ _ _⟩
    | some x =>
      obtain ⟨x0, x1, x2, x3, x4, d5, d6, x7⟩ := x
      simp only [answerP, Option.getD_some, Option.isSome_some, specV, cellsN]
      have R4 := Lib.hid (R3.out.step R3.out.size ((Below.refl w3.heap.size w3).alloc (Nat.le_refl _) (.cells #[.int .u64 x0, .int .u64 x1, .int .u64 x2, .int .u64 x3, .int .u64 x4, .bool d5, .bool d6, .int .i64 x7] 157)))
      have y0 : (w3.alloc (.cells #[.int .u64 x0, .int .u64 x1, .int .u64 x2, .int .u64 x3, .int .u64 x4, .bool d5, .bool d6, .int .i64 x7] 157)).cell? ⟨w3.heap.size, 0, none⟩ = some (.int .u64 x0) := by rw [World.cell?_alloc_new]; rfl
      have y1 : (w3.alloc (.cells #[.int .u64 x0, .int .u64 x1, .int .u64 x2, .int .u64 x3, .int .u64 x4, .bool d5, .bool d6, .int .i64 x7] 157)).cell? ⟨w3.heap.size, 1, none⟩ = some (.int .u64 x1) := by rw [World.cell?_alloc_new]; rfl
      have y2 : (w3.alloc (.cells #[.int .u64 x0, .int .u64 x1, .int .u64 x2, .int .u64 x3, .int .u64 x4, .bool d5, .bool d6, .int .i64 x7] 157)).cell? ⟨w3.heap.size, 2, none⟩ = some (.int .u64 x2) := by rw [World.cell?_alloc_new]; rfl
      have y3 : (w3.alloc (.cells #[.int .u64 x0, .int .u64 x1, .int .u64 x2, .int .u64 x3, .int .u64 x4, .bool d5, .bool d6, .int .i64 x7] 157)).cell? ⟨w3.heap.size, 3, none⟩ = some (.int .u64 x3) := by rw [World.cell?_alloc_new]; rfl
      have y4 : (w3.alloc (.cells #[.int .u64 x0, .int .u64 x1, .int .u64 x2, .int .u64 x3, .int .u64 x4, .bool d5, .bool d6, .int .i64 x7] 157)).cell? ⟨w3.heap.size, 4, none⟩ = some (.int .u64 x4) := by rw [World.cell?_alloc_new]; rfl
      have y5 : (w3.alloc (.cells #[.int .u64 x0, .int .u64 x1, .int .u64 x2, .int .u64 x3, .int .u64 x4, .bool d5, .bool d6, .int .i64 x7] 157)).cell? ⟨w3.heap.size, 5, none⟩ = some (.bool d5) := by rw [World.cell?_alloc_new]; rfl
      have y6 : (w3.alloc (.cells #[.int .u64 x0, .int .u64 x1, .int .u64 x2, .int .u64 x3, .int .u64 x4, .bool d5, .bool d6, .int .i64 x7] 157)).cell? ⟨w3.heap.size, 6, none⟩ = some (.bool d6) := by rw [World.cell?_alloc_new]; rfl
      have y7 : (w3.alloc (.cells #[.int .u64 x0, .int .u64 x1, .int .u64 x2, .int .u64 x3, .int .u64 x4, .bool d5, .bool d6, .int .i64 x7] 157)).cell? ⟨w3.heap.size, 7, none⟩ = some (.int .i64 x7) := by rw [World.cell?_alloc_new]; rfl
      have fy : (w3.alloc (.cells #[.int .u64 x0, .int .u64 x1, .int .u64 x2, .int .u64 x3, .int .u64 x4, .bool d5, .bool d6, .int .i64 x7] 157)).frozen? ⟨w3.heap.size, 7, none⟩ = false := by rw [frozen?_alloc_cells]; simp [World.frozen?]
      have hne1 : w.heap.size + 1 ≤ w3.heap.size := R3.out.size
      have hX5 : Hid (∀ h : 5 < pre.length, (w3.alloc (.cells #[.int .u64 x0, .int .u64 x1, .int .u64 x2, .int .u64 x3, .int .u64 x4, .bool d5, .bool d6, .int .i64 x7] 157)).cell? ⟨A, 5, none⟩ = some (.string (bs pre[5]))) := fun h => by
        rw [World.cell?_alloc_lt w3 _ ⟨A, 5, none⟩ hA3]
        exact hc3.out 5 h
      clear hc3 R3
      by_cases hl6 : pre.length = 6
      · have hres := Lib.hid (h6.out hl6)
        have hx5 := hX5.out (by omega)
        have ch := Lib.hid (fun W => parseAhead_any (bs (pre[5]'(by omega))) W (by rw [bs_size]; exact hsz.out _ (List.getElem_mem (by omega))))
        simp only [bs_toList] at ch
        generalize bs (pre[5]'(by omega)) = X5 at *
        generalize aheadN (pre[5]'(by omega)) = ar at *
        have d3 : decide (5 < (pre.length : Int)) = true := by simp; omega
        have n5 : (5 : Int) < (pre.length : Int) := by omega
        clear h5 h6 hX5 h56
        replace hl6 := Lib.hid hl6
        go_wp2_with fail
        refine (ch.out _).mono ?_
        rintro e w' ⟨rfl, rfl⟩
        obtain ⟨q0, q1, q2, q3, q4, q5, q6, q7, q8, q9, q10, q11, q12, q13, q14, q15⟩ := R4.out.facts
        generalize hw4 : w3.alloc (.cells #[.int .u64 x0, .int .u64 x1, .int .u64 x2, .int .u64 x3, .int .u64 x4, .bool d5, .bool d6, .int .i64 x7] 157) = w4 at *
        clear hw4
        generalize w3.heap.size = gx at *
        have ne1 : ¬ gx = w.heap.size := by omega
        have ne2 : ¬ w.heap.size = gx := by omega
        cases ar with
        | none =>
          have hres2 : Hid (res = none) := hres.out
          simp only [answerZ, Option.getD_none, Option.isSome_none]
          go_wp2_with fail
          refine bodyPost_ret (v := .tuple #[specV zero, .int .i64 7]) ?_ rfl ?_
          · rw [results_cell_tmp rfl]
            go_simp
            rfl
          · exact ⟨by rw [hres2.out]; rfl, below_eight (R4.out.below.setCell (by show w.heap.size ≤ gx; omega) _) _ _ _ _ _ _ _ _⟩
        | some n =>
          have hres2 : Hid (res = some ⟨x0, x1, x2, x3, x4, d5, d6, n⟩) := hres.out
          simp only [answerZ, Option.getD_some, Option.isSome_some]
          go_wp2_with fail
          refine bodyPost_ret (v := .tuple #[specV ⟨x0, x1, x2, x3, x4, d5, d6, n⟩, .int .i64 0]) ?_ rfl ?_
          · rw [results_cell_tmp rfl]
            go_simp
            rfl
          · exact ⟨by rw [hres2.out]; rfl, below_eight (R4.out.below.setCell (by show w.heap.size ≤ gx; omega) _) _ _ _ _ _ _ _ _⟩
      · have hres := Lib.hid (h5.out (by omega))
        have d3 : decide (5 < (pre.length : Int)) = false := by simp; omega
        clear h5 h6 hX5 h56
        replace hl6 := Lib.hid hl6
        obtain ⟨q0, q1, q2, q3, q4, q5, q6, q7, q8, q9, q10, q11, q12, q13, q14, q15⟩ := R4.out.facts
        have ne1 : ¬ w3.heap.size = w.heap.size := by omega
        have ne2 : ¬ w.heap.size = w3.heap.size := by omega
        go_wp2_with fail
        refine bodyPost_ret (v := .tuple #[specV ⟨x0, x1, x2, x3, x4, d5, d6, x7⟩, .int .i64 0]) ?_ rfl ?_
        · rw [results_cell_tmp rfl]
          go_simp
          rfl
        · exact ⟨by rw [hres.out]; rfl, below_eight R4.out.below _ _ _ _ _ _ _ _⟩
  · have hres := Lib.hid (hp1.out.trans (ofWords_other h56))
    obtain ⟨q0, q1, q2, q3, q4, q5, q6, q7, q8, q9, q10, q11, q12, q13, q14, q15⟩ := R2.out.facts
    by_cases h4 : pre.length < 5
    · have d1 : decide ((pre.length : Int) < 5) = true := by simp; omega
      clear h56 h4 ho tb2
      go_wp2_with fail
      refine bodyPost_ret (v := .tuple #[specV zero, .int .i64 7]) ?_ rfl ?_
      · rw [results_cell_tmp rfl]
        go_simp
        rfl
      · exact ⟨by rw [hres.out]; rfl, below_eight R2.out.below _ _ _ _ _ _ _ _⟩
    · have d1 : decide ((pre.length : Int) < 5) = false := by simp; omega
      have d2 : decide (6 < (pre.length : Int)) = true := by simp; omega
      clear h56 h4 ho tb2
      go_wp2_with fail
      refine bodyPost_ret (v := .tuple #[specV zero, .int .i64 7]) ?_ rfl ?_
      · rw [results_cell_tmp rfl]
        go_simp
        rfl
      · exact ⟨by rw [hres.out]; rfl, below_eight R2.out.below _ _ _ _ _ _ _ _⟩
theorem cParse_any (s : ByteArray) (w : World) (tb : Tab w) (hm : s.size ≤ 1000) :
    Calls Tryz.prog 89 #[.string s] w fun e w' => e = answerE (parse s.data.toList) ∧ Below w.heap.size w w' := by
  by_cases h : 256 < s.size
  · have e : parse s.data.toList = none := by
      unfold parse
      exact if_pos (by simpa using h)
    rw [e]
    exact cParse_long s w h hm
  · exact cParse_short s w tb h
end Go.Proofs.YtoihekgmomjhpaaGreatDoor

/-
  The document's any and sets (layer 4).
-/
namespace Go.Proofs.YtoihekgmomjhpaaGreatDoor
open Go.RowKit Crn
theorem every_lt' (f st : Nat) (hf : f < 5) (h1 : 1 ≤ st) : every f st < 18446744073709551616 := by
  have hs := (okSet_iff.1 (bits_ok (f := f) (a := low f) (b := top f) (step := st) hf (Nat.le_refl _) (top_le f hf).2 (top_le f hf).1)).2
  have e1 : every f st ≤ every f 1 := by
    have h := hs
    unfold Crn.Sub at h
    unfold every at *
    rw [← h]
    exact Nat.and_le_right
  have h2 := every_lt f hf
  have h3 : (2 : Nat) ^ 64 = 18446744073709551616 := by decide
  have := h1
  omega
end Go.Proofs.YtoihekgmomjhpaaGreatDoor

/-
  The document's Right (layer 4).
-/
namespace Go.Proofs.YtoihekgmomjhpaaGreatDoor
open Go.RowKit Crn
def setAt (x : SpecN) : Nat → Nat
  | 0 => x.min
  | 1 => x.hour
  | 2 => x.dom
  | 3 => x.mon
  | _ => x.dow
/-- The sets from the field k on are right. -/
def okFrom (x : SpecN) : Nat → Nat → Bool
  | 0, _ => true
  | n + 1, k => okSet k (setAt x k) && okFrom x n (k + 1)
/-- The sets from the field k on, by a function. -/
def okBy (g : Nat → Nat) : Nat → Nat → Bool
  | 0, _ => true
  | n + 1, k => okSet k (g k) && okBy g n (k + 1)
theorem okFrom_by (x : SpecN) (n k : Nat) : okFrom x n k = okBy (setAt x) n k := by
  induction n generalizing k with
  | zero => rfl
  | succ n ih => simp only [okFrom, okBy, ih]
theorem right_from (x : SpecN) : right x = (okFrom x 5 0 && decide (-899 ≤ x.ahead ∧ x.ahead ≤ 899)) := by
  simp only [right, okFrom, setAt, Bool.and_assoc, Bool.and_true]
theorem andNot_okSet (f set : Nat) (hf : f < 5) (hs : set < 18446744073709551616) (h0 : set ≠ 0) :
    (bits .andNot .u64 (set : Int) ((every f 1 : Nat) : Int) != 0) = !okSet f set := by
  have he := every_lt' f 1 hf (by omega)
  rw [u64_andNot_nat set (every f 1) hs he]
  have key : set &&& (18446744073709551615 - every f 1) = 0 ↔ set &&& every f 1 = set := by
    have hb : ∀ i, (18446744073709551615 - every f 1).testBit i = (decide (i < 64) && !(every f 1).testBit i) := fun i => by
      have e : 18446744073709551615 - every f 1 = 2 ^ 64 - (every f 1 + 1) := by omega
      rw [e, Nat.testBit_two_pow_sub_succ (by omega)]
    constructor
    · intro h
      apply Nat.eq_of_testBit_eq
      intro i
      have := congrArg (fun x => x.testBit i) h
      simp only [Nat.testBit_and, hb, Nat.zero_testBit] at this
      rw [Nat.testBit_and]
      cases h1 : set.testBit i
      · rfl
      · have hi : i < 64 := by
          rcases Nat.lt_or_ge i 64 with h | h
          · exact h
          · rw [Nat.testBit_lt_two_pow (Nat.lt_of_lt_of_le hs (Nat.pow_le_pow_right (n := 2) (by omega) h))] at h1
            cases h1
        rw [h1] at this
        simpa [hi] using this
    · intro h
      apply Nat.eq_of_testBit_eq
      intro i
      rw [Nat.testBit_and, hb, Nat.zero_testBit]
      have := congrArg (fun x => x.testBit i) h
      simp only [Nat.testBit_and] at this
      cases h1 : set.testBit i
      · rfl
      · rw [h1] at this
        simp only [Bool.true_and] at this
        rw [this]
        simp
  unfold okSet
  rw [Bool.eq_iff_iff]
  simp only [bne_iff_ne, ne_eq, Bool.not_eq_true', Bool.and_eq_false_iff, bne_eq_false_iff_eq, beq_eq_false_iff_ne, h0, false_or]
  rw [← key]
  omega
end Go.Proofs.YtoihekgmomjhpaaGreatDoor

/-
  The program's Right (layer 4).
-/
set_option linter.unusedVariables false
namespace Go.Proofs.YtoihekgmomjhpaaGreatDoor
open Go.RowKit Crn
theorem every_one : ∀ f, f < 5 → bitsN 0 (low f) (top f) 1 = every f 1 := by decide +kernel
theorem index_sets0 (x0 x1 x2 x3 x4 : Nat) (W : World) : (Instr.index 188 (.agg #[.int .u64 x0, .int .u64 x1, .int .u64 x2, .int .u64 x3, .int .u64 x4]) (.int .i64 0)).run Tryz.prog W = .ok (.int .u64 x0) W := by
  kernel_rfl
theorem index_sets1 (x0 x1 x2 x3 x4 : Nat) (W : World) : (Instr.index 188 (.agg #[.int .u64 x0, .int .u64 x1, .int .u64 x2, .int .u64 x3, .int .u64 x4]) (.int .i64 1)).run Tryz.prog W = .ok (.int .u64 x1) W := by
  kernel_rfl
theorem index_sets2 (x0 x1 x2 x3 x4 : Nat) (W : World) : (Instr.index 188 (.agg #[.int .u64 x0, .int .u64 x1, .int .u64 x2, .int .u64 x3, .int .u64 x4]) (.int .i64 2)).run Tryz.prog W = .ok (.int .u64 x2) W := by
  kernel_rfl
theorem index_sets3 (x0 x1 x2 x3 x4 : Nat) (W : World) : (Instr.index 188 (.agg #[.int .u64 x0, .int .u64 x1, .int .u64 x2, .int .u64 x3, .int .u64 x4]) (.int .i64 3)).run Tryz.prog W = .ok (.int .u64 x3) W := by
  kernel_rfl
theorem index_sets4 (x0 x1 x2 x3 x4 : Nat) (W : World) : (Instr.index 188 (.agg #[.int .u64 x0, .int .u64 x1, .int .u64 x2, .int .u64 x3, .int .u64 x4]) (.int .i64 4)).run Tryz.prog W = .ok (.int .u64 x4) W := by
  kernel_rfl
set_option maxRecDepth 100000 in
set_option maxHeartbeats 1000000 in
theorem cRight_any (x : SpecN) (hx : Fits x) (w : World) (tb : Tab w) :
    Calls Tryz.prog 124 #[specV x] w fun e w' => e = .returned (.bool (right x)) ∧ Below w.heap.size w w' := by
  have hr := Lib.hid (right_from x)
  have hso := Lib.hid (fun f hf hs h0 => andNot_okSet f (setAt x f) hf hs h0)
  have l0 := hx.min
  have l1 := hx.hour
  have l2 := hx.dom
  have l3 := hx.mon
  have l4 := hx.dow
  have ha := hx.a1
  have hb := hx.a2
  generalize right x = res at *
  rw [okFrom_by] at hr
  obtain ⟨x0, x1, x2, x3, x4, x5, x6, x7⟩ := x
  simp only [specV, cellsN] at *
  have ce0 : Hid (∀ W, Calls Tryz.prog 162 #[.agg #[.int .i64 0, .int .i64 59], .int .i64 1] W fun e w' => e = .returned (.int .u64 (every 0 1 : Nat)) ∧ Below W.heap.size W w') := fun W => by
    have := every_any (low 0) (top 0) 1 W (by decide) (by decide) (by omega) (by omega)
    rw [every_one 0 (by omega)] at this
    exact this
  have ea0 : Hid (x0 ≠ 0 → (bits .andNot .u64 (x0 : Int) ((every 0 1 : Nat) : Int) != 0) = !okSet 0 x0) := fun h => hso.out 0 (by omega) l0 h
  have oz0 : Hid (x0 = 0 → okSet 0 x0 = false) := fun h => by
    unfold okSet
    rw [h]
    exact rfl
  have st0 : Hid (okBy (setAt ⟨x0, x1, x2, x3, x4, x5, x6, x7⟩) 5 0 = (okSet 0 x0 && okBy (setAt ⟨x0, x1, x2, x3, x4, x5, x6, x7⟩) 4 1)) := rfl
  generalize okSet 0 x0 = ok0 at *
  generalize every 0 1 = E0 at *
  have ce1 : Hid (∀ W, Calls Tryz.prog 162 #[.agg #[.int .i64 0, .int .i64 23], .int .i64 1] W fun e w' => e = .returned (.int .u64 (every 1 1 : Nat)) ∧ Below W.heap.size W w') := fun W => by
    have := every_any (low 1) (top 1) 1 W (by decide) (by decide) (by omega) (by omega)
    rw [every_one 1 (by omega)] at this
    exact this
  have ea1 : Hid (x1 ≠ 0 → (bits .andNot .u64 (x1 : Int) ((every 1 1 : Nat) : Int) != 0) = !okSet 1 x1) := fun h => hso.out 1 (by omega) l1 h
  have oz1 : Hid (x1 = 0 → okSet 1 x1 = false) := fun h => by
    unfold okSet
    rw [h]
    exact rfl
  have st1 : Hid (okBy (setAt ⟨x0, x1, x2, x3, x4, x5, x6, x7⟩) 4 1 = (okSet 1 x1 && okBy (setAt ⟨x0, x1, x2, x3, x4, x5, x6, x7⟩) 3 2)) := rfl
  generalize okSet 1 x1 = ok1 at *
  generalize every 1 1 = E1 at *
  have ce2 : Hid (∀ W, Calls Tryz.prog 162 #[.agg #[.int .i64 1, .int .i64 31], .int .i64 1] W fun e w' => e = .returned (.int .u64 (every 2 1 : Nat)) ∧ Below W.heap.size W w') := fun W => by
    have := every_any (low 2) (top 2) 1 W (by decide) (by decide) (by omega) (by omega)
    rw [every_one 2 (by omega)] at this
    exact this
  have ea2 : Hid (x2 ≠ 0 → (bits .andNot .u64 (x2 : Int) ((every 2 1 : Nat) : Int) != 0) = !okSet 2 x2) := fun h => hso.out 2 (by omega) l2 h
  have oz2 : Hid (x2 = 0 → okSet 2 x2 = false) := fun h => by
    unfold okSet
    rw [h]
    exact rfl
  have st2 : Hid (okBy (setAt ⟨x0, x1, x2, x3, x4, x5, x6, x7⟩) 3 2 = (okSet 2 x2 && okBy (setAt ⟨x0, x1, x2, x3, x4, x5, x6, x7⟩) 2 3)) := rfl
  generalize okSet 2 x2 = ok2 at *
  generalize every 2 1 = E2 at *
  have ce3 : Hid (∀ W, Calls Tryz.prog 162 #[.agg #[.int .i64 1, .int .i64 12], .int .i64 1] W fun e w' => e = .returned (.int .u64 (every 3 1 : Nat)) ∧ Below W.heap.size W w') := fun W => by
    have := every_any (low 3) (top 3) 1 W (by decide) (by decide) (by omega) (by omega)
    rw [every_one 3 (by omega)] at this
    exact this
  have ea3 : Hid (x3 ≠ 0 → (bits .andNot .u64 (x3 : Int) ((every 3 1 : Nat) : Int) != 0) = !okSet 3 x3) := fun h => hso.out 3 (by omega) l3 h
  have oz3 : Hid (x3 = 0 → okSet 3 x3 = false) := fun h => by
    unfold okSet
    rw [h]
    exact rfl
  have st3 : Hid (okBy (setAt ⟨x0, x1, x2, x3, x4, x5, x6, x7⟩) 2 3 = (okSet 3 x3 && okBy (setAt ⟨x0, x1, x2, x3, x4, x5, x6, x7⟩) 1 4)) := rfl
  generalize okSet 3 x3 = ok3 at *
  generalize every 3 1 = E3 at *
  have ce4 : Hid (∀ W, Calls Tryz.prog 162 #[.agg #[.int .i64 0, .int .i64 6], .int .i64 1] W fun e w' => e = .returned (.int .u64 (every 4 1 : Nat)) ∧ Below W.heap.size W w') := fun W => by
    have := every_any (low 4) (top 4) 1 W (by decide) (by decide) (by omega) (by omega)
    rw [every_one 4 (by omega)] at this
    exact this
  have ea4 : Hid (x4 ≠ 0 → (bits .andNot .u64 (x4 : Int) ((every 4 1 : Nat) : Int) != 0) = !okSet 4 x4) := fun h => hso.out 4 (by omega) l4 h
  have oz4 : Hid (x4 = 0 → okSet 4 x4 = false) := fun h => by
    unfold okSet
    rw [h]
    exact rfl
  have st4 : Hid (okBy (setAt ⟨x0, x1, x2, x3, x4, x5, x6, x7⟩) 1 4 = (okSet 4 x4 && okBy (setAt ⟨x0, x1, x2, x3, x4, x5, x6, x7⟩) 0 5)) := rfl
  generalize okSet 4 x4 = ok4 at *
  generalize every 4 1 = E4 at *
  have st5 : Hid (okBy (setAt ⟨x0, x1, x2, x3, x4, x5, x6, x7⟩) 0 5 = true) := rfl
  clear hso
  generalize setAt ⟨x0, x1, x2, x3, x4, x5, x6, x7⟩ = g at *
  have b1 := Lib.hid ((Below.refl w.heap.size w).alloc (Nat.le_refl _) (.cells #[.int .u64 x0, .int .u64 x1, .int .u64 x2, .int .u64 x3, .int .u64 x4, .bool x5, .bool x6, .int .i64 x7] 157))
  have hbx : Hid ((w.alloc (.cells #[.int .u64 x0, .int .u64 x1, .int .u64 x2, .int .u64 x3, .int .u64 x4, .bool x5, .bool x6, .int .i64 x7] 157)).cell? ⟨w.heap.size, 7, none⟩ = some (.int .i64 x7)) := by rw [World.cell?_alloc_new]; rfl
  have tb1 := Lib.hid (tb.alloc (.cells #[.int .u64 x0, .int .u64 x1, .int .u64 x2, .int .u64 x3, .int .u64 x4, .bool x5, .bool x6, .int .i64 x7] 157))
  clear tb
  go_enter Tryz.func124, Tryz.ntmps124
  go_wp2_with fail
  go_loopw [16] (fun i wr => ∃ k : Nat, k ≤ 5 ∧ i = .int .i64 k ∧ Hid (okBy g (5 - k) k = okBy g 5 0) ∧ Hid (wr.cell? ⟨w.heap.size, 7, none⟩ = some (.int .i64 x7)) ∧ Hid (Tab wr) ∧ Hid (Below w.heap.size w wr)) (fun i _ => 5 - (intOf i).toNat)
  case atStart => exact ⟨0, by omega, rfl, rfl, hbx, tb1, b1⟩
  case round =>
    obtain ⟨k, hk, rfl, hok, hx7, htb, hbw⟩ := hrel
    clear b1 hbx tb1
    have hxl := World.block_lt_of_cell? wr _ hx7.out
    have : k = 0 ∨ k = 1 ∨ k = 2 ∨ k = 3 ∨ k = 4 ∨ k = 5 := by omega
    clear hk
    rcases this with rfl | rfl | rfl | rfl | rfl | rfl
    · have hix := index_sets0 x0 x1 x2 x3 x4 wr
      have ca : wr.cell? ⟨1, 0, none⟩ = some (.int .i64 0) := (htb.out.spans 0 (by omega)).1
      have cb : wr.cell? ⟨1, 1, none⟩ = some (.int .i64 59) := (htb.out.spans 0 (by omega)).2
      by_cases hv0 : x0 = 0
      · have e0 : ((x0 : Int) == 0) = true := by simp; omega
        have hres : Hid (res = false) := by
          rw [hr.out, st0.out, oz0.out hv0]
          exact rfl
        clear hv0
        go_wp2_with fail
        go_ret
        exact ⟨by rw [hres.out]; rfl, hbw.out⟩
      · have e0 : ((x0 : Int) == 0) = false := by simp; omega
        have ea := ea0.out hv0
        clear hv0
        go_wp2_with fail
        refine (ce0.out _).mono ?_
        rintro e w6 ⟨rfl, k6⟩
        have b6 := Lib.hid (hbw.out.trans (k6.mono hbw.out.size))
        have hx8 : Hid (w6.cell? ⟨w.heap.size, 7, none⟩ = some (.int .i64 x7)) := (k6.cell (p := ⟨w.heap.size, 7, none⟩) hxl).trans hx7.out
        have tb6 := Lib.hid (htb.out.below k6)
        clear k6 ca cb hix
        cases ok0
        · have hres : Hid (res = false) := by
            rw [hr.out, st0.out]
            exact rfl
          simp only [Bool.not_false] at ea
          go_wp2_with fail
          go_ret
          exact ⟨by rw [hres.out]; rfl, b6.out⟩
        · have hnext : Hid (okBy g (5 - 1) 1 = okBy g 5 0) := by
            rw [st0.out]
            exact rfl
          simp only [Bool.not_true] at ea
          go_wp2_with fail
          exact ⟨⟨1, by omega, by go_num, hnext, hx8, tb6, b6⟩, by simp [intOf]⟩
    · have hix := index_sets1 x0 x1 x2 x3 x4 wr
      have ca : wr.cell? ⟨1, 2, none⟩ = some (.int .i64 0) := (htb.out.spans 1 (by omega)).1
      have cb : wr.cell? ⟨1, 3, none⟩ = some (.int .i64 23) := (htb.out.spans 1 (by omega)).2
      by_cases hv0 : x1 = 0
      · have e0 : ((x1 : Int) == 0) = true := by simp; omega
        have hres : Hid (res = false) := by
          rw [hr.out, ← hok.out, st1.out, oz1.out hv0]
          exact rfl
        clear hv0
        go_wp2_with fail
        go_ret
        exact ⟨by rw [hres.out]; rfl, hbw.out⟩
      · have e0 : ((x1 : Int) == 0) = false := by simp; omega
        have ea := ea1.out hv0
        clear hv0
        go_wp2_with fail
        refine (ce1.out _).mono ?_
        rintro e w6 ⟨rfl, k6⟩
        have b6 := Lib.hid (hbw.out.trans (k6.mono hbw.out.size))
        have hx8 : Hid (w6.cell? ⟨w.heap.size, 7, none⟩ = some (.int .i64 x7)) := (k6.cell (p := ⟨w.heap.size, 7, none⟩) hxl).trans hx7.out
        have tb6 := Lib.hid (htb.out.below k6)
        clear k6 ca cb hix
        cases ok1
        · have hres : Hid (res = false) := by
            rw [hr.out, ← hok.out, st1.out]
            exact rfl
          simp only [Bool.not_false] at ea
          go_wp2_with fail
          go_ret
          exact ⟨by rw [hres.out]; rfl, b6.out⟩
        · have hnext : Hid (okBy g (5 - 2) 2 = okBy g 5 0) := by
            rw [← hok.out, st1.out]
            exact rfl
          simp only [Bool.not_true] at ea
          go_wp2_with fail
          exact ⟨⟨2, by omega, by go_num, hnext, hx8, tb6, b6⟩, by simp [intOf]⟩
    · have hix := index_sets2 x0 x1 x2 x3 x4 wr
      have ca : wr.cell? ⟨1, 4, none⟩ = some (.int .i64 1) := (htb.out.spans 2 (by omega)).1
      have cb : wr.cell? ⟨1, 5, none⟩ = some (.int .i64 31) := (htb.out.spans 2 (by omega)).2
      by_cases hv0 : x2 = 0
      · have e0 : ((x2 : Int) == 0) = true := by simp; omega
        have hres : Hid (res = false) := by
          rw [hr.out, ← hok.out, st2.out, oz2.out hv0]
          exact rfl
        clear hv0
        go_wp2_with fail
        go_ret
        exact ⟨by rw [hres.out]; rfl, hbw.out⟩
      · have e0 : ((x2 : Int) == 0) = false := by simp; omega
        have ea := ea2.out hv0
        clear hv0
        go_wp2_with fail
        refine (ce2.out _).mono ?_
        rintro e w6 ⟨rfl, k6⟩
        have b6 := Lib.hid (hbw.out.trans (k6.mono hbw.out.size))
        have hx8 : Hid (w6.cell? ⟨w.heap.size, 7, none⟩ = some (.int .i64 x7)) := (k6.cell (p := ⟨w.heap.size, 7, none⟩) hxl).trans hx7.out
        have tb6 := Lib.hid (htb.out.below k6)
        clear k6 ca cb hix
        cases ok2
        · have hres : Hid (res = false) := by
            rw [hr.out, ← hok.out, st2.out]
            exact rfl
          simp only [Bool.not_false] at ea
          go_wp2_with fail
          go_ret
          exact ⟨by rw [hres.out]; rfl, b6.out⟩
        · have hnext : Hid (okBy g (5 - 3) 3 = okBy g 5 0) := by
            rw [← hok.out, st2.out]
            exact rfl
          simp only [Bool.not_true] at ea
          go_wp2_with fail
          exact ⟨⟨3, by omega, by go_num, hnext, hx8, tb6, b6⟩, by simp [intOf]⟩
    · have hix := index_sets3 x0 x1 x2 x3 x4 wr
      have ca : wr.cell? ⟨1, 6, none⟩ = some (.int .i64 1) := (htb.out.spans 3 (by omega)).1
      have cb : wr.cell? ⟨1, 7, none⟩ = some (.int .i64 12) := (htb.out.spans 3 (by omega)).2
      by_cases hv0 : x3 = 0
      · have e0 : ((x3 : Int) == 0) = true := by simp; omega
        have hres : Hid (res = false) := by
          rw [hr.out, ← hok.out, st3.out, oz3.out hv0]
          exact rfl
        clear hv0
        go_wp2_with fail
        go_ret
        exact ⟨by rw [hres.out]; rfl, hbw.out⟩
      · have e0 : ((x3 : Int) == 0) = false := by simp; omega
        have ea := ea3.out hv0
        clear hv0
        go_wp2_with fail
        refine (ce3.out _).mono ?_
        rintro e w6 ⟨rfl, k6⟩
        have b6 := Lib.hid (hbw.out.trans (k6.mono hbw.out.size))
        have hx8 : Hid (w6.cell? ⟨w.heap.size, 7, none⟩ = some (.int .i64 x7)) := (k6.cell (p := ⟨w.heap.size, 7, none⟩) hxl).trans hx7.out
        have tb6 := Lib.hid (htb.out.below k6)
        clear k6 ca cb hix
        cases ok3
        · have hres : Hid (res = false) := by
            rw [hr.out, ← hok.out, st3.out]
            exact rfl
          simp only [Bool.not_false] at ea
          go_wp2_with fail
          go_ret
          exact ⟨by rw [hres.out]; rfl, b6.out⟩
        · have hnext : Hid (okBy g (5 - 4) 4 = okBy g 5 0) := by
            rw [← hok.out, st3.out]
            exact rfl
          simp only [Bool.not_true] at ea
          go_wp2_with fail
          exact ⟨⟨4, by omega, by go_num, hnext, hx8, tb6, b6⟩, by simp [intOf]⟩
    · have hix := index_sets4 x0 x1 x2 x3 x4 wr
      have ca : wr.cell? ⟨1, 8, none⟩ = some (.int .i64 0) := (htb.out.spans 4 (by omega)).1
      have cb : wr.cell? ⟨1, 9, none⟩ = some (.int .i64 6) := (htb.out.spans 4 (by omega)).2
      by_cases hv0 : x4 = 0
      · have e0 : ((x4 : Int) == 0) = true := by simp; omega
        have hres : Hid (res = false) := by
          rw [hr.out, ← hok.out, st4.out, oz4.out hv0]
          exact rfl
        clear hv0
        go_wp2_with fail
        go_ret
        exact ⟨by rw [hres.out]; rfl, hbw.out⟩
      · have e0 : ((x4 : Int) == 0) = false := by simp; omega
        have ea := ea4.out hv0
        clear hv0
        go_wp2_with fail
        refine (ce4.out _).mono ?_
        rintro e w6 ⟨rfl, k6⟩
        have b6 := Lib.hid (hbw.out.trans (k6.mono hbw.out.size))
        have hx8 : Hid (w6.cell? ⟨w.heap.size, 7, none⟩ = some (.int .i64 x7)) := (k6.cell (p := ⟨w.heap.size, 7, none⟩) hxl).trans hx7.out
        have tb6 := Lib.hid (htb.out.below k6)
        clear k6 ca cb hix
        cases ok4
        · have hres : Hid (res = false) := by
            rw [hr.out, ← hok.out, st4.out]
            exact rfl
          simp only [Bool.not_false] at ea
          go_wp2_with fail
          go_ret
          exact ⟨by rw [hres.out]; rfl, b6.out⟩
        · have hnext : Hid (okBy g (5 - 5) 5 = okBy g 5 0) := by
            rw [← hok.out, st4.out]
            exact rfl
          simp only [Bool.not_true] at ea
          go_wp2_with fail
          exact ⟨⟨5, by omega, by go_num, hnext, hx8, tb6, b6⟩, by simp [intOf]⟩
    · have hx7' := hx7.out
      have hres : Hid (res = decide (-899 ≤ x7 ∧ x7 ≤ 899)) := by
        rw [hr.out, ← hok.out, st5.out]
        exact rfl
      clear hx7
      by_cases hc : -899 ≤ x7
      · have hd : Hid (decide (-899 ≤ x7 ∧ x7 ≤ 899) = decide (x7 ≤ 899)) := by simp [Hid, hc]
        go_wp2_with fail
        go_ret
        exact ⟨ret_bool (by rw [hres.out, hd.out]), hbw.out⟩
      · have hd : Hid (decide (-899 ≤ x7 ∧ x7 ≤ 899) = false) := by simp [Hid, hc]
        go_wp2_with fail
        go_ret
        exact ⟨ret_bool (by rw [hres.out, hd.out]), hbw.out⟩
end Go.Proofs.YtoihekgmomjhpaaGreatDoor
