/-
  The program's fields (layer 4): the places of each field, and the maps of names.
-/
import Derived.Test.YtiidhcpflplpiaaGreatDoorCFld
import Derived.Laws.Rows
import Derived.Laws.Tables
import Derived.Laws.CopyOwn
set_option linter.unusedVariables false
namespace Go.Proofs.YtiidhcpflplpiaaGreatDoor
open Go.RowKit Crn

def fieldsV (m3 m4 : Value) : Value := .agg #[.int .i64 0, .int .i64 59, .map none, .int .i64 0, .int .i64 23, .map none, .int .i64 1, .int .i64 31, .map none, .int .i64 1, .int .i64 12, m3, .int .i64 0, .int .i64 7, m4]

theorem months_chain (W : World) (b : Nat) (h : NameMap W b []) : ∃ x1 x2 x3 x4 x5 x6 x7 x8 x9 x10 x11 x12 : World,
    (Instr.mapUpdate 180 (.map (some b)) (.string ⟨#[106, 97, 110]⟩) (.int .i64 1)).run Tryz.prog W = .ok () x1 ∧
    (Instr.mapUpdate 180 (.map (some b)) (.string ⟨#[102, 101, 98]⟩) (.int .i64 2)).run Tryz.prog x1 = .ok () x2 ∧
    (Instr.mapUpdate 180 (.map (some b)) (.string ⟨#[109, 97, 114]⟩) (.int .i64 3)).run Tryz.prog x2 = .ok () x3 ∧
    (Instr.mapUpdate 180 (.map (some b)) (.string ⟨#[97, 112, 114]⟩) (.int .i64 4)).run Tryz.prog x3 = .ok () x4 ∧
    (Instr.mapUpdate 180 (.map (some b)) (.string ⟨#[109, 97, 121]⟩) (.int .i64 5)).run Tryz.prog x4 = .ok () x5 ∧
    (Instr.mapUpdate 180 (.map (some b)) (.string ⟨#[106, 117, 110]⟩) (.int .i64 6)).run Tryz.prog x5 = .ok () x6 ∧
    (Instr.mapUpdate 180 (.map (some b)) (.string ⟨#[106, 117, 108]⟩) (.int .i64 7)).run Tryz.prog x6 = .ok () x7 ∧
    (Instr.mapUpdate 180 (.map (some b)) (.string ⟨#[97, 117, 103]⟩) (.int .i64 8)).run Tryz.prog x7 = .ok () x8 ∧
    (Instr.mapUpdate 180 (.map (some b)) (.string ⟨#[115, 101, 112]⟩) (.int .i64 9)).run Tryz.prog x8 = .ok () x9 ∧
    (Instr.mapUpdate 180 (.map (some b)) (.string ⟨#[111, 99, 116]⟩) (.int .i64 10)).run Tryz.prog x9 = .ok () x10 ∧
    (Instr.mapUpdate 180 (.map (some b)) (.string ⟨#[110, 111, 118]⟩) (.int .i64 11)).run Tryz.prog x10 = .ok () x11 ∧
    (Instr.mapUpdate 180 (.map (some b)) (.string ⟨#[100, 101, 99]⟩) (.int .i64 12)).run Tryz.prog x11 = .ok () x12 ∧
    NameMap x12 b (nameRow (low 3) (names 3)) ∧ Below b W x12 ∧ x12.heap.size = W.heap.size := by
  obtain ⟨x1, r1, n1, b1, s1⟩ := insert_run h (by decide +kernel) ⟨#[106, 97, 110]⟩ (by decide) (by decide +kernel) 1 rfl
  obtain ⟨x2, r2, n2, b2, s2⟩ := insert_run n1 (by decide +kernel) ⟨#[102, 101, 98]⟩ (by decide) (by decide +kernel) 2 rfl
  obtain ⟨x3, r3, n3, b3, s3⟩ := insert_run n2 (by decide +kernel) ⟨#[109, 97, 114]⟩ (by decide) (by decide +kernel) 3 rfl
  obtain ⟨x4, r4, n4, b4, s4⟩ := insert_run n3 (by decide +kernel) ⟨#[97, 112, 114]⟩ (by decide) (by decide +kernel) 4 rfl
  obtain ⟨x5, r5, n5, b5, s5⟩ := insert_run n4 (by decide +kernel) ⟨#[109, 97, 121]⟩ (by decide) (by decide +kernel) 5 rfl
  obtain ⟨x6, r6, n6, b6, s6⟩ := insert_run n5 (by decide +kernel) ⟨#[106, 117, 110]⟩ (by decide) (by decide +kernel) 6 rfl
  obtain ⟨x7, r7, n7, b7, s7⟩ := insert_run n6 (by decide +kernel) ⟨#[106, 117, 108]⟩ (by decide) (by decide +kernel) 7 rfl
  obtain ⟨x8, r8, n8, b8, s8⟩ := insert_run n7 (by decide +kernel) ⟨#[97, 117, 103]⟩ (by decide) (by decide +kernel) 8 rfl
  obtain ⟨x9, r9, n9, b9, s9⟩ := insert_run n8 (by decide +kernel) ⟨#[115, 101, 112]⟩ (by decide) (by decide +kernel) 9 rfl
  obtain ⟨x10, r10, n10, b10, s10⟩ := insert_run n9 (by decide +kernel) ⟨#[111, 99, 116]⟩ (by decide) (by decide +kernel) 10 rfl
  obtain ⟨x11, r11, n11, b11, s11⟩ := insert_run n10 (by decide +kernel) ⟨#[110, 111, 118]⟩ (by decide) (by decide +kernel) 11 rfl
  obtain ⟨x12, r12, n12, b12, s12⟩ := insert_run n11 (by decide +kernel) ⟨#[100, 101, 99]⟩ (by decide) (by decide +kernel) 12 rfl
  exact ⟨x1, x2, x3, x4, x5, x6, x7, x8, x9, x10, x11, x12, r1, r2, r3, r4, r5, r6, r7, r8, r9, r10, r11, r12, n12, (((((((((((b1).trans b2).trans b3).trans b4).trans b5).trans b6).trans b7).trans b8).trans b9).trans b10).trans b11).trans b12, by omega⟩

theorem days_chain (W : World) (b : Nat) (h : NameMap W b []) : ∃ x1 x2 x3 x4 x5 x6 x7 : World,
    (Instr.mapUpdate 180 (.map (some b)) (.string ⟨#[115, 117, 110]⟩) (.int .i64 0)).run Tryz.prog W = .ok () x1 ∧
    (Instr.mapUpdate 180 (.map (some b)) (.string ⟨#[109, 111, 110]⟩) (.int .i64 1)).run Tryz.prog x1 = .ok () x2 ∧
    (Instr.mapUpdate 180 (.map (some b)) (.string ⟨#[116, 117, 101]⟩) (.int .i64 2)).run Tryz.prog x2 = .ok () x3 ∧
    (Instr.mapUpdate 180 (.map (some b)) (.string ⟨#[119, 101, 100]⟩) (.int .i64 3)).run Tryz.prog x3 = .ok () x4 ∧
    (Instr.mapUpdate 180 (.map (some b)) (.string ⟨#[116, 104, 117]⟩) (.int .i64 4)).run Tryz.prog x4 = .ok () x5 ∧
    (Instr.mapUpdate 180 (.map (some b)) (.string ⟨#[102, 114, 105]⟩) (.int .i64 5)).run Tryz.prog x5 = .ok () x6 ∧
    (Instr.mapUpdate 180 (.map (some b)) (.string ⟨#[115, 97, 116]⟩) (.int .i64 6)).run Tryz.prog x6 = .ok () x7 ∧
    NameMap x7 b (nameRow (low 4) (names 4)) ∧ Below b W x7 ∧ x7.heap.size = W.heap.size := by
  obtain ⟨x1, r1, n1, b1, s1⟩ := insert_run h (by decide +kernel) ⟨#[115, 117, 110]⟩ (by decide) (by decide +kernel) 0 rfl
  obtain ⟨x2, r2, n2, b2, s2⟩ := insert_run n1 (by decide +kernel) ⟨#[109, 111, 110]⟩ (by decide) (by decide +kernel) 1 rfl
  obtain ⟨x3, r3, n3, b3, s3⟩ := insert_run n2 (by decide +kernel) ⟨#[116, 117, 101]⟩ (by decide) (by decide +kernel) 2 rfl
  obtain ⟨x4, r4, n4, b4, s4⟩ := insert_run n3 (by decide +kernel) ⟨#[119, 101, 100]⟩ (by decide) (by decide +kernel) 3 rfl
  obtain ⟨x5, r5, n5, b5, s5⟩ := insert_run n4 (by decide +kernel) ⟨#[116, 104, 117]⟩ (by decide) (by decide +kernel) 4 rfl
  obtain ⟨x6, r6, n6, b6, s6⟩ := insert_run n5 (by decide +kernel) ⟨#[102, 114, 105]⟩ (by decide) (by decide +kernel) 5 rfl
  obtain ⟨x7, r7, n7, b7, s7⟩ := insert_run n6 (by decide +kernel) ⟨#[115, 97, 116]⟩ (by decide) (by decide +kernel) 6 rfl
  exact ⟨x1, x2, x3, x4, x5, x6, x7, r1, r2, r3, r4, r5, r6, r7, n7, ((((((b1).trans b2).trans b3).trans b4).trans b5).trans b6).trans b7, by omega⟩

theorem makeMap_run (W : World) : (Instr.makeMap 180 none).run Tryz.prog W = .ok (.map (some W.heap.size)) (W.alloc (.map #[] 0)) := by
  simp [Instr.makeMap, Result.andThen, go_sem]

set_option maxRecDepth 100000 in
set_option maxHeartbeats 1000000 in
theorem fields_any (w : World) (t : Tab w) :
    Calls Tryz.prog 118 #[] w fun e w' => (∃ m3 m4, e = .returned (fieldsV m3 m4) ∧ NamesAt w' m3 3 ∧ NamesAt w' m4 4) ∧ Below w.heap.size w w' := by
  have hs : 0 < w.heap.size := by have := t.size; omega
  have c0 : w.cell? ⟨0, 0, none⟩ = some (.int .i64 0) := (t.spans 0 (by omega)).1
  have c1 : w.cell? ⟨0, 1, none⟩ = some (.int .i64 59) := (t.spans 0 (by omega)).2
  have c2 : w.cell? ⟨0, 2, none⟩ = some (.int .i64 0) := (t.spans 1 (by omega)).1
  have c3 : w.cell? ⟨0, 3, none⟩ = some (.int .i64 23) := (t.spans 1 (by omega)).2
  have c4 : w.cell? ⟨0, 4, none⟩ = some (.int .i64 1) := (t.spans 2 (by omega)).1
  have c5 : w.cell? ⟨0, 5, none⟩ = some (.int .i64 31) := (t.spans 2 (by omega)).2
  have c6 : w.cell? ⟨0, 6, none⟩ = some (.int .i64 1) := (t.spans 3 (by omega)).1
  have c7 : w.cell? ⟨0, 7, none⟩ = some (.int .i64 12) := (t.spans 3 (by omega)).2
  have z0 : (w.alloc (.cells #[.int .i64 0, .int .i64 0, .map none, .int .i64 0, .int .i64 0, .map none, .int .i64 0, .int .i64 0, .map none, .int .i64 0, .int .i64 0, .map none, .int .i64 0, .int .i64 0, .map none] 183)).heap.size = w.heap.size + 1 := by simp
  have z1 : ((w.alloc (.cells #[.int .i64 0, .int .i64 0, .map none, .int .i64 0, .int .i64 0, .map none, .int .i64 0, .int .i64 0, .map none, .int .i64 0, .int .i64 0, .map none, .int .i64 0, .int .i64 0, .map none] 183)).alloc (.map #[] 0)).heap.size = w.heap.size + 2 := by simp
  have b0 : Below w.heap.size w ((w.alloc (.cells #[.int .i64 0, .int .i64 0, .map none, .int .i64 0, .int .i64 0, .map none, .int .i64 0, .int .i64 0, .map none, .int .i64 0, .int .i64 0, .map none, .int .i64 0, .int .i64 0, .map none] 183)).alloc (.map #[] 0)) := ((Below.refl w.heap.size w).alloc (Nat.le_refl _) _).alloc (by simp) _
  have h0 : ((w.alloc (.cells #[.int .i64 0, .int .i64 0, .map none, .int .i64 0, .int .i64 0, .map none, .int .i64 0, .int .i64 0, .map none, .int .i64 0, .int .i64 0, .map none, .int .i64 0, .int .i64 0, .map none] 183)).alloc (.map #[] 0)).heap[w.heap.size]? = some (.cells #[.int .i64 0, .int .i64 0, .map none, .int .i64 0, .int .i64 0, .map none, .int .i64 0, .int .i64 0, .map none, .int .i64 0, .int .i64 0, .map none, .int .i64 0, .int .i64 0, .map none] 183) := heap_alloc2_old w _ _
  have mk := makeMap_run
  obtain ⟨x1, x2, x3, x4, x5, x6, x7, x8, x9, x10, x11, x12, r1, r2, r3, r4, r5, r6, r7, r8, r9, r10, r11, r12, n3, k3, s3⟩ := months_chain ((w.alloc (.cells #[.int .i64 0, .int .i64 0, .map none, .int .i64 0, .int .i64 0, .map none, .int .i64 0, .int .i64 0, .map none, .int .i64 0, .int .i64 0, .map none, .int .i64 0, .int .i64 0, .map none] 183)).alloc (.map #[] 0)) (w.heap.size + 1) (by
    have := NameMap.made (w.alloc (.cells #[.int .i64 0, .int .i64 0, .map none, .int .i64 0, .int .i64 0, .map none, .int .i64 0, .int .i64 0, .map none, .int .i64 0, .int .i64 0, .map none, .int .i64 0, .int .i64 0, .map none] 183))
    rw [z0] at this
    exact this)
  have b12 : Below w.heap.size w x12 := b0.trans (k3.mono (by omega))
  have h12 : x12.heap[w.heap.size]? = some (.cells #[.int .i64 0, .int .i64 0, .map none, .int .i64 0, .int .i64 0, .map none, .int .i64 0, .int .i64 0, .map none, .int .i64 0, .int .i64 0, .map none, .int .i64 0, .int .i64 0, .map none] 183) := (k3.block w.heap.size (by omega)).trans h0
  have b13 : Below x12.heap.size x12 (x12.alloc (.map #[] 0)) := (Below.refl _ _).alloc (Nat.le_refl _) _
  obtain ⟨y1, y2, y3, y4, y5, y6, y7, u1, u2, u3, u4, u5, u6, u7, n4, k4, s4⟩ := days_chain (x12.alloc (.map #[] 0)) x12.heap.size (NameMap.made x12)
  have l12 : w.heap.size + 2 ≤ x12.heap.size := by omega
  have c13 : Below x12.heap.size x12 y7 := b13.trans k4
  have b20 : Below w.heap.size w y7 := b12.trans (c13.mono (by omega))
  have h20 : y7.heap[w.heap.size]? = some (.cells #[.int .i64 0, .int .i64 0, .map none, .int .i64 0, .int .i64 0, .map none, .int .i64 0, .int .i64 0, .map none, .int .i64 0, .int .i64 0, .map none, .int .i64 0, .int .i64 0, .map none] 183) := (c13.block w.heap.size (by omega)).trans h12
  have e3 : NameMap y7 (w.heap.size + 1) (nameRow (low 3) (names 3)) := n3.below c13 (by omega)
  replace n4 := Lib.hid n4
  replace e3 := Lib.hid e3
  replace b20 := Lib.hid b20
  replace h20 := Lib.hid h20
  replace l12 := Lib.hid l12
  clear n3 k3 s3 b0 h0 b12 h12 b13 k4 s4 c13 z0 z1 t
  have q0 : y7.cell? ⟨w.heap.size, 0, none⟩ = some (.int .i64 0) := cell_of_row y7 w.heap.size 0 _ 183 (0, 0) h20.out
  have f0 : y7.frozen? ⟨w.heap.size, 0, none⟩ = false := frozen_of_row y7 w.heap.size 0 _ 183 h20.out
  have q1 : y7.cell? ⟨w.heap.size, 1, none⟩ = some (.int .i64 0) := cell_of_row y7 w.heap.size 1 _ 183 (0, 0) h20.out
  have f1 : y7.frozen? ⟨w.heap.size, 1, none⟩ = false := frozen_of_row y7 w.heap.size 1 _ 183 h20.out
  have q2 : y7.cell? ⟨w.heap.size, 2, none⟩ = some (.map none) := cell_of_row y7 w.heap.size 2 _ 183 (0, 0) h20.out
  have f2 : y7.frozen? ⟨w.heap.size, 2, none⟩ = false := frozen_of_row y7 w.heap.size 2 _ 183 h20.out
  have q3 : y7.cell? ⟨w.heap.size, 3, none⟩ = some (.int .i64 0) := cell_of_row y7 w.heap.size 3 _ 183 (0, 0) h20.out
  have f3 : y7.frozen? ⟨w.heap.size, 3, none⟩ = false := frozen_of_row y7 w.heap.size 3 _ 183 h20.out
  have q4 : y7.cell? ⟨w.heap.size, 4, none⟩ = some (.int .i64 0) := cell_of_row y7 w.heap.size 4 _ 183 (0, 0) h20.out
  have f4 : y7.frozen? ⟨w.heap.size, 4, none⟩ = false := frozen_of_row y7 w.heap.size 4 _ 183 h20.out
  have q5 : y7.cell? ⟨w.heap.size, 5, none⟩ = some (.map none) := cell_of_row y7 w.heap.size 5 _ 183 (0, 0) h20.out
  have f5 : y7.frozen? ⟨w.heap.size, 5, none⟩ = false := frozen_of_row y7 w.heap.size 5 _ 183 h20.out
  have q6 : y7.cell? ⟨w.heap.size, 6, none⟩ = some (.int .i64 0) := cell_of_row y7 w.heap.size 6 _ 183 (0, 0) h20.out
  have f6 : y7.frozen? ⟨w.heap.size, 6, none⟩ = false := frozen_of_row y7 w.heap.size 6 _ 183 h20.out
  have q7 : y7.cell? ⟨w.heap.size, 7, none⟩ = some (.int .i64 0) := cell_of_row y7 w.heap.size 7 _ 183 (0, 0) h20.out
  have f7 : y7.frozen? ⟨w.heap.size, 7, none⟩ = false := frozen_of_row y7 w.heap.size 7 _ 183 h20.out
  have q8 : y7.cell? ⟨w.heap.size, 8, none⟩ = some (.map none) := cell_of_row y7 w.heap.size 8 _ 183 (0, 0) h20.out
  have f8 : y7.frozen? ⟨w.heap.size, 8, none⟩ = false := frozen_of_row y7 w.heap.size 8 _ 183 h20.out
  have q9 : y7.cell? ⟨w.heap.size, 9, none⟩ = some (.int .i64 0) := cell_of_row y7 w.heap.size 9 _ 183 (0, 0) h20.out
  have f9 : y7.frozen? ⟨w.heap.size, 9, none⟩ = false := frozen_of_row y7 w.heap.size 9 _ 183 h20.out
  have q10 : y7.cell? ⟨w.heap.size, 10, none⟩ = some (.int .i64 0) := cell_of_row y7 w.heap.size 10 _ 183 (0, 0) h20.out
  have f10 : y7.frozen? ⟨w.heap.size, 10, none⟩ = false := frozen_of_row y7 w.heap.size 10 _ 183 h20.out
  have q11 : y7.cell? ⟨w.heap.size, 11, none⟩ = some (.map none) := cell_of_row y7 w.heap.size 11 _ 183 (0, 0) h20.out
  have f11 : y7.frozen? ⟨w.heap.size, 11, none⟩ = false := frozen_of_row y7 w.heap.size 11 _ 183 h20.out
  have q12 : y7.cell? ⟨w.heap.size, 12, none⟩ = some (.int .i64 0) := cell_of_row y7 w.heap.size 12 _ 183 (0, 0) h20.out
  have f12 : y7.frozen? ⟨w.heap.size, 12, none⟩ = false := frozen_of_row y7 w.heap.size 12 _ 183 h20.out
  have q13 : y7.cell? ⟨w.heap.size, 13, none⟩ = some (.int .i64 0) := cell_of_row y7 w.heap.size 13 _ 183 (0, 0) h20.out
  have f13 : y7.frozen? ⟨w.heap.size, 13, none⟩ = false := frozen_of_row y7 w.heap.size 13 _ 183 h20.out
  have q14 : y7.cell? ⟨w.heap.size, 14, none⟩ = some (.map none) := cell_of_row y7 w.heap.size 14 _ 183 (0, 0) h20.out
  have f14 : y7.frozen? ⟨w.heap.size, 14, none⟩ = false := frozen_of_row y7 w.heap.size 14 _ 183 h20.out
  go_enter Tryz.func118, Tryz.ntmps118
  go_wp2_with fail
  have l := l12.out
  refine bodyPost_ret (v := fieldsV (.map (some (w.heap.size + 1))) (.map (some x12.heap.size))) ?_ rfl ?_
  · exact results_cell_row rfl _ _ w.heap.size 183 _ (0, 0) _ rfl (heap_setCell_same _ _ 14 _ _ _ (heap_setCell_same _ _ 13 _ _ _ (heap_setCell_same _ _ 12 _ _ _ (heap_setCell_same _ _ 11 _ _ _ (heap_setCell_same _ _ 10 _ _ _ (heap_setCell_same _ _ 9 _ _ _ (heap_setCell_same _ _ 8 _ _ _ (heap_setCell_same _ _ 7 _ _ _ (heap_setCell_same _ _ 6 _ _ _ (heap_setCell_same _ _ 5 _ _ _ (heap_setCell_same _ _ 4 _ _ _ (heap_setCell_same _ _ 3 _ _ _ (heap_setCell_same _ _ 2 _ _ _ (heap_setCell_same _ _ 1 _ _ _ (heap_setCell_same _ _ 0 _ _ _ h20.out))))))))))))))) Tryz.underlying183 rfl (by kernel_rfl)
  · refine ⟨⟨_, _, rfl, Or.inr ⟨_, rfl, ?_⟩, Or.inr ⟨_, rfl, ?_⟩⟩, (((((((((((((((b20.out).setCell (Nat.le_refl _) _).setCell (Nat.le_refl _) _).setCell (Nat.le_refl _) _).setCell (Nat.le_refl _) _).setCell (Nat.le_refl _) _).setCell (Nat.le_refl _) _).setCell (Nat.le_refl _) _).setCell (Nat.le_refl _) _).setCell (Nat.le_refl _) _).setCell (Nat.le_refl _) _).setCell (Nat.le_refl _) _).setCell (Nat.le_refl _) _).setCell (Nat.le_refl _) _).setCell (Nat.le_refl _) _).setCell (Nat.le_refl _) _⟩
    · obtain ⟨es, clock, g1, g2⟩ := e3.out
      exact ⟨es, clock, (heap_setCell_other _ _ _ _ (by show _ ≠ w.heap.size; omega)).trans ((heap_setCell_other _ _ _ _ (by show _ ≠ w.heap.size; omega)).trans ((heap_setCell_other _ _ _ _ (by show _ ≠ w.heap.size; omega)).trans ((heap_setCell_other _ _ _ _ (by show _ ≠ w.heap.size; omega)).trans ((heap_setCell_other _ _ _ _ (by show _ ≠ w.heap.size; omega)).trans ((heap_setCell_other _ _ _ _ (by show _ ≠ w.heap.size; omega)).trans ((heap_setCell_other _ _ _ _ (by show _ ≠ w.heap.size; omega)).trans ((heap_setCell_other _ _ _ _ (by show _ ≠ w.heap.size; omega)).trans ((heap_setCell_other _ _ _ _ (by show _ ≠ w.heap.size; omega)).trans ((heap_setCell_other _ _ _ _ (by show _ ≠ w.heap.size; omega)).trans ((heap_setCell_other _ _ _ _ (by show _ ≠ w.heap.size; omega)).trans ((heap_setCell_other _ _ _ _ (by show _ ≠ w.heap.size; omega)).trans ((heap_setCell_other _ _ _ _ (by show _ ≠ w.heap.size; omega)).trans ((heap_setCell_other _ _ _ _ (by show _ ≠ w.heap.size; omega)).trans ((heap_setCell_other _ _ _ _ (by show _ ≠ w.heap.size; omega)).trans (g1))))))))))))))), g2⟩
    · obtain ⟨es, clock, g1, g2⟩ := n4.out
      exact ⟨es, clock, (heap_setCell_other _ _ _ _ (by show _ ≠ w.heap.size; omega)).trans ((heap_setCell_other _ _ _ _ (by show _ ≠ w.heap.size; omega)).trans ((heap_setCell_other _ _ _ _ (by show _ ≠ w.heap.size; omega)).trans ((heap_setCell_other _ _ _ _ (by show _ ≠ w.heap.size; omega)).trans ((heap_setCell_other _ _ _ _ (by show _ ≠ w.heap.size; omega)).trans ((heap_setCell_other _ _ _ _ (by show _ ≠ w.heap.size; omega)).trans ((heap_setCell_other _ _ _ _ (by show _ ≠ w.heap.size; omega)).trans ((heap_setCell_other _ _ _ _ (by show _ ≠ w.heap.size; omega)).trans ((heap_setCell_other _ _ _ _ (by show _ ≠ w.heap.size; omega)).trans ((heap_setCell_other _ _ _ _ (by show _ ≠ w.heap.size; omega)).trans ((heap_setCell_other _ _ _ _ (by show _ ≠ w.heap.size; omega)).trans ((heap_setCell_other _ _ _ _ (by show _ ≠ w.heap.size; omega)).trans ((heap_setCell_other _ _ _ _ (by show _ ≠ w.heap.size; omega)).trans ((heap_setCell_other _ _ _ _ (by show _ ≠ w.heap.size; omega)).trans ((heap_setCell_other _ _ _ _ (by show _ ≠ w.heap.size; omega)).trans (g1))))))))))))))), g2⟩
end Go.Proofs.YtiidhcpflplpiaaGreatDoor
