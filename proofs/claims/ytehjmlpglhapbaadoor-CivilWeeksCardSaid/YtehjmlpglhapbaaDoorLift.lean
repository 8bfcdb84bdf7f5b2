/-
  What every statement of this layer shares: from what the row lists to the table's cells, and a world that holds the table (the witness).
-/
import Derived.Test.YtehjmlpglhapbaaDoorMonth
import Derived.Deep.DeepHandedRow
import Derived.Lib.LaidTab
namespace Go.Proofs.YtehjmlpglhapbaaDoor
open Go.ChangeShapes Go.WideShapes Go.ChangeAt Go.RowKit Civ

theorem own : ownKnob Tryd.prog.godebug = none := by kernel_rfl
theorem gTab : Tryd.prog.globalNamed "tompion/civil.ahead" = some 0 := by kernel_rfl
theorem gTabType : (Tryd.prog.globals[0]?).map (·.type) = some 41 := by kernel_rfl
theorem cells41 : Tryd.prog.cellsOf 41 = 13 := by kernel_rfl
theorem cells3 : Tryd.prog.cellsOf 3 = 1 := by kernel_rfl

theorem tab_cells : ∀ i, i < 13 → (([0, 31, 59, 90, 120, 151, 181, 212, 243, 273, 304, 334, 365] : List Int).getD i 0) = (tab.getD i 0 : Nat) := by decide

/-- What the rows list gives the cells of the table. -/
theorem table {W : World} (h : laidMetH Tryd.prog [("tompion/civil.ahead", Rows.laid_tompion_civil_ahead)] W) : Tab W := by
  have t : Lib.TabIs Tryd.prog W "tompion/civil.ahead" .i64 [0, 31, 59, 90, 120, 151, 181, 212, 243, 273, 304, 334, 365] :=
    Lib.tabIs_of_head (rest := []) gTab gTabType Tryd.underlying41 Tryd.underlying3 cells3 cells41 h
  intro i hi
  rw [t.cell gTab i (by simpa using hi), tab_cells i hi]

/-- The settled world, the table holding what its initialiser lays. -/
noncomputable def laidWorld (os : Os) : World :=
  { World.holding Tryd.prog os ⟨#[], #[], []⟩ with heap := (World.holding Tryd.prog os ⟨#[], #[], []⟩).heap.modify 0 fun
      | .cells _ t frozen => .cells #[.int .i64 0, .int .i64 31, .int .i64 59, .int .i64 90, .int .i64 120, .int .i64 151, .int .i64 181, .int .i64 212, .int .i64 243, .int .i64 273, .int .i64 304, .int .i64 334, .int .i64 365] t frozen
      | o => o }
theorem laid_met (os : Os) (args : Array Value) : laidMet Tryd.prog [("tompion/civil.ahead", Rows.laid_tompion_civil_ahead)] ((laidWorld os).forCall (fun _ _ => 0) ⟨#[], args, []⟩).memory :=
  laidMet_of_run' 8 (by kernel_rfl) (by kernel_rfl)
end Go.Proofs.YtehjmlpglhapbaaDoor
