/-
  '==' of two arrays of three integers.
-/
import Derived.Test.YtehjmlpglhapbaaDoorRows
import Derived.WalkKit
import Derived.DeepKeys
namespace Go.Proofs.YtehjmlpglhapbaaDoor
open Go.RowKit
theorem three_cells3 : Tryd.prog.cellsOf 3 = 1 := by kernel_rfl
theorem info3 : ∃ i, Tryd.prog.info? 3 = some i := info_of_underlying Tryd.underlying3

theorem equal_three (a0 a1 a2 b0 b1 b2 : Int) (w : World) :
    Sem.run Tryd.prog (Op.equalIn 10000 36 (.agg #[.int .i64 a0, .int .i64 a1, .int .i64 a2]) (.agg #[.int .i64 b0, .int .i64 b1, .int .i64 b2])) w = .ok (a0 == b0 && (a1 == b1 && a2 == b2)) w := by
  obtain ⟨i, hi⟩ := info3
  rw [show (10000 : Nat) = 9999 + 1 from rfl, run_equalIn_array w 9999 _ _ Tryd.underlying36 hi, three_cells3, show List.range 3 = [0, 1, 2] from rfl]
  simp [Op.eqItems, part, go_sem, Tryd.underlying3]
  by_cases h0 : a0 = b0 <;> by_cases h1 : a1 = b1 <;> by_cases h2 : a2 = b2 <;> simp [h0, h1, h2]
end Go.Proofs.YtehjmlpglhapbaaDoor
