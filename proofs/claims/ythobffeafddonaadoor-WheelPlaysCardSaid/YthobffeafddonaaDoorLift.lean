/-
  What every statement of layer 6 shares: from what the row lists to the table's cells, and a world that holds all that it lists (the witness).
-/
import Derived.Test.YthobffeafddonaaDoorWFix
import Derived.Test.YthobffeafddonaaDoorCards
import Derived.Test.YthobffeafddonaaDoorTie
import Derived.Deep.DeepHandedRow
import Derived.Lib.LaidU8
import Derived.Lib.SmallJoins
import Derived.Lay
import Derived.MakeChecks
import Derived.OpenShut
import Derived.ShutString
set_option linter.unusedVariables false
namespace Go.Proofs.YthobffeafddonaaDoor
open Go.ChangeShapes Go.WideShapes Go.ChangeAt Go.RowKit Go.Joins Go.Deep

theorem own : ownKnob Tryd.prog.godebug = none := by kernel_rfl
theorem gBru : Tryd.prog.globalNamed "math/bits.deBruijn64tab" = some 0 := by kernel_rfl
theorem gBruType : (Tryd.prog.globals[0]?).map (·.type) = some 85 := by kernel_rfl
theorem cellsU8 : Tryd.prog.cellsOf 5 = 1 := by kernel_rfl
def bruD : List (DataW Unit) := Lib.deBruijn64tab.map fun n => .lit (.int .u8 (n : Nat))
theorem bru_agg : (Rows.laid_math_bits_deBruijn64tab : DataW Unit) = .agg bruD := by rfl
theorem bru_data (i : Nat) (hi : i < 64) : bruD[i]? = some (.lit (.int .u8 (Lib.deBruijn64tab.getD i 0 : Nat))) := by
  have hl : Lib.deBruijn64tab.length = 64 := by decide
  unfold bruD
  rw [List.getElem?_map, List.getElem?_eq_getElem (by omega), List.getD_eq_getElem?_getD, List.getElem?_eq_getElem (by omega)]
  rfl
/-- What the rows list gives the cells of the table. -/
theorem table {W : World} (h : laidMetH Tryd.prog Rows.wheelNilRow.laid W) : Bru W := by
  rw [MakeChecks.laidMetH_plain _ _ _ (by kernel_rfl)] at h
  obtain ⟨g, t, cs, fuel, p, hg, hty, hvar, hd⟩ := Lib.laidMet.reads h (n := "math/bits.deBruijn64tab") (d := Rows.laid_math_bits_deBruijn64tab) (by
    unfold Rows.wheelNilRow
    exact .head _)
  obtain rfl := Option.some.inj (gBru.symm.trans hg)
  obtain rfl := Option.some.inj (gBruType.symm.trans hty)
  rw [bru_agg] at hd
  intro i hi
  obtain ⟨fuel', d, q, hdi, he⟩ := Lib.array_elem Tryd.underlying85 hd i hi
  obtain rfl := Option.some.inj ((bru_data i hi).symm.trans hdi)
  rw [cellsU8] at he
  obtain ⟨n, e0, e1, _⟩ := DataW.trod_int Tryd.underlying5 he
  rw [World.var?_cell hg hvar i, ← Array.getElem?_toList]
  have e2 := congrArg (·[0]?) e0
  simp only [List.getElem?_take, List.getElem?_drop] at e2
  have e3 : n = ((Lib.deBruijn64tab.getD i 0 : Nat) : Int) := by
    have g := e1.symm
    simp at g
    simpa using g.1
  subst e3
  simpa using e2

/-- The settled world, each listed variable holding what the row lists. -/
noncomputable def laidWorld (os : Os) : World := World.laidAll Tryd.prog os Rows.wheelNilRow.laid
theorem laid_met (os : Os) (args : Array Value) : laidMet Tryd.prog Rows.wheelNilRow.laid ((laidWorld os).forCall (fun _ _ => 0) ⟨#[], args, []⟩).memory :=
  laidMet_laidAll _ (by kernel_rfl) (by kernel_rfl)
theorem wf_i64 {n : Int} (h : (Lit.int .i64 n).wf = true) : -9223372036854775808 ≤ n ∧ n ≤ 9223372036854775807 := by
  simpa [Lit.wf, IntKind.min, IntKind.max, IntKind.signed, IntKind.bits] using h
end Go.Proofs.YthobffeafddonaaDoor
