/-
  NARROWER THAN 'FOR EVERY INPUT', by the rows' own cells (each row's printed sentence says how): CivilDays: laid · CivilDate: laid · CivilNext: laid · CivilOrder: laid · CivilYears: laid · CivilWeeks: laid.
  DERIVED. THE GIVEN ROWS OF THIS SEAT. 6 by the template 'for every input the law returns true; each argument reads behind the call as it read before'; 0 by the template 'total and deterministic' (their statements: YtehjmlpglhapbaaDoorTotals.lean).
  GIVEN WITH THE SEED: the statements are not yours to turn. If you find one false, say at which input.
  Laid BY PROGRAM, IN A SANDBOX (cutbox-rows.mjs): the forced cells as the released guide's own fill.sh prints them over the translation c082e732d6cd1bd1… (all of the seat's roots in one cut). By AI agents, Wed Nov 11 2026. No macro, syntax, notation, axiom, sorry.
-/
import Derived.Test.YtehjmlpglhapbaaDoorChecked
import GoSem.Claim
import GoSem.ClaimJoined
import GoSem.ClaimMapViews
import Derived.JoinedTies
import Derived.KernelRfl
namespace Go.Proofs.YtehjmlpglhapbaaDoor
/- THE CELL 'sum', in the pinned program and in every row, IS THE sha256 OF THE DUMP (.gsa) THAT YtehjmlpglhapbaaDoorProg.lean LOADS. Nothing in Lean hashes anything: it is a label: what it is worth is what the hold of that sum in a sandbox is worth. -/
noncomputable def Tryd.pinned : Pinned := { name := "ytehjmlpglhapbaadoor", sum := "c082e732d6cd1bd19a0a53599781ddb86d9f7dca19f3157be750c1373db4c2c7", checked := Tryd.checked }
namespace Rows
def none {H : Type} : Left H := { results := [], args := [] }

/- WHAT THE LISTED PACKAGE-LEVEL VARIABLES READ AS WHEN THE CALL BEGINS. Each datum BY PROGRAM (the guide's laid-datum.mjs) off the statement by which the dump's own 'gosem.cut.vars' lays the variable. In a bare row this is a premise. The card (YtehjmlpglhapbaaDoorCards.lean) ties it to the program's text. -/
def laid_tompion_civil_ahead {H : Type} : DataW H := .agg [.lit (.int .i64 0), .lit (.int .i64 31), .lit (.int .i64 59), .lit (.int .i64 90), .lit (.int .i64 120), .lit (.int .i64 151), .lit (.int .i64 181), .lit (.int .i64 212), .lit (.int .i64 243), .lit (.int .i64 273), .lit (.int .i64 304), .lit (.int .i64 334), .lit (.int .i64 365)]

/-- 'tompionlaw03.CivilDays': WHATEVER THE INPUT: true; the input reads as it did. -/
def civilDaysSpec : ChangeSpec := { name := "civilDays", fn := fun _ => fun
  | [d1, d2, d3] => { results := [.lit (.bool true)], args := [d1, d2, d3] }
  | _ => none }
def civilDaysRow : OpenClaim := { program := "ytehjmlpglhapbaadoor", sum := "c082e732d6cd1bd19a0a53599781ddb86d9f7dca19f3157be750c1373db4c2c7", func := "tompion/tompionlaw03.CivilDays", spec := "civilDays", named := ["tompion/civil.ahead"], apart := false, laid := [("tompion/civil.ahead", laid_tompion_civil_ahead)] }
def CivilDaysSaid : Prop := civilDaysRow.holds Tryd.pinned (OpenSpec.ofChange civilDaysSpec)

/-- ITS FALSE NEIGHBOUR: 'it returns false'. Refute it at one input. -/
def civilDaysWrong : ChangeSpec := { name := "civilDays", fn := fun _ => fun
  | [d1, d2, d3] => { results := [.lit (.bool false)], args := [d1, d2, d3] }
  | _ => none }
def CivilDaysWrongFalsely : Prop := civilDaysRow.holds Tryd.pinned (OpenSpec.ofChange civilDaysWrong)

/-- 'tompionlaw03.CivilDate': WHATEVER THE INPUT: true; the input reads as it did. -/
def civilDateSpec : ChangeSpec := { name := "civilDate", fn := fun _ => fun
  | [d] => { results := [.lit (.bool true)], args := [d] }
  | _ => none }
def civilDateRow : OpenClaim := { program := "ytehjmlpglhapbaadoor", sum := "c082e732d6cd1bd19a0a53599781ddb86d9f7dca19f3157be750c1373db4c2c7", func := "tompion/tompionlaw03.CivilDate", spec := "civilDate", named := ["tompion/civil.ahead"], apart := false, laid := [("tompion/civil.ahead", laid_tompion_civil_ahead)] }
def CivilDateSaid : Prop := civilDateRow.holds Tryd.pinned (OpenSpec.ofChange civilDateSpec)

/-- ITS FALSE NEIGHBOUR: 'it returns false'. Refute it at one input. -/
def civilDateWrong : ChangeSpec := { name := "civilDate", fn := fun _ => fun
  | [d] => { results := [.lit (.bool false)], args := [d] }
  | _ => none }
def CivilDateWrongFalsely : Prop := civilDateRow.holds Tryd.pinned (OpenSpec.ofChange civilDateWrong)

/-- 'tompionlaw03.CivilNext': WHATEVER THE INPUT: true; the input reads as it did. -/
def civilNextSpec : ChangeSpec := { name := "civilNext", fn := fun _ => fun
  | [d] => { results := [.lit (.bool true)], args := [d] }
  | _ => none }
def civilNextRow : OpenClaim := { program := "ytehjmlpglhapbaadoor", sum := "c082e732d6cd1bd19a0a53599781ddb86d9f7dca19f3157be750c1373db4c2c7", func := "tompion/tompionlaw03.CivilNext", spec := "civilNext", named := ["tompion/civil.ahead"], apart := false, laid := [("tompion/civil.ahead", laid_tompion_civil_ahead)] }
def CivilNextSaid : Prop := civilNextRow.holds Tryd.pinned (OpenSpec.ofChange civilNextSpec)

/-- ITS FALSE NEIGHBOUR: 'it returns false'. Refute it at one input. -/
def civilNextWrong : ChangeSpec := { name := "civilNext", fn := fun _ => fun
  | [d] => { results := [.lit (.bool false)], args := [d] }
  | _ => none }
def CivilNextWrongFalsely : Prop := civilNextRow.holds Tryd.pinned (OpenSpec.ofChange civilNextWrong)

/-- 'tompionlaw03.CivilOrder': WHATEVER THE INPUT: true; the input reads as it did. -/
def civilOrderSpec : ChangeSpec := { name := "civilOrder", fn := fun _ => fun
  | [d1, d2] => { results := [.lit (.bool true)], args := [d1, d2] }
  | _ => none }
def civilOrderRow : OpenClaim := { program := "ytehjmlpglhapbaadoor", sum := "c082e732d6cd1bd19a0a53599781ddb86d9f7dca19f3157be750c1373db4c2c7", func := "tompion/tompionlaw03.CivilOrder", spec := "civilOrder", named := ["tompion/civil.ahead"], apart := false, laid := [("tompion/civil.ahead", laid_tompion_civil_ahead)] }
def CivilOrderSaid : Prop := civilOrderRow.holds Tryd.pinned (OpenSpec.ofChange civilOrderSpec)

/-- ITS FALSE NEIGHBOUR: 'it returns false'. Refute it at one input. -/
def civilOrderWrong : ChangeSpec := { name := "civilOrder", fn := fun _ => fun
  | [d1, d2] => { results := [.lit (.bool false)], args := [d1, d2] }
  | _ => none }
def CivilOrderWrongFalsely : Prop := civilOrderRow.holds Tryd.pinned (OpenSpec.ofChange civilOrderWrong)

/-- 'tompionlaw03.CivilYears': WHATEVER THE INPUT: true; the input reads as it did. -/
def civilYearsSpec : ChangeSpec := { name := "civilYears", fn := fun _ => fun
  | [d] => { results := [.lit (.bool true)], args := [d] }
  | _ => none }
def civilYearsRow : OpenClaim := { program := "ytehjmlpglhapbaadoor", sum := "c082e732d6cd1bd19a0a53599781ddb86d9f7dca19f3157be750c1373db4c2c7", func := "tompion/tompionlaw03.CivilYears", spec := "civilYears", named := ["tompion/civil.ahead"], apart := false, laid := [("tompion/civil.ahead", laid_tompion_civil_ahead)] }
def CivilYearsSaid : Prop := civilYearsRow.holds Tryd.pinned (OpenSpec.ofChange civilYearsSpec)

/-- ITS FALSE NEIGHBOUR: 'it returns false'. Refute it at one input. -/
def civilYearsWrong : ChangeSpec := { name := "civilYears", fn := fun _ => fun
  | [d] => { results := [.lit (.bool false)], args := [d] }
  | _ => none }
def CivilYearsWrongFalsely : Prop := civilYearsRow.holds Tryd.pinned (OpenSpec.ofChange civilYearsWrong)

/-- 'tompionlaw03.CivilWeeks': WHATEVER THE INPUT: true; the input reads as it did. -/
def civilWeeksSpec : ChangeSpec := { name := "civilWeeks", fn := fun _ => fun
  | [d1, d2] => { results := [.lit (.bool true)], args := [d1, d2] }
  | _ => none }
def civilWeeksRow : OpenClaim := { program := "ytehjmlpglhapbaadoor", sum := "c082e732d6cd1bd19a0a53599781ddb86d9f7dca19f3157be750c1373db4c2c7", func := "tompion/tompionlaw03.CivilWeeks", spec := "civilWeeks", named := ["tompion/civil.ahead"], apart := false, laid := [("tompion/civil.ahead", laid_tompion_civil_ahead)] }
def CivilWeeksSaid : Prop := civilWeeksRow.holds Tryd.pinned (OpenSpec.ofChange civilWeeksSpec)

/-- ITS FALSE NEIGHBOUR: 'it returns false'. Refute it at one input. -/
def civilWeeksWrong : ChangeSpec := { name := "civilWeeks", fn := fun _ => fun
  | [d1, d2] => { results := [.lit (.bool false)], args := [d1, d2] }
  | _ => none }
def CivilWeeksWrongFalsely : Prop := civilWeeksRow.holds Tryd.pinned (OpenSpec.ofChange civilWeeksWrong)

/- THE SECOND FORM. 'bulk': how many values and letters a reading holds, each counted each time it is reached (what is shared counts as often as it is met; a slice's spare places count too). A statement '..UptoSaid' is the law's where the arguments, and the package variables that the reading takes, are together of bulk at most 1048576: NARROWER than '..Said'. Prove '..Said' where nothing that the law and all that it calls make is longer than what came in: it says more and counts as full. Else prove '..UptoSaid'. A law counts once. -/
mutual
def uptoBulk {H : Type} : DataW H → Nat
  | .lit (.string bytes) => bytes.length + 1
  | .lit _ => 1
  | .nil => 1
  | .ptr d => uptoBulk d + 1
  | .slice elems spare => uptoBulkAll elems + uptoBulkAll spare + 1
  | .agg parts => uptoBulkAll parts + 1
  | .iface _ d => uptoBulk d + 1
  | .map entries => uptoBulkEntries entries + 1
  | .held _ => 1
def uptoBulkAll {H : Type} : List (DataW H) → Nat
  | [] => 0
  | d :: r => uptoBulk d + uptoBulkAll r
def uptoBulkEntries {H : Type} : List (Lit × DataW H) → Nat
  | [] => 0
  | x :: r => uptoBulkEntry x + uptoBulkEntries r
def uptoBulkEntry {H : Type} : Lit × DataW H → Nat
  | (.string bytes, d) => bytes.length + uptoBulk d + 1
  | (_, d) => uptoBulk d + 1
 end
def uptoSmall : (H : Type) → List (DataW H) → Bool := fun _ ds => decide (uptoBulkAll ds ≤ 1048576)
def OpenSpec.upto (s : _root_.Go.ChangeSpec) : _root_.Go.OpenSpec := { _root_.Go.OpenSpec.ofChange s with cond := some uptoSmall }

/-- 'tompionlaw03.CivilDays', WHERE WHAT IT READS IS OF BULK AT MOST 1048576: true; the input reads as it did. -/
def civilDaysUptoRow : OpenClaim := { program := "ytehjmlpglhapbaadoor", sum := "c082e732d6cd1bd19a0a53599781ddb86d9f7dca19f3157be750c1373db4c2c7", func := "tompion/tompionlaw03.CivilDays", spec := "civilDays", named := ["tompion/civil.ahead"], apart := false, laid := [("tompion/civil.ahead", laid_tompion_civil_ahead)], narrowed := true }
def CivilDaysUptoSaid : Prop := civilDaysUptoRow.holds Tryd.pinned (OpenSpec.upto civilDaysSpec)

/-- 'tompionlaw03.CivilDate', WHERE WHAT IT READS IS OF BULK AT MOST 1048576: true; the input reads as it did. -/
def civilDateUptoRow : OpenClaim := { program := "ytehjmlpglhapbaadoor", sum := "c082e732d6cd1bd19a0a53599781ddb86d9f7dca19f3157be750c1373db4c2c7", func := "tompion/tompionlaw03.CivilDate", spec := "civilDate", named := ["tompion/civil.ahead"], apart := false, laid := [("tompion/civil.ahead", laid_tompion_civil_ahead)], narrowed := true }
def CivilDateUptoSaid : Prop := civilDateUptoRow.holds Tryd.pinned (OpenSpec.upto civilDateSpec)

/-- 'tompionlaw03.CivilNext', WHERE WHAT IT READS IS OF BULK AT MOST 1048576: true; the input reads as it did. -/
def civilNextUptoRow : OpenClaim := { program := "ytehjmlpglhapbaadoor", sum := "c082e732d6cd1bd19a0a53599781ddb86d9f7dca19f3157be750c1373db4c2c7", func := "tompion/tompionlaw03.CivilNext", spec := "civilNext", named := ["tompion/civil.ahead"], apart := false, laid := [("tompion/civil.ahead", laid_tompion_civil_ahead)], narrowed := true }
def CivilNextUptoSaid : Prop := civilNextUptoRow.holds Tryd.pinned (OpenSpec.upto civilNextSpec)

/-- 'tompionlaw03.CivilOrder', WHERE WHAT IT READS IS OF BULK AT MOST 1048576: true; the input reads as it did. -/
def civilOrderUptoRow : OpenClaim := { program := "ytehjmlpglhapbaadoor", sum := "c082e732d6cd1bd19a0a53599781ddb86d9f7dca19f3157be750c1373db4c2c7", func := "tompion/tompionlaw03.CivilOrder", spec := "civilOrder", named := ["tompion/civil.ahead"], apart := false, laid := [("tompion/civil.ahead", laid_tompion_civil_ahead)], narrowed := true }
def CivilOrderUptoSaid : Prop := civilOrderUptoRow.holds Tryd.pinned (OpenSpec.upto civilOrderSpec)

/-- 'tompionlaw03.CivilYears', WHERE WHAT IT READS IS OF BULK AT MOST 1048576: true; the input reads as it did. -/
def civilYearsUptoRow : OpenClaim := { program := "ytehjmlpglhapbaadoor", sum := "c082e732d6cd1bd19a0a53599781ddb86d9f7dca19f3157be750c1373db4c2c7", func := "tompion/tompionlaw03.CivilYears", spec := "civilYears", named := ["tompion/civil.ahead"], apart := false, laid := [("tompion/civil.ahead", laid_tompion_civil_ahead)], narrowed := true }
def CivilYearsUptoSaid : Prop := civilYearsUptoRow.holds Tryd.pinned (OpenSpec.upto civilYearsSpec)

/-- 'tompionlaw03.CivilWeeks', WHERE WHAT IT READS IS OF BULK AT MOST 1048576: true; the input reads as it did. -/
def civilWeeksUptoRow : OpenClaim := { program := "ytehjmlpglhapbaadoor", sum := "c082e732d6cd1bd19a0a53599781ddb86d9f7dca19f3157be750c1373db4c2c7", func := "tompion/tompionlaw03.CivilWeeks", spec := "civilWeeks", named := ["tompion/civil.ahead"], apart := false, laid := [("tompion/civil.ahead", laid_tompion_civil_ahead)], narrowed := true }
def CivilWeeksUptoSaid : Prop := civilWeeksUptoRow.holds Tryd.pinned (OpenSpec.upto civilWeeksSpec)

end Rows
end Go.Proofs.YtehjmlpglhapbaaDoor
