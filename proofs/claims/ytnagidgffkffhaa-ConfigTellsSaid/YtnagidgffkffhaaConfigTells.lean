/-
  Of any chain, and any member, who sits where is the document's; so is the first chain. Condition: none.
-/
import Derived.Test.YtnagidgffkffhaaGAwake
import Derived.Test.YtnagidgffkffhaaGOpen2
import Derived.Test.YtnagidgffkffhaaGPlain3
import Derived.Test.YtnagidgffkffhaaGMbs
import Derived.Test.YtnagidgffkffhaaRows
namespace Go.Proofs.Ytnagidgffkffhaa.G.configTells
open Go.ChangeShapes Go.WideShapes Go.ChangeAt Go.RowKit Cod Cfg
open Go.ChangeMaps (open_string shut_string)
set_option linter.unusedVariables false

theorem own : ownKnob Try.prog.godebug = none := by kernel_rfl

set_option linter.unusedSimpArgs false
set_option maxRecDepth 100000
abbrev oT_0 : Oper := { dst := some 39, op := Go.Op.move (Go.Operand.tmp 2), type := 3, pos := "law.go:39", after := #[], guard := none }
abbrev oT_1 : Oper := { dst := some 40, op := Go.Op.binOp Go.BinOp.geq 3 (Go.Operand.tmp 39) (Go.Operand.const (Go.Value.int Go.IntKind.i64 1)) 3, type := 4, pos := "law.go:39", after := #[{ on := 0, ground := Go.Ground.data }], guard := none }
abbrev oT_2 : Oper := { dst := some 41, op := Go.Op.move (Go.Operand.tmp 40), type := 4, pos := "law.go:39", after := #[{ on := 1, ground := Go.Ground.data }], guard := none }
abbrev oT_3 : Oper := { dst := some 42, op := Go.Op.move (Go.Operand.tmp 2), type := 3, pos := "law.go:39", after := #[{ on := 2, ground := Go.Ground.guard }], guard := some (2, true) }
abbrev oT_4 : Oper := { dst := some 43, op := Go.Op.binOp Go.BinOp.leq 3 (Go.Operand.tmp 42) (Go.Operand.const (Go.Value.int Go.IntKind.i64 8)) 3, type := 4, pos := "law.go:39", after := #[{ on := 3, ground := Go.Ground.data }, { on := 2, ground := Go.Ground.guard }], guard := some (2, true) }
abbrev oT_5 : Oper := { dst := some 44, op := Go.Op.pick (Go.Operand.tmp 41) (Go.Operand.tmp 43) (Go.Operand.const (Go.Value.bool false)), type := 4, pos := "law.go:39", after := #[{ on := 2, ground := Go.Ground.data }, { on := 4, ground := Go.Ground.data }], guard := none }
abbrev oT_6 : Oper := { dst := some 45, op := Go.Op.move (Go.Operand.tmp 44), type := 4, pos := "law.go:39", after := #[{ on := 5, ground := Go.Ground.data }, { on := 2, ground := Go.Ground.chain }], guard := none }
abbrev oT_7 : Oper := { dst := some 46, op := Go.Op.move (Go.Operand.tmp 8), type := 29, pos := "law.go:39", after := #[{ on := 6, ground := Go.Ground.guard }], guard := some (6, true) }
abbrev oT_8 : Oper := { dst := some 47, op := Go.Op.binOp Go.BinOp.neq 29 (Go.Operand.tmp 46) (Go.Operand.const (Go.Value.int Go.IntKind.i64 0)) 29, type := 4, pos := "law.go:39", after := #[{ on := 7, ground := Go.Ground.data }, { on := 6, ground := Go.Ground.guard }], guard := some (6, true) }
abbrev oT_9 : Oper := { dst := some 48, op := Go.Op.move (Go.Operand.tmp 47), type := 4, pos := "law.go:39", after := #[{ on := 8, ground := Go.Ground.data }, { on := 6, ground := Go.Ground.chain }, { on := 6, ground := Go.Ground.guard }], guard := some (6, true) }
abbrev oT_10 : Oper := { dst := some 49, op := Go.Op.load 24 (Go.Operand.tmp 7), type := 24, pos := "law.go:39", after := #[{ on := 9, ground := Go.Ground.guard }], guard := some (9, false) }
abbrev oT_11 : Oper := { dst := some 50, op := Go.Op.move (Go.Operand.tmp 2), type := 3, pos := "law.go:39", after := #[{ on := 9, ground := Go.Ground.guard }], guard := some (9, false) }
abbrev oT_12 : Oper := { dst := some 51, op := Go.Op.call { callee := Go.Callee.value (Go.Operand.func 14), args := #[Go.Operand.tmp 50], argTypes := #[3] }, type := 24, pos := "law.go:39", after := #[{ on := 11, ground := Go.Ground.data }, { on := 9, ground := Go.Ground.chain }, { on := 9, ground := Go.Ground.guard }], guard := some (9, false) }
abbrev oT_13 : Oper := { dst := some 52, op := Go.Op.call { callee := Go.Callee.value (Go.Operand.func 13), args := #[Go.Operand.tmp 49, Go.Operand.tmp 51], argTypes := #[24, 24] }, type := 4, pos := "law.go:39", after := #[{ on := 10, ground := Go.Ground.data }, { on := 12, ground := Go.Ground.data }, { on := 12, ground := Go.Ground.chain }, { on := 9, ground := Go.Ground.guard }], guard := some (9, false) }
abbrev oT_14 : Oper := { dst := some 53, op := Go.Op.unOp Go.UnOp.not 4 (Go.Operand.tmp 52), type := 4, pos := "law.go:39", after := #[{ on := 13, ground := Go.Ground.data }, { on := 9, ground := Go.Ground.guard }], guard := some (9, false) }
abbrev oT_15 : Oper := { dst := some 54, op := Go.Op.pick (Go.Operand.tmp 48) (Go.Operand.const (Go.Value.bool true)) (Go.Operand.tmp 53), type := 4, pos := "law.go:39", after := #[{ on := 9, ground := Go.Ground.data }, { on := 14, ground := Go.Ground.data }, { on := 6, ground := Go.Ground.guard }], guard := some (6, true) }
abbrev oT_16 : Oper := { dst := some 55, op := Go.Op.pick (Go.Operand.tmp 45) (Go.Operand.tmp 54) (Go.Operand.const (Go.Value.bool false)), type := 4, pos := "law.go:39", after := #[{ on := 6, ground := Go.Ground.data }, { on := 15, ground := Go.Ground.data }], guard := none }
abbrev oT_17 : Oper := { dst := some 56, op := Go.Op.move (Go.Operand.tmp 55), type := 4, pos := "law.go:39", after := #[{ on := 16, ground := Go.Ground.data }, { on := 13, ground := Go.Ground.chain }], guard := none }
abbrev oT_18 : Oper := { dst := some 57, op := Go.Op.move (Go.Operand.tmp 2), type := 3, pos := "law.go:39", after := #[{ on := 17, ground := Go.Ground.guard }], guard := some (17, false) }
abbrev oT_19 : Oper := { dst := some 58, op := Go.Op.binOp Go.BinOp.lss 3 (Go.Operand.tmp 57) (Go.Operand.const (Go.Value.int Go.IntKind.i64 1)) 3, type := 4, pos := "law.go:39", after := #[{ on := 18, ground := Go.Ground.data }, { on := 17, ground := Go.Ground.guard }], guard := some (17, false) }
abbrev oT_20 : Oper := { dst := some 59, op := Go.Op.move (Go.Operand.tmp 58), type := 4, pos := "law.go:39", after := #[{ on := 19, ground := Go.Ground.data }, { on := 17, ground := Go.Ground.chain }, { on := 17, ground := Go.Ground.guard }], guard := some (17, false) }
abbrev oT_21 : Oper := { dst := some 60, op := Go.Op.move (Go.Operand.tmp 2), type := 3, pos := "law.go:39", after := #[{ on := 20, ground := Go.Ground.guard }], guard := some (20, false) }
abbrev oT_22 : Oper := { dst := some 61, op := Go.Op.binOp Go.BinOp.gtr 3 (Go.Operand.tmp 60) (Go.Operand.const (Go.Value.int Go.IntKind.i64 8)) 3, type := 4, pos := "law.go:39", after := #[{ on := 21, ground := Go.Ground.data }, { on := 20, ground := Go.Ground.guard }], guard := some (20, false) }
abbrev oT_23 : Oper := { dst := some 62, op := Go.Op.pick (Go.Operand.tmp 59) (Go.Operand.const (Go.Value.bool true)) (Go.Operand.tmp 61), type := 4, pos := "law.go:39", after := #[{ on := 20, ground := Go.Ground.data }, { on := 22, ground := Go.Ground.data }, { on := 17, ground := Go.Ground.guard }], guard := some (17, false) }
abbrev oT_24 : Oper := { dst := some 63, op := Go.Op.move (Go.Operand.tmp 62), type := 4, pos := "law.go:39", after := #[{ on := 23, ground := Go.Ground.data }, { on := 20, ground := Go.Ground.chain }, { on := 17, ground := Go.Ground.guard }], guard := some (17, false) }
abbrev oT_25 : Oper := { dst := some 64, op := Go.Op.move (Go.Operand.tmp 8), type := 29, pos := "law.go:39", after := #[{ on := 24, ground := Go.Ground.guard }], guard := some (24, true) }
abbrev oT_26 : Oper := { dst := some 65, op := Go.Op.binOp Go.BinOp.neq 29 (Go.Operand.tmp 64) (Go.Operand.const (Go.Value.int Go.IntKind.i64 1)) 29, type := 4, pos := "law.go:39", after := #[{ on := 25, ground := Go.Ground.data }, { on := 24, ground := Go.Ground.guard }], guard := some (24, true) }
abbrev oT_27 : Oper := { dst := some 66, op := Go.Op.move (Go.Operand.tmp 65), type := 4, pos := "law.go:39", after := #[{ on := 26, ground := Go.Ground.data }, { on := 24, ground := Go.Ground.chain }, { on := 24, ground := Go.Ground.guard }], guard := some (24, true) }
abbrev oT_28 : Oper := { dst := some 67, op := Go.Op.fieldAddr 24 (Go.Operand.tmp 7) 1, type := 0, pos := "law.go:39", after := #[{ on := 27, ground := Go.Ground.guard }], guard := some (27, false) }
abbrev oT_29 : Oper := { dst := some 68, op := Go.Op.load 22 (Go.Operand.tmp 67), type := 22, pos := "law.go:39", after := #[{ on := 28, ground := Go.Ground.data }, { on := 27, ground := Go.Ground.guard }], guard := some (27, false) }
abbrev oT_30 : Oper := { dst := some 69, op := Go.Op.call { callee := Go.Callee.builtin Go.Builtin.len, args := #[Go.Operand.tmp 68], argTypes := #[22] }, type := 3, pos := "law.go:39", after := #[{ on := 29, ground := Go.Ground.data }, { on := 27, ground := Go.Ground.guard }], guard := some (27, false) }
abbrev oT_31 : Oper := { dst := some 70, op := Go.Op.binOp Go.BinOp.gtr 3 (Go.Operand.tmp 69) (Go.Operand.const (Go.Value.int Go.IntKind.i64 0)) 3, type := 4, pos := "law.go:39", after := #[{ on := 30, ground := Go.Ground.data }, { on := 27, ground := Go.Ground.guard }], guard := some (27, false) }
abbrev oT_32 : Oper := { dst := some 71, op := Go.Op.pick (Go.Operand.tmp 66) (Go.Operand.const (Go.Value.bool true)) (Go.Operand.tmp 70), type := 4, pos := "law.go:39", after := #[{ on := 27, ground := Go.Ground.data }, { on := 31, ground := Go.Ground.data }, { on := 24, ground := Go.Ground.guard }], guard := some (24, true) }
abbrev oT_33 : Oper := { dst := some 72, op := Go.Op.pick (Go.Operand.tmp 63) (Go.Operand.tmp 71) (Go.Operand.const (Go.Value.bool false)), type := 4, pos := "law.go:39", after := #[{ on := 24, ground := Go.Ground.data }, { on := 32, ground := Go.Ground.data }, { on := 17, ground := Go.Ground.guard }], guard := some (17, false) }
abbrev oT_34 : Oper := { dst := some 73, op := Go.Op.pick (Go.Operand.tmp 56) (Go.Operand.const (Go.Value.bool true)) (Go.Operand.tmp 72), type := 4, pos := "law.go:39", after := #[{ on := 17, ground := Go.Ground.data }, { on := 33, ground := Go.Ground.data }], guard := none }
abbrev oU_0 : Oper := { dst := some 122, op := Go.Op.load 24 (Go.Operand.tmp 3), type := 24, pos := "law.go:50", after := #[], guard := none }
abbrev oU_1 : Oper := { dst := some 123, op := Go.Op.call { callee := Go.Callee.value (Go.Operand.func 21), args := #[Go.Operand.tmp 122], argTypes := #[24] }, type := 4, pos := "law.go:50", after := #[{ on := 0, ground := Go.Ground.data }], guard := none }
abbrev oU_2 : Oper := { dst := some 124, op := Go.Op.load 24 (Go.Operand.tmp 3), type := 24, pos := "law.go:50", after := #[], guard := none }
abbrev oU_3 : Oper := { dst := some 125, op := Go.Op.call { callee := Go.Callee.value (Go.Operand.func 22), args := #[Go.Operand.tmp 124], argTypes := #[24] }, type := 4, pos := "law.go:50", after := #[{ on := 2, ground := Go.Ground.data }, { on := 1, ground := Go.Ground.chain }], guard := none }
abbrev oU_4 : Oper := { dst := some 126, op := Go.Op.binOp Go.BinOp.eql 4 (Go.Operand.tmp 123) (Go.Operand.tmp 125) 4, type := 4, pos := "law.go:50", after := #[{ on := 1, ground := Go.Ground.data }, { on := 3, ground := Go.Ground.data }], guard := none }
abbrev oU_5 : Oper := { dst := some 127, op := Go.Op.move (Go.Operand.tmp 126), type := 4, pos := "law.go:50", after := #[{ on := 4, ground := Go.Ground.data }, { on := 3, ground := Go.Ground.chain }], guard := none }
abbrev oU_6 : Oper := { dst := some 128, op := Go.Op.load 24 (Go.Operand.tmp 3), type := 24, pos := "law.go:50", after := #[{ on := 5, ground := Go.Ground.guard }], guard := some (5, true) }
abbrev oU_7 : Oper := { dst := some 129, op := Go.Op.load 26 (Go.Operand.tmp 4), type := 26, pos := "law.go:50", after := #[{ on := 5, ground := Go.Ground.guard }], guard := some (5, true) }
abbrev oU_8 : Oper := { dst := some 130, op := Go.Op.call { callee := Go.Callee.value (Go.Operand.func 23), args := #[Go.Operand.tmp 128, Go.Operand.tmp 129], argTypes := #[24, 26] }, type := 3, pos := "law.go:50", after := #[{ on := 6, ground := Go.Ground.data }, { on := 7, ground := Go.Ground.data }, { on := 5, ground := Go.Ground.chain }, { on := 5, ground := Go.Ground.guard }], guard := some (5, true) }
abbrev oU_9 : Oper := { dst := some 131, op := Go.Op.load 24 (Go.Operand.tmp 3), type := 24, pos := "law.go:50", after := #[{ on := 5, ground := Go.Ground.guard }], guard := some (5, true) }
abbrev oU_10 : Oper := { dst := some 132, op := Go.Op.load 26 (Go.Operand.tmp 4), type := 26, pos := "law.go:50", after := #[{ on := 5, ground := Go.Ground.guard }], guard := some (5, true) }
abbrev oU_11 : Oper := { dst := some 133, op := Go.Op.call { callee := Go.Callee.value (Go.Operand.func 24), args := #[Go.Operand.tmp 131, Go.Operand.tmp 132], argTypes := #[24, 26] }, type := 3, pos := "law.go:50", after := #[{ on := 9, ground := Go.Ground.data }, { on := 10, ground := Go.Ground.data }, { on := 8, ground := Go.Ground.chain }, { on := 5, ground := Go.Ground.guard }], guard := some (5, true) }
abbrev oU_12 : Oper := { dst := some 134, op := Go.Op.binOp Go.BinOp.eql 3 (Go.Operand.tmp 130) (Go.Operand.tmp 133) 3, type := 4, pos := "law.go:50", after := #[{ on := 8, ground := Go.Ground.data }, { on := 11, ground := Go.Ground.data }, { on := 5, ground := Go.Ground.guard }], guard := some (5, true) }
abbrev oU_13 : Oper := { dst := some 135, op := Go.Op.pick (Go.Operand.tmp 127) (Go.Operand.tmp 134) (Go.Operand.const (Go.Value.bool false)), type := 4, pos := "law.go:50", after := #[{ on := 5, ground := Go.Ground.data }, { on := 12, ground := Go.Ground.data }], guard := none }
abbrev oU_14 : Oper := { dst := some 136, op := Go.Op.move (Go.Operand.tmp 135), type := 4, pos := "law.go:50", after := #[{ on := 13, ground := Go.Ground.data }, { on := 11, ground := Go.Ground.chain }], guard := none }
abbrev oU_15 : Oper := { dst := some 137, op := Go.Op.load 26 (Go.Operand.tmp 9), type := 26, pos := "law.go:50", after := #[{ on := 14, ground := Go.Ground.guard }], guard := some (14, true) }
abbrev oU_16 : Oper := { dst := some 138, op := Go.Op.load 26 (Go.Operand.tmp 17), type := 26, pos := "law.go:50", after := #[{ on := 14, ground := Go.Ground.guard }], guard := some (14, true) }
abbrev oU_17 : Oper := { dst := some 139, op := Go.Op.binOp Go.BinOp.eql 26 (Go.Operand.tmp 137) (Go.Operand.tmp 138) 26, type := 4, pos := "law.go:50", after := #[{ on := 15, ground := Go.Ground.data }, { on := 16, ground := Go.Ground.data }, { on := 14, ground := Go.Ground.guard }], guard := some (14, true) }
abbrev oU_18 : Oper := { dst := some 140, op := Go.Op.pick (Go.Operand.tmp 136) (Go.Operand.tmp 139) (Go.Operand.const (Go.Value.bool false)), type := 4, pos := "law.go:50", after := #[{ on := 14, ground := Go.Ground.data }, { on := 17, ground := Go.Ground.data }], guard := none }
abbrev oU_19 : Oper := { dst := some 141, op := Go.Op.move (Go.Operand.tmp 140), type := 4, pos := "law.go:50", after := #[{ on := 18, ground := Go.Ground.data }, { on := 14, ground := Go.Ground.chain }], guard := none }
abbrev oU_20 : Oper := { dst := some 142, op := Go.Op.move (Go.Operand.tmp 10), type := 4, pos := "law.go:50", after := #[{ on := 19, ground := Go.Ground.guard }], guard := some (19, true) }
abbrev oU_21 : Oper := { dst := some 143, op := Go.Op.move (Go.Operand.tmp 18), type := 4, pos := "law.go:50", after := #[{ on := 19, ground := Go.Ground.guard }], guard := some (19, true) }
abbrev oU_22 : Oper := { dst := some 144, op := Go.Op.binOp Go.BinOp.eql 4 (Go.Operand.tmp 142) (Go.Operand.tmp 143) 4, type := 4, pos := "law.go:50", after := #[{ on := 20, ground := Go.Ground.data }, { on := 21, ground := Go.Ground.data }, { on := 19, ground := Go.Ground.guard }], guard := some (19, true) }
abbrev oU_23 : Oper := { dst := some 145, op := Go.Op.pick (Go.Operand.tmp 141) (Go.Operand.tmp 144) (Go.Operand.const (Go.Value.bool false)), type := 4, pos := "law.go:50", after := #[{ on := 19, ground := Go.Ground.data }, { on := 22, ground := Go.Ground.data }], guard := none }
abbrev oU_24 : Oper := { dst := some 146, op := Go.Op.move (Go.Operand.tmp 145), type := 4, pos := "law.go:50", after := #[{ on := 23, ground := Go.Ground.data }, { on := 19, ground := Go.Ground.chain }], guard := none }
abbrev oU_25 : Oper := { dst := some 147, op := Go.Op.load 26 (Go.Operand.tmp 11), type := 26, pos := "law.go:50", after := #[{ on := 24, ground := Go.Ground.guard }], guard := some (24, true) }
abbrev oU_26 : Oper := { dst := some 148, op := Go.Op.load 26 (Go.Operand.tmp 19), type := 26, pos := "law.go:50", after := #[{ on := 24, ground := Go.Ground.guard }], guard := some (24, true) }
abbrev oU_27 : Oper := { dst := some 149, op := Go.Op.binOp Go.BinOp.eql 26 (Go.Operand.tmp 147) (Go.Operand.tmp 148) 26, type := 4, pos := "law.go:50", after := #[{ on := 25, ground := Go.Ground.data }, { on := 26, ground := Go.Ground.data }, { on := 24, ground := Go.Ground.guard }], guard := some (24, true) }
abbrev oU_28 : Oper := { dst := some 150, op := Go.Op.pick (Go.Operand.tmp 146) (Go.Operand.tmp 149) (Go.Operand.const (Go.Value.bool false)), type := 4, pos := "law.go:50", after := #[{ on := 24, ground := Go.Ground.data }, { on := 27, ground := Go.Ground.data }], guard := none }
abbrev oU_29 : Oper := { dst := some 151, op := Go.Op.move (Go.Operand.tmp 150), type := 4, pos := "law.go:50", after := #[{ on := 28, ground := Go.Ground.data }, { on := 24, ground := Go.Ground.chain }], guard := none }
abbrev oU_30 : Oper := { dst := some 152, op := Go.Op.move (Go.Operand.tmp 12), type := 4, pos := "law.go:50", after := #[{ on := 29, ground := Go.Ground.guard }], guard := some (29, true) }
abbrev oU_31 : Oper := { dst := some 153, op := Go.Op.move (Go.Operand.tmp 20), type := 4, pos := "law.go:50", after := #[{ on := 29, ground := Go.Ground.guard }], guard := some (29, true) }
abbrev oU_32 : Oper := { dst := some 154, op := Go.Op.binOp Go.BinOp.eql 4 (Go.Operand.tmp 152) (Go.Operand.tmp 153) 4, type := 4, pos := "law.go:50", after := #[{ on := 30, ground := Go.Ground.data }, { on := 31, ground := Go.Ground.data }, { on := 29, ground := Go.Ground.guard }], guard := some (29, true) }
abbrev oU_33 : Oper := { dst := some 155, op := Go.Op.pick (Go.Operand.tmp 151) (Go.Operand.tmp 154) (Go.Operand.const (Go.Value.bool false)), type := 4, pos := "law.go:50", after := #[{ on := 29, ground := Go.Ground.data }, { on := 32, ground := Go.Ground.data }], guard := none }
abbrev oU_34 : Oper := { dst := some 156, op := Go.Op.move (Go.Operand.tmp 155), type := 4, pos := "law.go:50", after := #[{ on := 33, ground := Go.Ground.data }, { on := 29, ground := Go.Ground.chain }], guard := none }
abbrev oU_35 : Oper := { dst := some 157, op := Go.Op.load 26 (Go.Operand.tmp 13), type := 26, pos := "law.go:50", after := #[{ on := 34, ground := Go.Ground.guard }], guard := some (34, true) }
abbrev oU_36 : Oper := { dst := some 158, op := Go.Op.load 26 (Go.Operand.tmp 21), type := 26, pos := "law.go:50", after := #[{ on := 34, ground := Go.Ground.guard }], guard := some (34, true) }
abbrev oU_37 : Oper := { dst := some 159, op := Go.Op.binOp Go.BinOp.eql 26 (Go.Operand.tmp 157) (Go.Operand.tmp 158) 26, type := 4, pos := "law.go:50", after := #[{ on := 35, ground := Go.Ground.data }, { on := 36, ground := Go.Ground.data }, { on := 34, ground := Go.Ground.guard }], guard := some (34, true) }
abbrev oU_38 : Oper := { dst := some 160, op := Go.Op.pick (Go.Operand.tmp 156) (Go.Operand.tmp 159) (Go.Operand.const (Go.Value.bool false)), type := 4, pos := "law.go:50", after := #[{ on := 34, ground := Go.Ground.data }, { on := 37, ground := Go.Ground.data }], guard := none }
abbrev oU_39 : Oper := { dst := some 161, op := Go.Op.move (Go.Operand.tmp 160), type := 4, pos := "law.go:50", after := #[{ on := 38, ground := Go.Ground.data }, { on := 34, ground := Go.Ground.chain }], guard := none }
abbrev oU_40 : Oper := { dst := some 162, op := Go.Op.move (Go.Operand.tmp 14), type := 4, pos := "law.go:50", after := #[{ on := 39, ground := Go.Ground.guard }], guard := some (39, true) }
abbrev oU_41 : Oper := { dst := some 163, op := Go.Op.move (Go.Operand.tmp 22), type := 4, pos := "law.go:50", after := #[{ on := 39, ground := Go.Ground.guard }], guard := some (39, true) }
abbrev oU_42 : Oper := { dst := some 164, op := Go.Op.binOp Go.BinOp.eql 4 (Go.Operand.tmp 162) (Go.Operand.tmp 163) 4, type := 4, pos := "law.go:50", after := #[{ on := 40, ground := Go.Ground.data }, { on := 41, ground := Go.Ground.data }, { on := 39, ground := Go.Ground.guard }], guard := some (39, true) }
abbrev oU_43 : Oper := { dst := some 165, op := Go.Op.pick (Go.Operand.tmp 161) (Go.Operand.tmp 164) (Go.Operand.const (Go.Value.bool false)), type := 4, pos := "law.go:50", after := #[{ on := 39, ground := Go.Ground.data }, { on := 42, ground := Go.Ground.data }], guard := none }
abbrev oU_44 : Oper := { dst := some 166, op := Go.Op.move (Go.Operand.tmp 165), type := 4, pos := "law.go:50", after := #[{ on := 43, ground := Go.Ground.data }, { on := 39, ground := Go.Ground.chain }], guard := none }
abbrev oU_45 : Oper := { dst := some 167, op := Go.Op.load 26 (Go.Operand.tmp 15), type := 26, pos := "law.go:50", after := #[{ on := 44, ground := Go.Ground.guard }], guard := some (44, true) }
abbrev oU_46 : Oper := { dst := some 168, op := Go.Op.load 26 (Go.Operand.tmp 23), type := 26, pos := "law.go:50", after := #[{ on := 44, ground := Go.Ground.guard }], guard := some (44, true) }
abbrev oU_47 : Oper := { dst := some 169, op := Go.Op.binOp Go.BinOp.eql 26 (Go.Operand.tmp 167) (Go.Operand.tmp 168) 26, type := 4, pos := "law.go:50", after := #[{ on := 45, ground := Go.Ground.data }, { on := 46, ground := Go.Ground.data }, { on := 44, ground := Go.Ground.guard }], guard := some (44, true) }
abbrev oU_48 : Oper := { dst := some 170, op := Go.Op.pick (Go.Operand.tmp 166) (Go.Operand.tmp 169) (Go.Operand.const (Go.Value.bool false)), type := 4, pos := "law.go:50", after := #[{ on := 44, ground := Go.Ground.data }, { on := 47, ground := Go.Ground.data }], guard := none }
abbrev oU_49 : Oper := { dst := some 171, op := Go.Op.move (Go.Operand.tmp 170), type := 4, pos := "law.go:50", after := #[{ on := 48, ground := Go.Ground.data }, { on := 44, ground := Go.Ground.chain }], guard := none }
abbrev oU_50 : Oper := { dst := some 172, op := Go.Op.move (Go.Operand.tmp 16), type := 4, pos := "law.go:50", after := #[{ on := 49, ground := Go.Ground.guard }], guard := some (49, true) }
abbrev oU_51 : Oper := { dst := some 173, op := Go.Op.move (Go.Operand.tmp 24), type := 4, pos := "law.go:50", after := #[{ on := 49, ground := Go.Ground.guard }], guard := some (49, true) }
abbrev oU_52 : Oper := { dst := some 174, op := Go.Op.binOp Go.BinOp.eql 4 (Go.Operand.tmp 172) (Go.Operand.tmp 173) 4, type := 4, pos := "law.go:50", after := #[{ on := 50, ground := Go.Ground.data }, { on := 51, ground := Go.Ground.data }, { on := 49, ground := Go.Ground.guard }], guard := some (49, true) }
abbrev oU_53 : Oper := { dst := some 175, op := Go.Op.pick (Go.Operand.tmp 171) (Go.Operand.tmp 174) (Go.Operand.const (Go.Value.bool false)), type := 4, pos := "law.go:50", after := #[{ on := 49, ground := Go.Ground.data }, { on := 52, ground := Go.Ground.data }], guard := none }
abbrev oU_54 : Oper := { dst := some 6, op := Go.Op.assign (Go.Operand.tmp 175), type := 4, pos := "law.go:50", after := #[{ on := 53, ground := Go.Ground.data }, { on := 49, ground := Go.Ground.chain }, { on := 0, ground := Go.Ground.phase }, { on := 1, ground := Go.Ground.phase }, { on := 2, ground := Go.Ground.phase }, { on := 3, ground := Go.Ground.phase }, { on := 4, ground := Go.Ground.phase }, { on := 5, ground := Go.Ground.phase }, { on := 6, ground := Go.Ground.phase }, { on := 7, ground := Go.Ground.phase }, { on := 8, ground := Go.Ground.phase }, { on := 9, ground := Go.Ground.phase }, { on := 10, ground := Go.Ground.phase }, { on := 11, ground := Go.Ground.phase }, { on := 12, ground := Go.Ground.phase }, { on := 13, ground := Go.Ground.phase }, { on := 14, ground := Go.Ground.phase }, { on := 15, ground := Go.Ground.phase }, { on := 16, ground := Go.Ground.phase }, { on := 17, ground := Go.Ground.phase }, { on := 18, ground := Go.Ground.phase }, { on := 19, ground := Go.Ground.phase }, { on := 20, ground := Go.Ground.phase }, { on := 21, ground := Go.Ground.phase }, { on := 22, ground := Go.Ground.phase }, { on := 23, ground := Go.Ground.phase }, { on := 24, ground := Go.Ground.phase }, { on := 25, ground := Go.Ground.phase }, { on := 26, ground := Go.Ground.phase }, { on := 27, ground := Go.Ground.phase }, { on := 28, ground := Go.Ground.phase }, { on := 29, ground := Go.Ground.phase }, { on := 30, ground := Go.Ground.phase }, { on := 31, ground := Go.Ground.phase }, { on := 32, ground := Go.Ground.phase }, { on := 33, ground := Go.Ground.phase }, { on := 34, ground := Go.Ground.phase }, { on := 35, ground := Go.Ground.phase }, { on := 36, ground := Go.Ground.phase }, { on := 37, ground := Go.Ground.phase }, { on := 38, ground := Go.Ground.phase }, { on := 39, ground := Go.Ground.phase }, { on := 40, ground := Go.Ground.phase }, { on := 41, ground := Go.Ground.phase }, { on := 42, ground := Go.Ground.phase }, { on := 43, ground := Go.Ground.phase }, { on := 44, ground := Go.Ground.phase }, { on := 45, ground := Go.Ground.phase }, { on := 46, ground := Go.Ground.phase }, { on := 47, ground := Go.Ground.phase }, { on := 48, ground := Go.Ground.phase }, { on := 49, ground := Go.Ground.phase }, { on := 50, ground := Go.Ground.phase }, { on := 51, ground := Go.Ground.phase }, { on := 52, ground := Go.Ground.phase }, { on := 53, ground := Go.Ground.phase }], guard := none }
set_option maxHeartbeats 8000000 in
theorem walk (c : CfN) (p : Option Addr) (cap : Nat) (m : MbN) (nd : Int) (w : World) (t : Chn w p c.l) (hc : c.l.length ≤ cap) (hl : c.l.length ≤ 9223372036854775807) (w0 : (Lit.int .i64 nd).wf = true) :
    Calls Try.prog 3 #[cfV c p cap, mbV m, .int .i64 nd] w fun e w' => e = .returned (.bool true) ∧ Below w.heap.size w w' := by
  obtain ⟨e0, l⟩ := c
  obtain ⟨m0, m1⟩ := m
  have x := Lib.hid (Bt.new w e0 p l.length cap m0 m1)
  have haw := Lib.hid (fun W => awake_any W)
  have hfw : Hid (∀ W g, Blk W g #[.int .i64 e0, .slice p l.length cap] 24 → Calls Try.prog 11 #[.slice (some ⟨g, 0, none⟩) 1 1] W fun e w' => e = .returned (.bool (decide (l.length ≤ 40))) ∧ Below W.heap.size W w') := fun W g k => by
    have h := few_any g [(e0, p, l.length, cap)] W (cfs_one k) (by simp)
    have e : fewN [(e0, p, l.length, cap)] = decide (l.length ≤ 40) := by simp [fewN]
    rw [e] at h
    exact h
  replace t := Lib.hid t
  replace hc := Lib.hid hc
  replace hl := Lib.hid hl
  replace w0 := Lib.hid w0
  go_enter Try.func3, Try.ntmps3
  go_wp2_with fail
  refine (haw.out _).mono ?_
  rintro e w2 ⟨rfl, b2⟩
  replace x := Lib.hid (x.out.below b2)
  clear b2
  have y0 := x.out.k.cell 0
  have y1 := x.out.k.cell 1
  try dsimp only at y0 y1
  have kf := Blk.new w2 #[.int .i64 e0, .slice p l.length cap] 24
  replace x := Lib.hid (x.out.alloc (.cells #[.int .i64 e0, .slice p l.length cap] 24))
  have hfx := Lib.hid (hfw.out _ _ kf)
  clear kf hfw
  go_wp2_with fail
  refine hfx.out.mono ?_
  rintro e w3 ⟨rfl, b3⟩
  replace x := Lib.hid (x.out.below b3)
  clear b3 y0 y1 hfx
  by_cases h40 : l.length ≤ 40
  · rw [decide_eq_true h40]
    have hlI : (l.length : Int) ≤ 40 := by omega
    have hfi := Lib.hid (first_any nd w3)
    go_wp2_with fail
    refine hfi.out.mono ?_
    rintro e w4 ⟨⟨p1, n1, rfl, t1, h1⟩, b4⟩
    replace x := Lib.hid (x.out.below b4)
    obtain ⟨F, hF⟩ : ∃ F, (if 1 ≤ nd ∧ nd ≤ 8 then (firstN nd.toNat, (0 : Int)) else (zeroN, 1)) = F := ⟨_, rfl⟩
    rw [hF] at t1 h1
    rw [hF]
    obtain ⟨f, er⟩ := F
    have x2 := Lib.hid (x.out.alloc (.cells #[.int .i64 f.epoch, .slice p1 f.l.length n1] 24))
    have k2 := Lib.hid (Blk.new w4 #[.int .i64 f.epoch, .slice p1 f.l.length n1] 24)
    have t2 := Lib.hid (t1.alloc (.cells #[.int .i64 f.epoch, .slice p1 f.l.length n1] 24))
    clear x t1 b4 hfi
    go_upto_region 4 with fail
    generalize w4.alloc _ = w5 at *
    generalize w4.heap.size = q7 at *
    go_cut [73] (fun v wx => v = .bool false ∧ Hid (Bt w e0 p l.length cap m0 m1 wx))
    case first =>
      have x4 := Lib.hid (x2.out.below (Below.refl _ _).drew)
      by_cases hn1 : nd < 1
      · have hn2 : ¬ 1 ≤ nd := by omega
        rw [if_neg (by omega)] at hF
        injection hF with hF1 hF2
        subst hF1 hF2
        have k4 : Hid (Blk w5.drew q7 #[.int .i64 0, .slice p1 0 n1] 24) := k2.out.below (Below.refl _ _).drew
        have hS4 : Hid (∀ W, Blk W q7 #[.int .i64 0, .slice p1 0 n1] 24 → W.cell? ⟨q7, 0, none⟩ = some (.int .i64 0) ∧ W.cell? ⟨q7, 1, none⟩ = some (.slice p1 0 n1)) := fun W h => ⟨h.cell 0, h.cell 1⟩
        have hcA := hS4.out _ k4.out
        clear h40 hlI
        refine wp_region_noPanic ?_
        refine wp_region_held_drew (S := (fun W => W.cell? ⟨q7, 0, none⟩ = some (.int .i64 0) ∧ W.cell? ⟨q7, 1, none⟩ = some (.slice p1 0 n1))) (by kernel_rfl) ?hSboT_0 (fun hHeld => ?_)
        case hSboT_0 => ((try dsimp only); exact hcA)
        refine wpAnyH_take (i := 0) (oi := oT_0) (v := ?vboT_1) rfl (by kernel_rfl) (by kernel_rfl) (by kernel_rfl) (fun _ _ _ h => h) (Or.inl ⟨by rfl, ?yboT_1⟩) (by assumption) ?rboT_1
        case yboT_1 => (intro w hSw; (try dsimp only at hSw); unfold oT_0; go_simp; try with_reducible rfl)
        simp only [oT_0, Act.put, List.setIfInBounds_toArray, List.set_cons_zero, List.set_cons_succ]
        refine wpAnyH_take (i := 1) (oi := oT_1) (v := ?vboT_2) rfl (by kernel_rfl) (by kernel_rfl) (by kernel_rfl) (fun _ _ _ h => h) (Or.inl ⟨by rfl, ?yboT_2⟩) (by assumption) ?rboT_2
        case yboT_2 => (intro w hSw; (try dsimp only at hSw); unfold oT_1; go_simp; try with_reducible rfl)
        simp only [oT_1, Act.put, List.setIfInBounds_toArray, List.set_cons_zero, List.set_cons_succ]
        refine wpAnyH_take (i := 2) (oi := oT_2) (v := ?vboT_3) rfl (by kernel_rfl) (by kernel_rfl) (by kernel_rfl) (fun _ _ _ h => h) (Or.inl ⟨by rfl, ?yboT_3⟩) (by assumption) ?rboT_3
        case yboT_3 => (intro w hSw; (try dsimp only at hSw); unfold oT_2; go_simp; try with_reducible rfl)
        simp only [oT_2, Act.put, List.setIfInBounds_toArray, List.set_cons_zero, List.set_cons_succ]
        refine wpAnyH_take (i := 3) (oi := oT_3) (v := undef) rfl (by kernel_rfl) (by kernel_rfl) (by kernel_rfl) (fun _ _ _ h => h) (Or.inr ⟨by rfl, rfl⟩) (by assumption) ?_
        simp only [oT_3, Act.put, List.setIfInBounds_toArray, List.set_cons_zero, List.set_cons_succ]
        refine wpAnyH_take (i := 4) (oi := oT_4) (v := undef) rfl (by kernel_rfl) (by kernel_rfl) (by kernel_rfl) (fun _ _ _ h => h) (Or.inr ⟨by rfl, rfl⟩) (by assumption) ?_
        simp only [oT_4, Act.put, List.setIfInBounds_toArray, List.set_cons_zero, List.set_cons_succ]
        refine wpAnyH_take (i := 5) (oi := oT_5) (v := ?vboT_6) rfl (by kernel_rfl) (by kernel_rfl) (by kernel_rfl) (fun _ _ _ h => h) (Or.inl ⟨by rfl, ?yboT_6⟩) (by assumption) ?rboT_6
        case yboT_6 => (intro w hSw; (try dsimp only at hSw); unfold oT_5; go_simp; try with_reducible rfl)
        simp only [oT_5, Act.put, List.setIfInBounds_toArray, List.set_cons_zero, List.set_cons_succ]
        refine wpAnyH_take (i := 6) (oi := oT_6) (v := ?vboT_7) rfl (by kernel_rfl) (by kernel_rfl) (by kernel_rfl) (fun _ _ _ h => h) (Or.inl ⟨by rfl, ?yboT_7⟩) (by assumption) ?rboT_7
        case yboT_7 => (intro w hSw; (try dsimp only at hSw); unfold oT_6; go_simp; try with_reducible rfl)
        simp only [oT_6, Act.put, List.setIfInBounds_toArray, List.set_cons_zero, List.set_cons_succ]
        refine wpAnyH_take (i := 7) (oi := oT_7) (v := undef) rfl (by kernel_rfl) (by kernel_rfl) (by kernel_rfl) (fun _ _ _ h => h) (Or.inr ⟨by rfl, rfl⟩) (by assumption) ?_
        simp only [oT_7, Act.put, List.setIfInBounds_toArray, List.set_cons_zero, List.set_cons_succ]
        refine wpAnyH_take (i := 8) (oi := oT_8) (v := undef) rfl (by kernel_rfl) (by kernel_rfl) (by kernel_rfl) (fun _ _ _ h => h) (Or.inr ⟨by rfl, rfl⟩) (by assumption) ?_
        simp only [oT_8, Act.put, List.setIfInBounds_toArray, List.set_cons_zero, List.set_cons_succ]
        refine wpAnyH_take (i := 9) (oi := oT_9) (v := undef) rfl (by kernel_rfl) (by kernel_rfl) (by kernel_rfl) (fun _ _ _ h => h) (Or.inr ⟨by rfl, rfl⟩) (by assumption) ?_
        simp only [oT_9, Act.put, List.setIfInBounds_toArray, List.set_cons_zero, List.set_cons_succ]
        refine wpAnyH_take (i := 10) (oi := oT_10) (v := undef) rfl (by kernel_rfl) (by kernel_rfl) (by kernel_rfl) (fun _ _ _ h => h) (Or.inr ⟨by rfl, rfl⟩) (by assumption) ?_
        simp only [oT_10, Act.put, List.setIfInBounds_toArray, List.set_cons_zero, List.set_cons_succ]
        refine wpAnyH_take (i := 11) (oi := oT_11) (v := undef) rfl (by kernel_rfl) (by kernel_rfl) (by kernel_rfl) (fun _ _ _ h => h) (Or.inr ⟨by rfl, rfl⟩) (by assumption) ?_
        simp only [oT_11, Act.put, List.setIfInBounds_toArray, List.set_cons_zero, List.set_cons_succ]
        refine wpAnyH_take (i := 12) (oi := oT_12) (v := undef) rfl (by kernel_rfl) (by kernel_rfl) (by kernel_rfl) (fun _ _ _ h => h) (Or.inr ⟨by rfl, rfl⟩) (by assumption) ?_
        simp only [oT_12, Act.put, List.setIfInBounds_toArray, List.set_cons_zero, List.set_cons_succ]
        refine wpAnyH_take (i := 13) (oi := oT_13) (v := undef) rfl (by kernel_rfl) (by kernel_rfl) (by kernel_rfl) (fun _ _ _ h => h) (Or.inr ⟨by rfl, rfl⟩) (by assumption) ?_
        simp only [oT_13, Act.put, List.setIfInBounds_toArray, List.set_cons_zero, List.set_cons_succ]
        refine wpAnyH_take (i := 14) (oi := oT_14) (v := undef) rfl (by kernel_rfl) (by kernel_rfl) (by kernel_rfl) (fun _ _ _ h => h) (Or.inr ⟨by rfl, rfl⟩) (by assumption) ?_
        simp only [oT_14, Act.put, List.setIfInBounds_toArray, List.set_cons_zero, List.set_cons_succ]
        refine wpAnyH_take (i := 15) (oi := oT_15) (v := undef) rfl (by kernel_rfl) (by kernel_rfl) (by kernel_rfl) (fun _ _ _ h => h) (Or.inr ⟨by rfl, rfl⟩) (by assumption) ?_
        simp only [oT_15, Act.put, List.setIfInBounds_toArray, List.set_cons_zero, List.set_cons_succ]
        refine wpAnyH_take (i := 16) (oi := oT_16) (v := ?vboT_17) rfl (by kernel_rfl) (by kernel_rfl) (by kernel_rfl) (fun _ _ _ h => h) (Or.inl ⟨by rfl, ?yboT_17⟩) (by assumption) ?rboT_17
        case yboT_17 => (intro w hSw; (try dsimp only at hSw); unfold oT_16; go_simp; try with_reducible rfl)
        simp only [oT_16, Act.put, List.setIfInBounds_toArray, List.set_cons_zero, List.set_cons_succ]
        refine wpAnyH_take (i := 17) (oi := oT_17) (v := ?vboT_18) rfl (by kernel_rfl) (by kernel_rfl) (by kernel_rfl) (fun _ _ _ h => h) (Or.inl ⟨by rfl, ?yboT_18⟩) (by assumption) ?rboT_18
        case yboT_18 => (intro w hSw; (try dsimp only at hSw); unfold oT_17; go_simp; try with_reducible rfl)
        simp only [oT_17, Act.put, List.setIfInBounds_toArray, List.set_cons_zero, List.set_cons_succ]
        refine wpAnyH_take (i := 18) (oi := oT_18) (v := ?vboT_19) rfl (by kernel_rfl) (by kernel_rfl) (by kernel_rfl) (fun _ _ _ h => h) (Or.inl ⟨by rfl, ?yboT_19⟩) (by assumption) ?rboT_19
        case yboT_19 => (intro w hSw; (try dsimp only at hSw); unfold oT_18; go_simp; try with_reducible rfl)
        simp only [oT_18, Act.put, List.setIfInBounds_toArray, List.set_cons_zero, List.set_cons_succ]
        refine wpAnyH_take (i := 19) (oi := oT_19) (v := ?vboT_20) rfl (by kernel_rfl) (by kernel_rfl) (by kernel_rfl) (fun _ _ _ h => h) (Or.inl ⟨by rfl, ?yboT_20⟩) (by assumption) ?rboT_20
        case yboT_20 => (intro w hSw; (try dsimp only at hSw); unfold oT_19; go_simp; try with_reducible rfl)
        simp only [oT_19, Act.put, List.setIfInBounds_toArray, List.set_cons_zero, List.set_cons_succ]
        refine wpAnyH_take (i := 20) (oi := oT_20) (v := ?vboT_21) rfl (by kernel_rfl) (by kernel_rfl) (by kernel_rfl) (fun _ _ _ h => h) (Or.inl ⟨by rfl, ?yboT_21⟩) (by assumption) ?rboT_21
        case yboT_21 => (intro w hSw; (try dsimp only at hSw); unfold oT_20; go_simp; try with_reducible rfl)
        simp only [oT_20, Act.put, List.setIfInBounds_toArray, List.set_cons_zero, List.set_cons_succ]
        refine wpAnyH_take (i := 21) (oi := oT_21) (v := undef) rfl (by kernel_rfl) (by kernel_rfl) (by kernel_rfl) (fun _ _ _ h => h) (Or.inr ⟨by rfl, rfl⟩) (by assumption) ?_
        simp only [oT_21, Act.put, List.setIfInBounds_toArray, List.set_cons_zero, List.set_cons_succ]
        refine wpAnyH_take (i := 22) (oi := oT_22) (v := undef) rfl (by kernel_rfl) (by kernel_rfl) (by kernel_rfl) (fun _ _ _ h => h) (Or.inr ⟨by rfl, rfl⟩) (by assumption) ?_
        simp only [oT_22, Act.put, List.setIfInBounds_toArray, List.set_cons_zero, List.set_cons_succ]
        refine wpAnyH_take (i := 23) (oi := oT_23) (v := ?vboT_24) rfl (by kernel_rfl) (by kernel_rfl) (by kernel_rfl) (fun _ _ _ h => h) (Or.inl ⟨by rfl, ?yboT_24⟩) (by assumption) ?rboT_24
        case yboT_24 => (intro w hSw; (try dsimp only at hSw); unfold oT_23; go_simp; try with_reducible rfl)
        simp only [oT_23, Act.put, List.setIfInBounds_toArray, List.set_cons_zero, List.set_cons_succ]
        refine wpAnyH_take (i := 24) (oi := oT_24) (v := ?vboT_25) rfl (by kernel_rfl) (by kernel_rfl) (by kernel_rfl) (fun _ _ _ h => h) (Or.inl ⟨by rfl, ?yboT_25⟩) (by assumption) ?rboT_25
        case yboT_25 => (intro w hSw; (try dsimp only at hSw); unfold oT_24; go_simp; try with_reducible rfl)
        simp only [oT_24, Act.put, List.setIfInBounds_toArray, List.set_cons_zero, List.set_cons_succ]
        refine wpAnyH_take (i := 25) (oi := oT_25) (v := ?vboT_26) rfl (by kernel_rfl) (by kernel_rfl) (by kernel_rfl) (fun _ _ _ h => h) (Or.inl ⟨by rfl, ?yboT_26⟩) (by assumption) ?rboT_26
        case yboT_26 => (intro w hSw; (try dsimp only at hSw); unfold oT_25; go_simp; try with_reducible rfl)
        simp only [oT_25, Act.put, List.setIfInBounds_toArray, List.set_cons_zero, List.set_cons_succ]
        refine wpAnyH_take (i := 26) (oi := oT_26) (v := ?vboT_27) rfl (by kernel_rfl) (by kernel_rfl) (by kernel_rfl) (fun _ _ _ h => h) (Or.inl ⟨by rfl, ?yboT_27⟩) (by assumption) ?rboT_27
        case yboT_27 => (intro w hSw; (try dsimp only at hSw); unfold oT_26; go_simp; try with_reducible rfl)
        simp only [oT_26, Act.put, List.setIfInBounds_toArray, List.set_cons_zero, List.set_cons_succ]
        refine wpAnyH_take (i := 27) (oi := oT_27) (v := ?vboT_28) rfl (by kernel_rfl) (by kernel_rfl) (by kernel_rfl) (fun _ _ _ h => h) (Or.inl ⟨by rfl, ?yboT_28⟩) (by assumption) ?rboT_28
        case yboT_28 => (intro w hSw; (try dsimp only at hSw); unfold oT_27; go_simp; try with_reducible rfl)
        simp only [oT_27, Act.put, List.setIfInBounds_toArray, List.set_cons_zero, List.set_cons_succ]
        refine wpAnyH_take (i := 28) (oi := oT_28) (v := ?vboT_29) rfl (by kernel_rfl) (by kernel_rfl) (by kernel_rfl) (fun _ _ _ h => h) (Or.inl ⟨by rfl, ?yboT_29⟩) (by assumption) ?rboT_29
        case yboT_29 => (intro w hSw; (try dsimp only at hSw); unfold oT_28; go_simp; try with_reducible rfl)
        simp only [oT_28, Act.put, List.setIfInBounds_toArray, List.set_cons_zero, List.set_cons_succ]
        refine wpAnyH_take (i := 29) (oi := oT_29) (v := ?vboT_30) rfl (by kernel_rfl) (by kernel_rfl) (by kernel_rfl) (fun _ _ _ h => h) (Or.inl ⟨by rfl, ?yboT_30⟩) (by assumption) ?rboT_30
        case yboT_30 => (intro w hSw; (try dsimp only at hSw); unfold oT_29; go_simp; try with_reducible rfl)
        simp only [oT_29, Act.put, List.setIfInBounds_toArray, List.set_cons_zero, List.set_cons_succ]
        refine wpAnyH_take (i := 30) (oi := oT_30) (v := ?vboT_31) rfl (by kernel_rfl) (by kernel_rfl) (by kernel_rfl) (fun _ _ _ h => h) (Or.inl ⟨by rfl, ?yboT_31⟩) (by assumption) ?rboT_31
        case yboT_31 => (intro w hSw; (try dsimp only at hSw); unfold oT_30; go_simp; try with_reducible rfl)
        simp only [oT_30, Act.put, List.setIfInBounds_toArray, List.set_cons_zero, List.set_cons_succ]
        refine wpAnyH_take (i := 31) (oi := oT_31) (v := ?vboT_32) rfl (by kernel_rfl) (by kernel_rfl) (by kernel_rfl) (fun _ _ _ h => h) (Or.inl ⟨by rfl, ?yboT_32⟩) (by assumption) ?rboT_32
        case yboT_32 => (intro w hSw; (try dsimp only at hSw); unfold oT_31; go_simp; try with_reducible rfl)
        simp only [oT_31, Act.put, List.setIfInBounds_toArray, List.set_cons_zero, List.set_cons_succ]
        refine wpAnyH_take (i := 32) (oi := oT_32) (v := ?vboT_33) rfl (by kernel_rfl) (by kernel_rfl) (by kernel_rfl) (fun _ _ _ h => h) (Or.inl ⟨by rfl, ?yboT_33⟩) (by assumption) ?rboT_33
        case yboT_33 => (intro w hSw; (try dsimp only at hSw); unfold oT_32; go_simp; try with_reducible rfl)
        simp only [oT_32, Act.put, List.setIfInBounds_toArray, List.set_cons_zero, List.set_cons_succ]
        refine wpAnyH_take (i := 33) (oi := oT_33) (v := ?vboT_34) rfl (by kernel_rfl) (by kernel_rfl) (by kernel_rfl) (fun _ _ _ h => h) (Or.inl ⟨by rfl, ?yboT_34⟩) (by assumption) ?rboT_34
        case yboT_34 => (intro w hSw; (try dsimp only at hSw); unfold oT_33; go_simp; try with_reducible rfl)
        simp only [oT_33, Act.put, List.setIfInBounds_toArray, List.set_cons_zero, List.set_cons_succ]
        refine wpAnyH_take (i := 34) (oi := oT_34) (v := ?vboT_35) rfl (by kernel_rfl) (by kernel_rfl) (by kernel_rfl) (fun _ _ _ h => h) (Or.inl ⟨by rfl, ?yboT_35⟩) (by assumption) ?rboT_35
        case yboT_35 => (intro w hSw; (try dsimp only at hSw); unfold oT_34; go_simp; try with_reducible rfl)
        simp only [oT_34, Act.put, List.setIfInBounds_toArray, List.set_cons_zero, List.set_cons_succ]
        refine wpAnyH_done (by kernel_rfl) ?_ _
        refine NoPanic.normal ?_
        clear hHeld
        go_wp2_with fail
        go_meet
        exact ⟨rfl, x4⟩
      · have hn2 : 1 ≤ nd := by omega
        by_cases hn3 : nd ≤ 8
        · have hn4 : ¬ 8 < nd := by omega
          have hK : ((nd.toNat : Nat) : Int) = nd := by omega
          have hK8 : nd.toNat ≤ 8 := by omega
          rw [if_pos ⟨hn2, hn3⟩] at hF
          injection hF with hF1 hF2
          subst hF1 hF2
          rw [firstN_len] at k2
          have k4 : Hid (Blk w5.drew q7 #[.int .i64 1, .slice p1 nd.toNat n1] 24) := k2.out.below (Below.refl _ _).drew
          have t4 := Lib.hid (t2.out.below (Below.refl _ _).drew)
          have hS4 : Hid (∀ W, Blk W q7 #[.int .i64 1, .slice p1 nd.toNat n1] 24 → W.cell? ⟨q7, 0, none⟩ = some (.int .i64 1) ∧ W.cell? ⟨q7, 1, none⟩ = some (.slice p1 nd.toNat n1)) := fun W h => ⟨h.cell 0, h.cell 1⟩
          have hcA := hS4.out _ k4.out
          have hrf : Hid (∀ W, Calls Try.prog 14 #[.int .i64 nd] W fun e w' => (∃ p cap, e = .returned (.agg #[.int .i64 1, .slice p nd.toNat cap]) ∧ Chn w' p (firstN nd.toNat).l ∧ nd.toNat ≤ cap) ∧ Below W.heap.size W w') := fun W => by
            have h := refFirst_any nd.toNat W hK8
            rw [hK] at h
            refine h.mono ?_
            rintro e w' ⟨⟨p', c', h1, h2, h3⟩, h4⟩
            rw [firstN_len] at h1 h3
            exact ⟨⟨p', c', h1, h2, h3⟩, h4⟩
          have hsm : Hid (∀ pa na pb nb W, Chn W pa (firstN nd.toNat).l → Chn W pb (firstN nd.toNat).l → Calls Try.prog 13 #[.agg #[.int .i64 1, .slice pa nd.toNat na], .agg #[.int .i64 1, .slice pb nd.toNat nb]] W fun e w' => e = .returned (.bool true) ∧ Below W.heap.size W w') := fun pa na pb nb W h1 h2 => by
            have h := same_any (firstN nd.toNat) (firstN nd.toNat) pa pb na nb W h1 h2 (by rw [firstN_len]; omega) (by rw [firstN_len]; omega)
            rw [decide_eq_true rfl] at h
            unfold cfV cfC at h
            rw [firstN_len] at h
            exact h
          clear h40 hlI hK hK8 h1
          refine wp_region_noPanic ?_
          refine wp_region_held_drew (S := (fun W => W.cell? ⟨q7, 0, none⟩ = some (.int .i64 1) ∧ W.cell? ⟨q7, 1, none⟩ = some (.slice p1 nd.toNat n1))) (by kernel_rfl) ?hSaoT_0 (fun hHeld => ?_)
          case hSaoT_0 => ((try dsimp only); exact hcA)
          refine wpAnyH_take (i := 0) (oi := oT_0) (v := ?vaoT_1) rfl (by kernel_rfl) (by kernel_rfl) (by kernel_rfl) (fun _ _ _ h => h) (Or.inl ⟨by rfl, ?yaoT_1⟩) (by assumption) ?raoT_1
          case yaoT_1 => (intro w hSw; (try dsimp only at hSw); unfold oT_0; go_simp; try with_reducible rfl)
          simp only [oT_0, Act.put, List.setIfInBounds_toArray, List.set_cons_zero, List.set_cons_succ]
          refine wpAnyH_take (i := 1) (oi := oT_1) (v := ?vaoT_2) rfl (by kernel_rfl) (by kernel_rfl) (by kernel_rfl) (fun _ _ _ h => h) (Or.inl ⟨by rfl, ?yaoT_2⟩) (by assumption) ?raoT_2
          case yaoT_2 => (intro w hSw; (try dsimp only at hSw); unfold oT_1; go_simp; try with_reducible rfl)
          simp only [oT_1, Act.put, List.setIfInBounds_toArray, List.set_cons_zero, List.set_cons_succ]
          refine wpAnyH_take (i := 2) (oi := oT_2) (v := ?vaoT_3) rfl (by kernel_rfl) (by kernel_rfl) (by kernel_rfl) (fun _ _ _ h => h) (Or.inl ⟨by rfl, ?yaoT_3⟩) (by assumption) ?raoT_3
          case yaoT_3 => (intro w hSw; (try dsimp only at hSw); unfold oT_2; go_simp; try with_reducible rfl)
          simp only [oT_2, Act.put, List.setIfInBounds_toArray, List.set_cons_zero, List.set_cons_succ]
          refine wpAnyH_take (i := 3) (oi := oT_3) (v := ?vaoT_4) rfl (by kernel_rfl) (by kernel_rfl) (by kernel_rfl) (fun _ _ _ h => h) (Or.inl ⟨by rfl, ?yaoT_4⟩) (by assumption) ?raoT_4
          case yaoT_4 => (intro w hSw; (try dsimp only at hSw); unfold oT_3; go_simp; try with_reducible rfl)
          simp only [oT_3, Act.put, List.setIfInBounds_toArray, List.set_cons_zero, List.set_cons_succ]
          refine wpAnyH_take (i := 4) (oi := oT_4) (v := ?vaoT_5) rfl (by kernel_rfl) (by kernel_rfl) (by kernel_rfl) (fun _ _ _ h => h) (Or.inl ⟨by rfl, ?yaoT_5⟩) (by assumption) ?raoT_5
          case yaoT_5 => (intro w hSw; (try dsimp only at hSw); unfold oT_4; go_simp; try with_reducible rfl)
          simp only [oT_4, Act.put, List.setIfInBounds_toArray, List.set_cons_zero, List.set_cons_succ]
          refine wpAnyH_take (i := 5) (oi := oT_5) (v := ?vaoT_6) rfl (by kernel_rfl) (by kernel_rfl) (by kernel_rfl) (fun _ _ _ h => h) (Or.inl ⟨by rfl, ?yaoT_6⟩) (by assumption) ?raoT_6
          case yaoT_6 => (intro w hSw; (try dsimp only at hSw); unfold oT_5; go_simp; try with_reducible rfl)
          simp only [oT_5, Act.put, List.setIfInBounds_toArray, List.set_cons_zero, List.set_cons_succ]
          refine wpAnyH_take (i := 6) (oi := oT_6) (v := ?vaoT_7) rfl (by kernel_rfl) (by kernel_rfl) (by kernel_rfl) (fun _ _ _ h => h) (Or.inl ⟨by rfl, ?yaoT_7⟩) (by assumption) ?raoT_7
          case yaoT_7 => (intro w hSw; (try dsimp only at hSw); unfold oT_6; go_simp; try with_reducible rfl)
          simp only [oT_6, Act.put, List.setIfInBounds_toArray, List.set_cons_zero, List.set_cons_succ]
          refine wpAnyH_take (i := 7) (oi := oT_7) (v := ?vaoT_8) rfl (by kernel_rfl) (by kernel_rfl) (by kernel_rfl) (fun _ _ _ h => h) (Or.inl ⟨by rfl, ?yaoT_8⟩) (by assumption) ?raoT_8
          case yaoT_8 => (intro w hSw; (try dsimp only at hSw); unfold oT_7; go_simp; try with_reducible rfl)
          simp only [oT_7, Act.put, List.setIfInBounds_toArray, List.set_cons_zero, List.set_cons_succ]
          refine wpAnyH_take (i := 8) (oi := oT_8) (v := ?vaoT_9) rfl (by kernel_rfl) (by kernel_rfl) (by kernel_rfl) (fun _ _ _ h => h) (Or.inl ⟨by rfl, ?yaoT_9⟩) (by assumption) ?raoT_9
          case yaoT_9 => (intro w hSw; (try dsimp only at hSw); unfold oT_8; go_simp; try with_reducible rfl)
          simp only [oT_8, Act.put, List.setIfInBounds_toArray, List.set_cons_zero, List.set_cons_succ]
          refine wpAnyH_take (i := 9) (oi := oT_9) (v := ?vaoT_10) rfl (by kernel_rfl) (by kernel_rfl) (by kernel_rfl) (fun _ _ _ h => h) (Or.inl ⟨by rfl, ?yaoT_10⟩) (by assumption) ?raoT_10
          case yaoT_10 => (intro w hSw; (try dsimp only at hSw); unfold oT_9; go_simp; try with_reducible rfl)
          simp only [oT_9, Act.put, List.setIfInBounds_toArray, List.set_cons_zero, List.set_cons_succ]
          refine wpAnyH_take (i := 10) (oi := oT_10) (v := ?vaoT_11) rfl (by kernel_rfl) (by kernel_rfl) (by kernel_rfl) (fun _ _ _ h => h) (Or.inl ⟨by rfl, ?yaoT_11⟩) (by assumption) ?raoT_11
          case yaoT_11 => (intro w hSw; (try dsimp only at hSw); unfold oT_10; go_simp; try with_reducible rfl)
          simp only [oT_10, Act.put, List.setIfInBounds_toArray, List.set_cons_zero, List.set_cons_succ]
          refine wpAnyH_take (i := 11) (oi := oT_11) (v := ?vaoT_12) rfl (by kernel_rfl) (by kernel_rfl) (by kernel_rfl) (fun _ _ _ h => h) (Or.inl ⟨by rfl, ?yaoT_12⟩) (by assumption) ?raoT_12
          case yaoT_12 => (intro w hSw; (try dsimp only at hSw); unfold oT_11; go_simp; try with_reducible rfl)
          simp only [oT_11, Act.put, List.setIfInBounds_toArray, List.set_cons_zero, List.set_cons_succ]
          refine wpAnyH_ready (rs := [12]) (by kernel_rfl) (by simp) ?_
          refine AllReadyH.cons (o := oT_12) rfl (fun K hK => ?_) ?_
          · clear hHeld
            unfold oT_12
            go_simp
            go_at_call 14
            refine (hrf.out _).mono ?_
            rintro e wf ⟨⟨p2, n2, rfl, t2, h2⟩, bf⟩
            have x5 := Lib.hid (x4.out.below bf)
            have k5 := Lib.hid (k4.out.below bf)
            have t5 := Lib.hid (t4.out.below bf)
            replace t2 := Lib.hid t2
            have hcB := hS4.out _ k5.out
            clear bf
            dsimp only
            refine hK.out _ _ ?hSaoT_13 (fun hHeld => ?_)
            case hSaoT_13 => ((try dsimp only); exact hcB)
            clear hK K
            try simp only [Act.put, List.setIfInBounds_toArray, List.set_cons_zero, List.set_cons_succ]
            refine wpAnyH_ready (rs := [13]) (by kernel_rfl) (by simp) ?_
            refine AllReadyH.cons (o := oT_13) rfl (fun K hK => ?_) ?_
            · clear hHeld
              unfold oT_13
              go_simp
              go_at_call 13
              refine (hsm.out _ _ _ _ _ t5.out t2.out).mono ?_
              rintro e wg ⟨rfl, bg⟩
              have x6 := Lib.hid (x5.out.below bg)
              have k6 := Lib.hid (k5.out.below bg)
              have hcC := hS4.out _ k6.out
              clear bg
              dsimp only
              refine hK.out _ _ ?hSaoT_14 (fun hHeld => ?_)
              case hSaoT_14 => ((try dsimp only); exact hcC)
              clear hK K
              try simp only [Act.put, List.setIfInBounds_toArray, List.set_cons_zero, List.set_cons_succ]
              refine wpAnyH_take (i := 14) (oi := oT_14) (v := ?vaoT_15) rfl (by kernel_rfl) (by kernel_rfl) (by kernel_rfl) (fun _ _ _ h => h) (Or.inl ⟨by rfl, ?yaoT_15⟩) (by assumption) ?raoT_15
              case yaoT_15 => (intro w hSw; (try dsimp only at hSw); unfold oT_14; go_simp; try with_reducible rfl)
              simp only [oT_14, Act.put, List.setIfInBounds_toArray, List.set_cons_zero, List.set_cons_succ]
              refine wpAnyH_take (i := 15) (oi := oT_15) (v := ?vaoT_16) rfl (by kernel_rfl) (by kernel_rfl) (by kernel_rfl) (fun _ _ _ h => h) (Or.inl ⟨by rfl, ?yaoT_16⟩) (by assumption) ?raoT_16
              case yaoT_16 => (intro w hSw; (try dsimp only at hSw); unfold oT_15; go_simp; try with_reducible rfl)
              simp only [oT_15, Act.put, List.setIfInBounds_toArray, List.set_cons_zero, List.set_cons_succ]
              refine wpAnyH_take (i := 16) (oi := oT_16) (v := ?vaoT_17) rfl (by kernel_rfl) (by kernel_rfl) (by kernel_rfl) (fun _ _ _ h => h) (Or.inl ⟨by rfl, ?yaoT_17⟩) (by assumption) ?raoT_17
              case yaoT_17 => (intro w hSw; (try dsimp only at hSw); unfold oT_16; go_simp; try with_reducible rfl)
              simp only [oT_16, Act.put, List.setIfInBounds_toArray, List.set_cons_zero, List.set_cons_succ]
              refine wpAnyH_take (i := 17) (oi := oT_17) (v := ?vaoT_18) rfl (by kernel_rfl) (by kernel_rfl) (by kernel_rfl) (fun _ _ _ h => h) (Or.inl ⟨by rfl, ?yaoT_18⟩) (by assumption) ?raoT_18
              case yaoT_18 => (intro w hSw; (try dsimp only at hSw); unfold oT_17; go_simp; try with_reducible rfl)
              simp only [oT_17, Act.put, List.setIfInBounds_toArray, List.set_cons_zero, List.set_cons_succ]
              refine wpAnyH_take (i := 18) (oi := oT_18) (v := ?vaoT_19) rfl (by kernel_rfl) (by kernel_rfl) (by kernel_rfl) (fun _ _ _ h => h) (Or.inl ⟨by rfl, ?yaoT_19⟩) (by assumption) ?raoT_19
              case yaoT_19 => (intro w hSw; (try dsimp only at hSw); unfold oT_18; go_simp; try with_reducible rfl)
              simp only [oT_18, Act.put, List.setIfInBounds_toArray, List.set_cons_zero, List.set_cons_succ]
              refine wpAnyH_take (i := 19) (oi := oT_19) (v := ?vaoT_20) rfl (by kernel_rfl) (by kernel_rfl) (by kernel_rfl) (fun _ _ _ h => h) (Or.inl ⟨by rfl, ?yaoT_20⟩) (by assumption) ?raoT_20
              case yaoT_20 => (intro w hSw; (try dsimp only at hSw); unfold oT_19; go_simp; try with_reducible rfl)
              simp only [oT_19, Act.put, List.setIfInBounds_toArray, List.set_cons_zero, List.set_cons_succ]
              refine wpAnyH_take (i := 20) (oi := oT_20) (v := ?vaoT_21) rfl (by kernel_rfl) (by kernel_rfl) (by kernel_rfl) (fun _ _ _ h => h) (Or.inl ⟨by rfl, ?yaoT_21⟩) (by assumption) ?raoT_21
              case yaoT_21 => (intro w hSw; (try dsimp only at hSw); unfold oT_20; go_simp; try with_reducible rfl)
              simp only [oT_20, Act.put, List.setIfInBounds_toArray, List.set_cons_zero, List.set_cons_succ]
              refine wpAnyH_take (i := 21) (oi := oT_21) (v := ?vaoT_22) rfl (by kernel_rfl) (by kernel_rfl) (by kernel_rfl) (fun _ _ _ h => h) (Or.inl ⟨by rfl, ?yaoT_22⟩) (by assumption) ?raoT_22
              case yaoT_22 => (intro w hSw; (try dsimp only at hSw); unfold oT_21; go_simp; try with_reducible rfl)
              simp only [oT_21, Act.put, List.setIfInBounds_toArray, List.set_cons_zero, List.set_cons_succ]
              refine wpAnyH_take (i := 22) (oi := oT_22) (v := ?vaoT_23) rfl (by kernel_rfl) (by kernel_rfl) (by kernel_rfl) (fun _ _ _ h => h) (Or.inl ⟨by rfl, ?yaoT_23⟩) (by assumption) ?raoT_23
              case yaoT_23 => (intro w hSw; (try dsimp only at hSw); unfold oT_22; go_simp; try with_reducible rfl)
              simp only [oT_22, Act.put, List.setIfInBounds_toArray, List.set_cons_zero, List.set_cons_succ]
              refine wpAnyH_take (i := 23) (oi := oT_23) (v := ?vaoT_24) rfl (by kernel_rfl) (by kernel_rfl) (by kernel_rfl) (fun _ _ _ h => h) (Or.inl ⟨by rfl, ?yaoT_24⟩) (by assumption) ?raoT_24
              case yaoT_24 => (intro w hSw; (try dsimp only at hSw); unfold oT_23; go_simp; try with_reducible rfl)
              simp only [oT_23, Act.put, List.setIfInBounds_toArray, List.set_cons_zero, List.set_cons_succ]
              refine wpAnyH_take (i := 24) (oi := oT_24) (v := ?vaoT_25) rfl (by kernel_rfl) (by kernel_rfl) (by kernel_rfl) (fun _ _ _ h => h) (Or.inl ⟨by rfl, ?yaoT_25⟩) (by assumption) ?raoT_25
              case yaoT_25 => (intro w hSw; (try dsimp only at hSw); unfold oT_24; go_simp; try with_reducible rfl)
              simp only [oT_24, Act.put, List.setIfInBounds_toArray, List.set_cons_zero, List.set_cons_succ]
              refine wpAnyH_take (i := 25) (oi := oT_25) (v := undef) rfl (by kernel_rfl) (by kernel_rfl) (by kernel_rfl) (fun _ _ _ h => h) (Or.inr ⟨by rfl, rfl⟩) (by assumption) ?_
              simp only [oT_25, Act.put, List.setIfInBounds_toArray, List.set_cons_zero, List.set_cons_succ]
              refine wpAnyH_take (i := 26) (oi := oT_26) (v := undef) rfl (by kernel_rfl) (by kernel_rfl) (by kernel_rfl) (fun _ _ _ h => h) (Or.inr ⟨by rfl, rfl⟩) (by assumption) ?_
              simp only [oT_26, Act.put, List.setIfInBounds_toArray, List.set_cons_zero, List.set_cons_succ]
              refine wpAnyH_take (i := 27) (oi := oT_27) (v := undef) rfl (by kernel_rfl) (by kernel_rfl) (by kernel_rfl) (fun _ _ _ h => h) (Or.inr ⟨by rfl, rfl⟩) (by assumption) ?_
              simp only [oT_27, Act.put, List.setIfInBounds_toArray, List.set_cons_zero, List.set_cons_succ]
              refine wpAnyH_take (i := 28) (oi := oT_28) (v := undef) rfl (by kernel_rfl) (by kernel_rfl) (by kernel_rfl) (fun _ _ _ h => h) (Or.inr ⟨by rfl, rfl⟩) (by assumption) ?_
              simp only [oT_28, Act.put, List.setIfInBounds_toArray, List.set_cons_zero, List.set_cons_succ]
              refine wpAnyH_take (i := 29) (oi := oT_29) (v := undef) rfl (by kernel_rfl) (by kernel_rfl) (by kernel_rfl) (fun _ _ _ h => h) (Or.inr ⟨by rfl, rfl⟩) (by assumption) ?_
              simp only [oT_29, Act.put, List.setIfInBounds_toArray, List.set_cons_zero, List.set_cons_succ]
              refine wpAnyH_take (i := 30) (oi := oT_30) (v := undef) rfl (by kernel_rfl) (by kernel_rfl) (by kernel_rfl) (fun _ _ _ h => h) (Or.inr ⟨by rfl, rfl⟩) (by assumption) ?_
              simp only [oT_30, Act.put, List.setIfInBounds_toArray, List.set_cons_zero, List.set_cons_succ]
              refine wpAnyH_take (i := 31) (oi := oT_31) (v := undef) rfl (by kernel_rfl) (by kernel_rfl) (by kernel_rfl) (fun _ _ _ h => h) (Or.inr ⟨by rfl, rfl⟩) (by assumption) ?_
              simp only [oT_31, Act.put, List.setIfInBounds_toArray, List.set_cons_zero, List.set_cons_succ]
              refine wpAnyH_take (i := 32) (oi := oT_32) (v := undef) rfl (by kernel_rfl) (by kernel_rfl) (by kernel_rfl) (fun _ _ _ h => h) (Or.inr ⟨by rfl, rfl⟩) (by assumption) ?_
              simp only [oT_32, Act.put, List.setIfInBounds_toArray, List.set_cons_zero, List.set_cons_succ]
              refine wpAnyH_take (i := 33) (oi := oT_33) (v := ?vaoT_34) rfl (by kernel_rfl) (by kernel_rfl) (by kernel_rfl) (fun _ _ _ h => h) (Or.inl ⟨by rfl, ?yaoT_34⟩) (by assumption) ?raoT_34
              case yaoT_34 => (intro w hSw; (try dsimp only at hSw); unfold oT_33; go_simp; try with_reducible rfl)
              simp only [oT_33, Act.put, List.setIfInBounds_toArray, List.set_cons_zero, List.set_cons_succ]
              refine wpAnyH_take (i := 34) (oi := oT_34) (v := ?vaoT_35) rfl (by kernel_rfl) (by kernel_rfl) (by kernel_rfl) (fun _ _ _ h => h) (Or.inl ⟨by rfl, ?yaoT_35⟩) (by assumption) ?raoT_35
              case yaoT_35 => (intro w hSw; (try dsimp only at hSw); unfold oT_34; go_simp; try with_reducible rfl)
              simp only [oT_34, Act.put, List.setIfInBounds_toArray, List.set_cons_zero, List.set_cons_succ]
              refine wpAnyH_done (by kernel_rfl) ?_ _
              refine NoPanic.normal ?_
              clear hHeld
              go_wp2_with fail
              go_meet
              exact ⟨rfl, x6⟩
            exact AllReadyH.nil
          exact AllReadyH.nil
        · have hn4 : 8 < nd := by omega
          rw [if_neg (by omega)] at hF
          injection hF with hF1 hF2
          subst hF1 hF2
          have k4 : Hid (Blk w5.drew q7 #[.int .i64 0, .slice p1 0 n1] 24) := k2.out.below (Below.refl _ _).drew
          have hS4 : Hid (∀ W, Blk W q7 #[.int .i64 0, .slice p1 0 n1] 24 → W.cell? ⟨q7, 0, none⟩ = some (.int .i64 0) ∧ W.cell? ⟨q7, 1, none⟩ = some (.slice p1 0 n1)) := fun W h => ⟨h.cell 0, h.cell 1⟩
          have hcA := hS4.out _ k4.out
          clear h40 hlI
          refine wp_region_noPanic ?_
          refine wp_region_held_drew (S := (fun W => W.cell? ⟨q7, 0, none⟩ = some (.int .i64 0) ∧ W.cell? ⟨q7, 1, none⟩ = some (.slice p1 0 n1))) (by kernel_rfl) ?hScoT_0 (fun hHeld => ?_)
          case hScoT_0 => ((try dsimp only); exact hcA)
          refine wpAnyH_take (i := 0) (oi := oT_0) (v := ?vcoT_1) rfl (by kernel_rfl) (by kernel_rfl) (by kernel_rfl) (fun _ _ _ h => h) (Or.inl ⟨by rfl, ?ycoT_1⟩) (by assumption) ?rcoT_1
          case ycoT_1 => (intro w hSw; (try dsimp only at hSw); unfold oT_0; go_simp; try with_reducible rfl)
          simp only [oT_0, Act.put, List.setIfInBounds_toArray, List.set_cons_zero, List.set_cons_succ]
          refine wpAnyH_take (i := 1) (oi := oT_1) (v := ?vcoT_2) rfl (by kernel_rfl) (by kernel_rfl) (by kernel_rfl) (fun _ _ _ h => h) (Or.inl ⟨by rfl, ?ycoT_2⟩) (by assumption) ?rcoT_2
          case ycoT_2 => (intro w hSw; (try dsimp only at hSw); unfold oT_1; go_simp; try with_reducible rfl)
          simp only [oT_1, Act.put, List.setIfInBounds_toArray, List.set_cons_zero, List.set_cons_succ]
          refine wpAnyH_take (i := 2) (oi := oT_2) (v := ?vcoT_3) rfl (by kernel_rfl) (by kernel_rfl) (by kernel_rfl) (fun _ _ _ h => h) (Or.inl ⟨by rfl, ?ycoT_3⟩) (by assumption) ?rcoT_3
          case ycoT_3 => (intro w hSw; (try dsimp only at hSw); unfold oT_2; go_simp; try with_reducible rfl)
          simp only [oT_2, Act.put, List.setIfInBounds_toArray, List.set_cons_zero, List.set_cons_succ]
          refine wpAnyH_take (i := 3) (oi := oT_3) (v := ?vcoT_4) rfl (by kernel_rfl) (by kernel_rfl) (by kernel_rfl) (fun _ _ _ h => h) (Or.inl ⟨by rfl, ?ycoT_4⟩) (by assumption) ?rcoT_4
          case ycoT_4 => (intro w hSw; (try dsimp only at hSw); unfold oT_3; go_simp; try with_reducible rfl)
          simp only [oT_3, Act.put, List.setIfInBounds_toArray, List.set_cons_zero, List.set_cons_succ]
          refine wpAnyH_take (i := 4) (oi := oT_4) (v := ?vcoT_5) rfl (by kernel_rfl) (by kernel_rfl) (by kernel_rfl) (fun _ _ _ h => h) (Or.inl ⟨by rfl, ?ycoT_5⟩) (by assumption) ?rcoT_5
          case ycoT_5 => (intro w hSw; (try dsimp only at hSw); unfold oT_4; go_simp; try with_reducible rfl)
          simp only [oT_4, Act.put, List.setIfInBounds_toArray, List.set_cons_zero, List.set_cons_succ]
          refine wpAnyH_take (i := 5) (oi := oT_5) (v := ?vcoT_6) rfl (by kernel_rfl) (by kernel_rfl) (by kernel_rfl) (fun _ _ _ h => h) (Or.inl ⟨by rfl, ?ycoT_6⟩) (by assumption) ?rcoT_6
          case ycoT_6 => (intro w hSw; (try dsimp only at hSw); unfold oT_5; go_simp; try with_reducible rfl)
          simp only [oT_5, Act.put, List.setIfInBounds_toArray, List.set_cons_zero, List.set_cons_succ]
          refine wpAnyH_take (i := 6) (oi := oT_6) (v := ?vcoT_7) rfl (by kernel_rfl) (by kernel_rfl) (by kernel_rfl) (fun _ _ _ h => h) (Or.inl ⟨by rfl, ?ycoT_7⟩) (by assumption) ?rcoT_7
          case ycoT_7 => (intro w hSw; (try dsimp only at hSw); unfold oT_6; go_simp; try with_reducible rfl)
          simp only [oT_6, Act.put, List.setIfInBounds_toArray, List.set_cons_zero, List.set_cons_succ]
          refine wpAnyH_take (i := 7) (oi := oT_7) (v := undef) rfl (by kernel_rfl) (by kernel_rfl) (by kernel_rfl) (fun _ _ _ h => h) (Or.inr ⟨by rfl, rfl⟩) (by assumption) ?_
          simp only [oT_7, Act.put, List.setIfInBounds_toArray, List.set_cons_zero, List.set_cons_succ]
          refine wpAnyH_take (i := 8) (oi := oT_8) (v := undef) rfl (by kernel_rfl) (by kernel_rfl) (by kernel_rfl) (fun _ _ _ h => h) (Or.inr ⟨by rfl, rfl⟩) (by assumption) ?_
          simp only [oT_8, Act.put, List.setIfInBounds_toArray, List.set_cons_zero, List.set_cons_succ]
          refine wpAnyH_take (i := 9) (oi := oT_9) (v := undef) rfl (by kernel_rfl) (by kernel_rfl) (by kernel_rfl) (fun _ _ _ h => h) (Or.inr ⟨by rfl, rfl⟩) (by assumption) ?_
          simp only [oT_9, Act.put, List.setIfInBounds_toArray, List.set_cons_zero, List.set_cons_succ]
          refine wpAnyH_take (i := 10) (oi := oT_10) (v := undef) rfl (by kernel_rfl) (by kernel_rfl) (by kernel_rfl) (fun _ _ _ h => h) (Or.inr ⟨by rfl, rfl⟩) (by assumption) ?_
          simp only [oT_10, Act.put, List.setIfInBounds_toArray, List.set_cons_zero, List.set_cons_succ]
          refine wpAnyH_take (i := 11) (oi := oT_11) (v := undef) rfl (by kernel_rfl) (by kernel_rfl) (by kernel_rfl) (fun _ _ _ h => h) (Or.inr ⟨by rfl, rfl⟩) (by assumption) ?_
          simp only [oT_11, Act.put, List.setIfInBounds_toArray, List.set_cons_zero, List.set_cons_succ]
          refine wpAnyH_take (i := 12) (oi := oT_12) (v := undef) rfl (by kernel_rfl) (by kernel_rfl) (by kernel_rfl) (fun _ _ _ h => h) (Or.inr ⟨by rfl, rfl⟩) (by assumption) ?_
          simp only [oT_12, Act.put, List.setIfInBounds_toArray, List.set_cons_zero, List.set_cons_succ]
          refine wpAnyH_take (i := 13) (oi := oT_13) (v := undef) rfl (by kernel_rfl) (by kernel_rfl) (by kernel_rfl) (fun _ _ _ h => h) (Or.inr ⟨by rfl, rfl⟩) (by assumption) ?_
          simp only [oT_13, Act.put, List.setIfInBounds_toArray, List.set_cons_zero, List.set_cons_succ]
          refine wpAnyH_take (i := 14) (oi := oT_14) (v := undef) rfl (by kernel_rfl) (by kernel_rfl) (by kernel_rfl) (fun _ _ _ h => h) (Or.inr ⟨by rfl, rfl⟩) (by assumption) ?_
          simp only [oT_14, Act.put, List.setIfInBounds_toArray, List.set_cons_zero, List.set_cons_succ]
          refine wpAnyH_take (i := 15) (oi := oT_15) (v := undef) rfl (by kernel_rfl) (by kernel_rfl) (by kernel_rfl) (fun _ _ _ h => h) (Or.inr ⟨by rfl, rfl⟩) (by assumption) ?_
          simp only [oT_15, Act.put, List.setIfInBounds_toArray, List.set_cons_zero, List.set_cons_succ]
          refine wpAnyH_take (i := 16) (oi := oT_16) (v := ?vcoT_17) rfl (by kernel_rfl) (by kernel_rfl) (by kernel_rfl) (fun _ _ _ h => h) (Or.inl ⟨by rfl, ?ycoT_17⟩) (by assumption) ?rcoT_17
          case ycoT_17 => (intro w hSw; (try dsimp only at hSw); unfold oT_16; go_simp; try with_reducible rfl)
          simp only [oT_16, Act.put, List.setIfInBounds_toArray, List.set_cons_zero, List.set_cons_succ]
          refine wpAnyH_take (i := 17) (oi := oT_17) (v := ?vcoT_18) rfl (by kernel_rfl) (by kernel_rfl) (by kernel_rfl) (fun _ _ _ h => h) (Or.inl ⟨by rfl, ?ycoT_18⟩) (by assumption) ?rcoT_18
          case ycoT_18 => (intro w hSw; (try dsimp only at hSw); unfold oT_17; go_simp; try with_reducible rfl)
          simp only [oT_17, Act.put, List.setIfInBounds_toArray, List.set_cons_zero, List.set_cons_succ]
          refine wpAnyH_take (i := 18) (oi := oT_18) (v := ?vcoT_19) rfl (by kernel_rfl) (by kernel_rfl) (by kernel_rfl) (fun _ _ _ h => h) (Or.inl ⟨by rfl, ?ycoT_19⟩) (by assumption) ?rcoT_19
          case ycoT_19 => (intro w hSw; (try dsimp only at hSw); unfold oT_18; go_simp; try with_reducible rfl)
          simp only [oT_18, Act.put, List.setIfInBounds_toArray, List.set_cons_zero, List.set_cons_succ]
          refine wpAnyH_take (i := 19) (oi := oT_19) (v := ?vcoT_20) rfl (by kernel_rfl) (by kernel_rfl) (by kernel_rfl) (fun _ _ _ h => h) (Or.inl ⟨by rfl, ?ycoT_20⟩) (by assumption) ?rcoT_20
          case ycoT_20 => (intro w hSw; (try dsimp only at hSw); unfold oT_19; go_simp; try with_reducible rfl)
          simp only [oT_19, Act.put, List.setIfInBounds_toArray, List.set_cons_zero, List.set_cons_succ]
          refine wpAnyH_take (i := 20) (oi := oT_20) (v := ?vcoT_21) rfl (by kernel_rfl) (by kernel_rfl) (by kernel_rfl) (fun _ _ _ h => h) (Or.inl ⟨by rfl, ?ycoT_21⟩) (by assumption) ?rcoT_21
          case ycoT_21 => (intro w hSw; (try dsimp only at hSw); unfold oT_20; go_simp; try with_reducible rfl)
          simp only [oT_20, Act.put, List.setIfInBounds_toArray, List.set_cons_zero, List.set_cons_succ]
          refine wpAnyH_take (i := 21) (oi := oT_21) (v := ?vcoT_22) rfl (by kernel_rfl) (by kernel_rfl) (by kernel_rfl) (fun _ _ _ h => h) (Or.inl ⟨by rfl, ?ycoT_22⟩) (by assumption) ?rcoT_22
          case ycoT_22 => (intro w hSw; (try dsimp only at hSw); unfold oT_21; go_simp; try with_reducible rfl)
          simp only [oT_21, Act.put, List.setIfInBounds_toArray, List.set_cons_zero, List.set_cons_succ]
          refine wpAnyH_take (i := 22) (oi := oT_22) (v := ?vcoT_23) rfl (by kernel_rfl) (by kernel_rfl) (by kernel_rfl) (fun _ _ _ h => h) (Or.inl ⟨by rfl, ?ycoT_23⟩) (by assumption) ?rcoT_23
          case ycoT_23 => (intro w hSw; (try dsimp only at hSw); unfold oT_22; go_simp; try with_reducible rfl)
          simp only [oT_22, Act.put, List.setIfInBounds_toArray, List.set_cons_zero, List.set_cons_succ]
          refine wpAnyH_take (i := 23) (oi := oT_23) (v := ?vcoT_24) rfl (by kernel_rfl) (by kernel_rfl) (by kernel_rfl) (fun _ _ _ h => h) (Or.inl ⟨by rfl, ?ycoT_24⟩) (by assumption) ?rcoT_24
          case ycoT_24 => (intro w hSw; (try dsimp only at hSw); unfold oT_23; go_simp; try with_reducible rfl)
          simp only [oT_23, Act.put, List.setIfInBounds_toArray, List.set_cons_zero, List.set_cons_succ]
          refine wpAnyH_take (i := 24) (oi := oT_24) (v := ?vcoT_25) rfl (by kernel_rfl) (by kernel_rfl) (by kernel_rfl) (fun _ _ _ h => h) (Or.inl ⟨by rfl, ?ycoT_25⟩) (by assumption) ?rcoT_25
          case ycoT_25 => (intro w hSw; (try dsimp only at hSw); unfold oT_24; go_simp; try with_reducible rfl)
          simp only [oT_24, Act.put, List.setIfInBounds_toArray, List.set_cons_zero, List.set_cons_succ]
          refine wpAnyH_take (i := 25) (oi := oT_25) (v := ?vcoT_26) rfl (by kernel_rfl) (by kernel_rfl) (by kernel_rfl) (fun _ _ _ h => h) (Or.inl ⟨by rfl, ?ycoT_26⟩) (by assumption) ?rcoT_26
          case ycoT_26 => (intro w hSw; (try dsimp only at hSw); unfold oT_25; go_simp; try with_reducible rfl)
          simp only [oT_25, Act.put, List.setIfInBounds_toArray, List.set_cons_zero, List.set_cons_succ]
          refine wpAnyH_take (i := 26) (oi := oT_26) (v := ?vcoT_27) rfl (by kernel_rfl) (by kernel_rfl) (by kernel_rfl) (fun _ _ _ h => h) (Or.inl ⟨by rfl, ?ycoT_27⟩) (by assumption) ?rcoT_27
          case ycoT_27 => (intro w hSw; (try dsimp only at hSw); unfold oT_26; go_simp; try with_reducible rfl)
          simp only [oT_26, Act.put, List.setIfInBounds_toArray, List.set_cons_zero, List.set_cons_succ]
          refine wpAnyH_take (i := 27) (oi := oT_27) (v := ?vcoT_28) rfl (by kernel_rfl) (by kernel_rfl) (by kernel_rfl) (fun _ _ _ h => h) (Or.inl ⟨by rfl, ?ycoT_28⟩) (by assumption) ?rcoT_28
          case ycoT_28 => (intro w hSw; (try dsimp only at hSw); unfold oT_27; go_simp; try with_reducible rfl)
          simp only [oT_27, Act.put, List.setIfInBounds_toArray, List.set_cons_zero, List.set_cons_succ]
          refine wpAnyH_take (i := 28) (oi := oT_28) (v := ?vcoT_29) rfl (by kernel_rfl) (by kernel_rfl) (by kernel_rfl) (fun _ _ _ h => h) (Or.inl ⟨by rfl, ?ycoT_29⟩) (by assumption) ?rcoT_29
          case ycoT_29 => (intro w hSw; (try dsimp only at hSw); unfold oT_28; go_simp; try with_reducible rfl)
          simp only [oT_28, Act.put, List.setIfInBounds_toArray, List.set_cons_zero, List.set_cons_succ]
          refine wpAnyH_take (i := 29) (oi := oT_29) (v := ?vcoT_30) rfl (by kernel_rfl) (by kernel_rfl) (by kernel_rfl) (fun _ _ _ h => h) (Or.inl ⟨by rfl, ?ycoT_30⟩) (by assumption) ?rcoT_30
          case ycoT_30 => (intro w hSw; (try dsimp only at hSw); unfold oT_29; go_simp; try with_reducible rfl)
          simp only [oT_29, Act.put, List.setIfInBounds_toArray, List.set_cons_zero, List.set_cons_succ]
          refine wpAnyH_take (i := 30) (oi := oT_30) (v := ?vcoT_31) rfl (by kernel_rfl) (by kernel_rfl) (by kernel_rfl) (fun _ _ _ h => h) (Or.inl ⟨by rfl, ?ycoT_31⟩) (by assumption) ?rcoT_31
          case ycoT_31 => (intro w hSw; (try dsimp only at hSw); unfold oT_30; go_simp; try with_reducible rfl)
          simp only [oT_30, Act.put, List.setIfInBounds_toArray, List.set_cons_zero, List.set_cons_succ]
          refine wpAnyH_take (i := 31) (oi := oT_31) (v := ?vcoT_32) rfl (by kernel_rfl) (by kernel_rfl) (by kernel_rfl) (fun _ _ _ h => h) (Or.inl ⟨by rfl, ?ycoT_32⟩) (by assumption) ?rcoT_32
          case ycoT_32 => (intro w hSw; (try dsimp only at hSw); unfold oT_31; go_simp; try with_reducible rfl)
          simp only [oT_31, Act.put, List.setIfInBounds_toArray, List.set_cons_zero, List.set_cons_succ]
          refine wpAnyH_take (i := 32) (oi := oT_32) (v := ?vcoT_33) rfl (by kernel_rfl) (by kernel_rfl) (by kernel_rfl) (fun _ _ _ h => h) (Or.inl ⟨by rfl, ?ycoT_33⟩) (by assumption) ?rcoT_33
          case ycoT_33 => (intro w hSw; (try dsimp only at hSw); unfold oT_32; go_simp; try with_reducible rfl)
          simp only [oT_32, Act.put, List.setIfInBounds_toArray, List.set_cons_zero, List.set_cons_succ]
          refine wpAnyH_take (i := 33) (oi := oT_33) (v := ?vcoT_34) rfl (by kernel_rfl) (by kernel_rfl) (by kernel_rfl) (fun _ _ _ h => h) (Or.inl ⟨by rfl, ?ycoT_34⟩) (by assumption) ?rcoT_34
          case ycoT_34 => (intro w hSw; (try dsimp only at hSw); unfold oT_33; go_simp; try with_reducible rfl)
          simp only [oT_33, Act.put, List.setIfInBounds_toArray, List.set_cons_zero, List.set_cons_succ]
          refine wpAnyH_take (i := 34) (oi := oT_34) (v := ?vcoT_35) rfl (by kernel_rfl) (by kernel_rfl) (by kernel_rfl) (fun _ _ _ h => h) (Or.inl ⟨by rfl, ?ycoT_35⟩) (by assumption) ?rcoT_35
          case ycoT_35 => (intro w hSw; (try dsimp only at hSw); unfold oT_34; go_simp; try with_reducible rfl)
          simp only [oT_34, Act.put, List.setIfInBounds_toArray, List.set_cons_zero, List.set_cons_succ]
          refine wpAnyH_done (by kernel_rfl) ?_ _
          refine NoPanic.normal ?_
          clear hHeld
          go_wp2_with fail
          go_meet
          exact ⟨rfl, x4⟩
    case rest =>
      obtain ⟨hv, x3⟩ := hcut
      subst hv
      clear x2 k2 t2
      obtain ⟨w6, hw6⟩ : ∃ y, y = wc := ⟨_, rfl⟩
      subst hw6
      have hl62 : l.length ≤ 4611686018427387904 := by omega
      have hc0 := Lib.hid (fun W tW => head_any ⟨e0, l⟩ p cap W tW)
      have hc1 := Lib.hid (fun W tW => tail_any ⟨e0, l⟩ p cap W tW hl62)
      have hc2 := Lib.hid (fun W tW => next_any ⟨e0, l⟩ p cap ⟨m0, m1⟩ W tW hl62)
      have hc3 := Lib.hid (fun W tW => ahead_any ⟨e0, l⟩ p cap ⟨m0, m1⟩ W tW hl62)
      have hc4 := Lib.hid (fun W tW => refAt_any ⟨e0, l⟩ p cap 0 W tW)
      have hc5 := Lib.hid (fun W tW => refAt_any ⟨e0, l⟩ p cap ((l.length : Int) - 1) W tW)
      have hc6 := Lib.hid (fun W tW => beside_any ⟨e0, l⟩ p cap ⟨m0, m1⟩ 1 W tW hl62 (by omega))
      have hc7 := Lib.hid (fun W tW => beside_any ⟨e0, l⟩ p cap ⟨m0, m1⟩ (-1) W tW hl62 (by omega))
      try dsimp only at hc0 hc1 hc2 hc3 hc4 hc5 hc6 hc7
      generalize atN l 0 = va at *
      generalize isN l 0 = ga at *
      generalize atN l ((l.length : Int) - 1) = vb at *
      generalize isN l ((l.length : Int) - 1) = gb at *
      generalize besideN l ⟨m0, m1⟩ 1 = vc at *
      generalize besideB l ⟨m0, m1⟩ 1 = gc at *
      generalize besideN l ⟨m0, m1⟩ (-1) = vd at *
      generalize besideB l ⟨m0, m1⟩ (-1) = gd at *
      obtain ⟨a0, a1⟩ := va
      obtain ⟨b0, b1⟩ := vb
      obtain ⟨c0, c1⟩ := vc
      obtain ⟨d0, d1⟩ := vd
      have hw1 : IntKind.i64.wrap ((l.length : Int) - 1) = (l.length : Int) - 1 := IntWalk.i64_in _ (by omega)
      clear h40
      have y0 := x3.out.k.cell 0
      have y1 := x3.out.k.cell 1
      have hx := Lib.hid (hc0.out w6 (t.out.below x3.out.b))
      go_wp2_with fail
      refine hx.out.mono ?_
      rintro e u0 ⟨rfl, bb⟩
      have ba := bb.alloc bb.size (.cells #[.int .i64 a0, .int .i64 a1] 26)
      have k0 := Lib.hid (Blk.new u0 #[.int .i64 a0, .int .i64 a1] 26)
      replace x3 := Lib.hid (x3.out.below ba)
      clear ba bb y0 y1 hx hc0
      go_upto_region 7 with fail
      generalize u0.alloc _ = s0 at *
      generalize u0.heap.size = i0 at *
      have y0 := x3.out.k.cell 0
      have y1 := x3.out.k.cell 1
      have hx := Lib.hid (hc1.out s0 (t.out.below x3.out.b))
      go_wp2_with fail
      refine hx.out.mono ?_
      rintro e u1 ⟨rfl, bb⟩
      have ba := bb.alloc bb.size (.cells #[.int .i64 b0, .int .i64 b1] 26)
      have k1 := Lib.hid (Blk.new u1 #[.int .i64 b0, .int .i64 b1] 26)
      replace x3 := Lib.hid (x3.out.below ba)
      replace k0 := Lib.hid (k0.out.below ba)
      clear ba bb y0 y1 hx hc1
      go_upto_region 8 with fail
      generalize u1.alloc _ = s1 at *
      generalize u1.heap.size = i1 at *
      have y0 := x3.out.k.cell 0
      have y1 := x3.out.k.cell 1
      have y2 := x3.out.d.cell 0
      have y3 := x3.out.d.cell 1
      have hx := Lib.hid (hc2.out s1 (t.out.below x3.out.b))
      go_wp2_with fail
      refine hx.out.mono ?_
      rintro e u2 ⟨rfl, bb⟩
      have ba := bb.alloc bb.size (.cells #[.int .i64 c0, .int .i64 c1] 26)
      have k2 := Lib.hid (Blk.new u2 #[.int .i64 c0, .int .i64 c1] 26)
      replace x3 := Lib.hid (x3.out.below ba)
      replace k0 := Lib.hid (k0.out.below ba)
      replace k1 := Lib.hid (k1.out.below ba)
      clear ba bb y0 y1 y2 y3 hx hc2
      go_upto_region 9 with fail
      generalize u2.alloc _ = s2 at *
      generalize u2.heap.size = i2 at *
      have y0 := x3.out.k.cell 0
      have y1 := x3.out.k.cell 1
      have y2 := x3.out.d.cell 0
      have y3 := x3.out.d.cell 1
      have hx := Lib.hid (hc3.out s2 (t.out.below x3.out.b))
      go_wp2_with fail
      refine hx.out.mono ?_
      rintro e u3 ⟨rfl, bb⟩
      have ba := bb.alloc bb.size (.cells #[.int .i64 d0, .int .i64 d1] 26)
      have k3 := Lib.hid (Blk.new u3 #[.int .i64 d0, .int .i64 d1] 26)
      replace x3 := Lib.hid (x3.out.below ba)
      replace k0 := Lib.hid (k0.out.below ba)
      replace k1 := Lib.hid (k1.out.below ba)
      replace k2 := Lib.hid (k2.out.below ba)
      clear ba bb y0 y1 y2 y3 hx hc3
      go_upto_region 10 with fail
      generalize u3.alloc _ = s3 at *
      generalize u3.heap.size = i3 at *
      have y0 := x3.out.k.cell 0
      have y1 := x3.out.k.cell 1
      have hx := Lib.hid (hc4.out s3 (t.out.below x3.out.b))
      go_wp2_with fail
      refine hx.out.mono ?_
      rintro e u4 ⟨rfl, bb⟩
      have ba := bb.alloc bb.size (.cells #[.int .i64 a0, .int .i64 a1] 26)
      have k4 := Lib.hid (Blk.new u4 #[.int .i64 a0, .int .i64 a1] 26)
      replace x3 := Lib.hid (x3.out.below ba)
      replace k0 := Lib.hid (k0.out.below ba)
      replace k1 := Lib.hid (k1.out.below ba)
      replace k2 := Lib.hid (k2.out.below ba)
      replace k3 := Lib.hid (k3.out.below ba)
      clear ba bb y0 y1 hx hc4
      go_upto_region 11 with fail
      generalize u4.alloc _ = s4 at *
      generalize u4.heap.size = i4 at *
      have y0 := x3.out.k.cell 0
      have y1 := x3.out.k.cell 1
      have hx := Lib.hid (hc5.out s4 (t.out.below x3.out.b))
      go_wp2_with fail
      refine hx.out.mono ?_
      rintro e u5 ⟨rfl, bb⟩
      have ba := bb.alloc bb.size (.cells #[.int .i64 b0, .int .i64 b1] 26)
      have k5 := Lib.hid (Blk.new u5 #[.int .i64 b0, .int .i64 b1] 26)
      replace x3 := Lib.hid (x3.out.below ba)
      replace k0 := Lib.hid (k0.out.below ba)
      replace k1 := Lib.hid (k1.out.below ba)
      replace k2 := Lib.hid (k2.out.below ba)
      replace k3 := Lib.hid (k3.out.below ba)
      replace k4 := Lib.hid (k4.out.below ba)
      clear ba bb y0 y1 hx hc5
      go_upto_region 12 with fail
      generalize u5.alloc _ = s5 at *
      generalize u5.heap.size = i5 at *
      have y0 := x3.out.k.cell 0
      have y1 := x3.out.k.cell 1
      have y2 := x3.out.d.cell 0
      have y3 := x3.out.d.cell 1
      have hx := Lib.hid (hc6.out s5 (t.out.below x3.out.b))
      go_wp2_with fail
      refine hx.out.mono ?_
      rintro e u6 ⟨rfl, bb⟩
      have ba := bb.alloc bb.size (.cells #[.int .i64 c0, .int .i64 c1] 26)
      have k6 := Lib.hid (Blk.new u6 #[.int .i64 c0, .int .i64 c1] 26)
      replace x3 := Lib.hid (x3.out.below ba)
      replace k0 := Lib.hid (k0.out.below ba)
      replace k1 := Lib.hid (k1.out.below ba)
      replace k2 := Lib.hid (k2.out.below ba)
      replace k3 := Lib.hid (k3.out.below ba)
      replace k4 := Lib.hid (k4.out.below ba)
      replace k5 := Lib.hid (k5.out.below ba)
      clear ba bb y0 y1 y2 y3 hx hc6
      go_upto_region 13 with fail
      generalize u6.alloc _ = s6 at *
      generalize u6.heap.size = i6 at *
      have y0 := x3.out.k.cell 0
      have y1 := x3.out.k.cell 1
      have y2 := x3.out.d.cell 0
      have y3 := x3.out.d.cell 1
      have hx := Lib.hid (hc7.out s6 (t.out.below x3.out.b))
      go_wp2_with fail
      refine hx.out.mono ?_
      rintro e u7 ⟨rfl, bb⟩
      have ba := bb.alloc bb.size (.cells #[.int .i64 d0, .int .i64 d1] 26)
      have k7 := Lib.hid (Blk.new u7 #[.int .i64 d0, .int .i64 d1] 26)
      replace x3 := Lib.hid (x3.out.below ba)
      replace k0 := Lib.hid (k0.out.below ba)
      replace k1 := Lib.hid (k1.out.below ba)
      replace k2 := Lib.hid (k2.out.below ba)
      replace k3 := Lib.hid (k3.out.below ba)
      replace k4 := Lib.hid (k4.out.below ba)
      replace k5 := Lib.hid (k5.out.below ba)
      replace k6 := Lib.hid (k6.out.below ba)
      clear ba bb y0 y1 y2 y3 hx hc7
      go_upto_region 14 with fail
      generalize u7.alloc _ = s7 at *
      generalize u7.heap.size = i7 at *
      have hS : Hid (∀ W, Bt w e0 p l.length cap m0 m1 W → Blk W i0 #[.int .i64 a0, .int .i64 a1] 26 → Blk W i1 #[.int .i64 b0, .int .i64 b1] 26 → Blk W i2 #[.int .i64 c0, .int .i64 c1] 26 → Blk W i3 #[.int .i64 d0, .int .i64 d1] 26 → Blk W i4 #[.int .i64 a0, .int .i64 a1] 26 → Blk W i5 #[.int .i64 b0, .int .i64 b1] 26 → Blk W i6 #[.int .i64 c0, .int .i64 c1] 26 → Blk W i7 #[.int .i64 d0, .int .i64 d1] 26 → W.cell? ⟨w.heap.size, 0, none⟩ = some (.int .i64 e0) ∧ W.cell? ⟨w.heap.size, 1, none⟩ = some (.slice p l.length cap) ∧ W.cell? ⟨w.heap.size + 1, 0, none⟩ = some (.int .i64 m0) ∧ W.cell? ⟨w.heap.size + 1, 1, none⟩ = some (.int .i64 m1) ∧ W.cell? ⟨i0, 0, none⟩ = some (.int .i64 a0) ∧ W.cell? ⟨i0, 1, none⟩ = some (.int .i64 a1) ∧ W.cell? ⟨i1, 0, none⟩ = some (.int .i64 b0) ∧ W.cell? ⟨i1, 1, none⟩ = some (.int .i64 b1) ∧ W.cell? ⟨i2, 0, none⟩ = some (.int .i64 c0) ∧ W.cell? ⟨i2, 1, none⟩ = some (.int .i64 c1) ∧ W.cell? ⟨i3, 0, none⟩ = some (.int .i64 d0) ∧ W.cell? ⟨i3, 1, none⟩ = some (.int .i64 d1) ∧ W.cell? ⟨i4, 0, none⟩ = some (.int .i64 a0) ∧ W.cell? ⟨i4, 1, none⟩ = some (.int .i64 a1) ∧ W.cell? ⟨i5, 0, none⟩ = some (.int .i64 b0) ∧ W.cell? ⟨i5, 1, none⟩ = some (.int .i64 b1) ∧ W.cell? ⟨i6, 0, none⟩ = some (.int .i64 c0) ∧ W.cell? ⟨i6, 1, none⟩ = some (.int .i64 c1) ∧ W.cell? ⟨i7, 0, none⟩ = some (.int .i64 d0) ∧ W.cell? ⟨i7, 1, none⟩ = some (.int .i64 d1)) := fun W hb h0 h1 h2 h3 h4 h5 h6 h7 => ⟨hb.k.cell 0, hb.k.cell 1, hb.d.cell 0, hb.d.cell 1, h0.cell 0, h0.cell 1, h1.cell 0, h1.cell 1, h2.cell 0, h2.cell 1, h3.cell 0, h3.cell 1, h4.cell 0, h4.cell 1, h5.cell 0, h5.cell 1, h6.cell 0, h6.cell 1, h7.cell 0, h7.cell 1⟩
      have hRt : Hid (∀ W, Chn W p l → Calls Try.prog 21 #[.agg #[.int .i64 e0, .slice p l.length cap]] W fun e w' => e = .returned (.bool (rightN ⟨e0, l⟩)) ∧ Below W.heap.size W w') := fun W tW => right_any ⟨e0, l⟩ p cap W tW hc.out (by dsimp only; omega)
      have hRr : Hid (∀ W, Chn W p l → Calls Try.prog 22 #[.agg #[.int .i64 e0, .slice p l.length cap]] W fun e w' => e = .returned (.bool (rightN ⟨e0, l⟩)) ∧ Below W.heap.size W w') := fun W tW => refRight_any ⟨e0, l⟩ p cap W tW hc.out (by dsimp only; omega)
      have hPl : Hid (∀ W, Chn W p l → Calls Try.prog 23 #[.agg #[.int .i64 e0, .slice p l.length cap], .agg #[.int .i64 m0, .int .i64 m1]] W fun e w' => e = .returned (.int .i64 (placeN l ⟨m0, m1⟩)) ∧ Below W.heap.size W w') := fun W tW => place_any ⟨e0, l⟩ p cap ⟨m0, m1⟩ W tW (by dsimp only; omega)
      have hPr : Hid (∀ W, Chn W p l → Calls Try.prog 24 #[.agg #[.int .i64 e0, .slice p l.length cap], .agg #[.int .i64 m0, .int .i64 m1]] W fun e w' => e = .returned (.int .i64 (placeN l ⟨m0, m1⟩)) ∧ Below W.heap.size W w') := fun W tW => refPlace_any ⟨e0, l⟩ p cap ⟨m0, m1⟩ W tW (by dsimp only; omega)
      generalize rightN ⟨e0, l⟩ = rr at *
      generalize placeN l ⟨m0, m1⟩ = pp at *
      have hea := mb_eq ⟨a0, a1⟩ ⟨a0, a1⟩
      rw [decide_eq_true rfl] at hea
      have heb := mb_eq ⟨b0, b1⟩ ⟨b0, b1⟩
      rw [decide_eq_true rfl] at heb
      have hec := mb_eq ⟨c0, c1⟩ ⟨c0, c1⟩
      rw [decide_eq_true rfl] at hec
      have hed := mb_eq ⟨d0, d1⟩ ⟨d0, d1⟩
      rw [decide_eq_true rfl] at hed
      replace x3 := Lib.hid (x3.out.below (Below.refl _ _).drew)
      replace k0 := Lib.hid (k0.out.below (Below.refl _ _).drew)
      replace k1 := Lib.hid (k1.out.below (Below.refl _ _).drew)
      replace k2 := Lib.hid (k2.out.below (Below.refl _ _).drew)
      replace k3 := Lib.hid (k3.out.below (Below.refl _ _).drew)
      replace k4 := Lib.hid (k4.out.below (Below.refl _ _).drew)
      replace k5 := Lib.hid (k5.out.below (Below.refl _ _).drew)
      replace k6 := Lib.hid (k6.out.below (Below.refl _ _).drew)
      replace k7 := Lib.hid (k7.out.below (Below.refl _ _).drew)
      refine wp_region_noPanic ?_
      refine wp_region_held_drew (S := (fun W => W.cell? ⟨w.heap.size, 0, none⟩ = some (.int .i64 e0) ∧ W.cell? ⟨w.heap.size, 1, none⟩ = some (.slice p l.length cap) ∧ W.cell? ⟨w.heap.size + 1, 0, none⟩ = some (.int .i64 m0) ∧ W.cell? ⟨w.heap.size + 1, 1, none⟩ = some (.int .i64 m1) ∧ W.cell? ⟨i0, 0, none⟩ = some (.int .i64 a0) ∧ W.cell? ⟨i0, 1, none⟩ = some (.int .i64 a1) ∧ W.cell? ⟨i1, 0, none⟩ = some (.int .i64 b0) ∧ W.cell? ⟨i1, 1, none⟩ = some (.int .i64 b1) ∧ W.cell? ⟨i2, 0, none⟩ = some (.int .i64 c0) ∧ W.cell? ⟨i2, 1, none⟩ = some (.int .i64 c1) ∧ W.cell? ⟨i3, 0, none⟩ = some (.int .i64 d0) ∧ W.cell? ⟨i3, 1, none⟩ = some (.int .i64 d1) ∧ W.cell? ⟨i4, 0, none⟩ = some (.int .i64 a0) ∧ W.cell? ⟨i4, 1, none⟩ = some (.int .i64 a1) ∧ W.cell? ⟨i5, 0, none⟩ = some (.int .i64 b0) ∧ W.cell? ⟨i5, 1, none⟩ = some (.int .i64 b1) ∧ W.cell? ⟨i6, 0, none⟩ = some (.int .i64 c0) ∧ W.cell? ⟨i6, 1, none⟩ = some (.int .i64 c1) ∧ W.cell? ⟨i7, 0, none⟩ = some (.int .i64 d0) ∧ W.cell? ⟨i7, 1, none⟩ = some (.int .i64 d1))) (by kernel_rfl) ?hSoU_0 (fun hHeld => ?_)
      case hSoU_0 => ((try dsimp only); exact (hS.out _ x3.out k0.out k1.out k2.out k3.out k4.out k5.out k6.out k7.out))
      refine wpAnyH_take (i := 0) (oi := oU_0) (v := ?voU_1) rfl (by kernel_rfl) (by kernel_rfl) (by kernel_rfl) (fun _ _ _ h => h) (Or.inl ⟨by rfl, ?yoU_1⟩) (by assumption) ?roU_1
      case yoU_1 => (intro w hSw; (try dsimp only at hSw); unfold oU_0; go_simp; try with_reducible rfl)
      simp only [oU_0, Act.put, List.setIfInBounds_toArray, List.set_cons_zero, List.set_cons_succ]
      refine wpAnyH_take (i := 2) (oi := oU_2) (v := ?voU_2) rfl (by kernel_rfl) (by kernel_rfl) (by kernel_rfl) (fun _ _ _ h => h) (Or.inl ⟨by rfl, ?yoU_2⟩) (by assumption) ?roU_2
      case yoU_2 => (intro w hSw; (try dsimp only at hSw); unfold oU_2; go_simp; try with_reducible rfl)
      simp only [oU_2, Act.put, List.setIfInBounds_toArray, List.set_cons_zero, List.set_cons_succ]
      refine wpAnyH_ready (rs := [1]) (by kernel_rfl) (by simp) ?_
      refine AllReadyH.cons (o := oU_1) rfl (fun K hK => ?_) ?_
      · clear hHeld
        unfold oU_1
        go_simp
        go_at_call 21
        refine (hRt.out _ (t.out.below x3.out.b)).mono ?_
        rintro e wn1 ⟨rfl, bb⟩
        replace x3 := Lib.hid (x3.out.below bb)
        replace k0 := Lib.hid (k0.out.below bb)
        replace k1 := Lib.hid (k1.out.below bb)
        replace k2 := Lib.hid (k2.out.below bb)
        replace k3 := Lib.hid (k3.out.below bb)
        replace k4 := Lib.hid (k4.out.below bb)
        replace k5 := Lib.hid (k5.out.below bb)
        replace k6 := Lib.hid (k6.out.below bb)
        replace k7 := Lib.hid (k7.out.below bb)
        clear bb
        dsimp only
        refine hK.out _ _ ?hSoU_3 (fun hHeld => ?_)
        case hSoU_3 => ((try dsimp only); exact (hS.out _ x3.out k0.out k1.out k2.out k3.out k4.out k5.out k6.out k7.out))
        clear hK K
        try simp only [Act.put, List.setIfInBounds_toArray, List.set_cons_zero, List.set_cons_succ]
        refine wpAnyH_ready (rs := [3]) (by kernel_rfl) (by simp) ?_
        refine AllReadyH.cons (o := oU_3) rfl (fun K hK => ?_) ?_
        · clear hHeld
          unfold oU_3
          go_simp
          go_at_call 22
          refine (hRr.out _ (t.out.below x3.out.b)).mono ?_
          rintro e wn3 ⟨rfl, bb⟩
          replace x3 := Lib.hid (x3.out.below bb)
          replace k0 := Lib.hid (k0.out.below bb)
          replace k1 := Lib.hid (k1.out.below bb)
          replace k2 := Lib.hid (k2.out.below bb)
          replace k3 := Lib.hid (k3.out.below bb)
          replace k4 := Lib.hid (k4.out.below bb)
          replace k5 := Lib.hid (k5.out.below bb)
          replace k6 := Lib.hid (k6.out.below bb)
          replace k7 := Lib.hid (k7.out.below bb)
          clear bb
          dsimp only
          refine hK.out _ _ ?hSoU_4 (fun hHeld => ?_)
          case hSoU_4 => ((try dsimp only); exact (hS.out _ x3.out k0.out k1.out k2.out k3.out k4.out k5.out k6.out k7.out))
          clear hK K
          try simp only [Act.put, List.setIfInBounds_toArray, List.set_cons_zero, List.set_cons_succ]
          refine wpAnyH_take (i := 4) (oi := oU_4) (v := ?voU_5) rfl (by kernel_rfl) (by kernel_rfl) (by kernel_rfl) (fun _ _ _ h => h) (Or.inl ⟨by rfl, ?yoU_5⟩) (by assumption) ?roU_5
          case yoU_5 => (intro w hSw; (try dsimp only at hSw); unfold oU_4; go_simp; try with_reducible rfl)
          simp only [oU_4, Act.put, List.setIfInBounds_toArray, List.set_cons_zero, List.set_cons_succ]
          refine wpAnyH_take (i := 5) (oi := oU_5) (v := ?voU_6) rfl (by kernel_rfl) (by kernel_rfl) (by kernel_rfl) (fun _ _ _ h => h) (Or.inl ⟨by rfl, ?yoU_6⟩) (by assumption) ?roU_6
          case yoU_6 => (intro w hSw; (try dsimp only at hSw); unfold oU_5; go_simp; try with_reducible rfl)
          simp only [oU_5, Act.put, List.setIfInBounds_toArray, List.set_cons_zero, List.set_cons_succ]
          refine wpAnyH_take (i := 6) (oi := oU_6) (v := ?voU_7) rfl (by kernel_rfl) (by kernel_rfl) (by kernel_rfl) (fun _ _ _ h => h) (Or.inl ⟨by rfl, ?yoU_7⟩) (by assumption) ?roU_7
          case yoU_7 => (intro w hSw; (try dsimp only at hSw); unfold oU_6; go_simp; try with_reducible rfl)
          simp only [oU_6, Act.put, List.setIfInBounds_toArray, List.set_cons_zero, List.set_cons_succ]
          refine wpAnyH_take (i := 7) (oi := oU_7) (v := ?voU_8) rfl (by kernel_rfl) (by kernel_rfl) (by kernel_rfl) (fun _ _ _ h => h) (Or.inl ⟨by rfl, ?yoU_8⟩) (by assumption) ?roU_8
          case yoU_8 => (intro w hSw; (try dsimp only at hSw); unfold oU_7; go_simp; try with_reducible rfl)
          simp only [oU_7, Act.put, List.setIfInBounds_toArray, List.set_cons_zero, List.set_cons_succ]
          refine wpAnyH_take (i := 9) (oi := oU_9) (v := ?voU_9) rfl (by kernel_rfl) (by kernel_rfl) (by kernel_rfl) (fun _ _ _ h => h) (Or.inl ⟨by rfl, ?yoU_9⟩) (by assumption) ?roU_9
          case yoU_9 => (intro w hSw; (try dsimp only at hSw); unfold oU_9; go_simp; try with_reducible rfl)
          simp only [oU_9, Act.put, List.setIfInBounds_toArray, List.set_cons_zero, List.set_cons_succ]
          refine wpAnyH_take (i := 10) (oi := oU_10) (v := ?voU_10) rfl (by kernel_rfl) (by kernel_rfl) (by kernel_rfl) (fun _ _ _ h => h) (Or.inl ⟨by rfl, ?yoU_10⟩) (by assumption) ?roU_10
          case yoU_10 => (intro w hSw; (try dsimp only at hSw); unfold oU_10; go_simp; try with_reducible rfl)
          simp only [oU_10, Act.put, List.setIfInBounds_toArray, List.set_cons_zero, List.set_cons_succ]
          refine wpAnyH_ready (rs := [8]) (by kernel_rfl) (by simp) ?_
          refine AllReadyH.cons (o := oU_8) rfl (fun K hK => ?_) ?_
          · clear hHeld
            unfold oU_8
            go_simp
            go_at_call 23
            refine (hPl.out _ (t.out.below x3.out.b)).mono ?_
            rintro e wn8 ⟨rfl, bb⟩
            replace x3 := Lib.hid (x3.out.below bb)
            replace k0 := Lib.hid (k0.out.below bb)
            replace k1 := Lib.hid (k1.out.below bb)
            replace k2 := Lib.hid (k2.out.below bb)
            replace k3 := Lib.hid (k3.out.below bb)
            replace k4 := Lib.hid (k4.out.below bb)
            replace k5 := Lib.hid (k5.out.below bb)
            replace k6 := Lib.hid (k6.out.below bb)
            replace k7 := Lib.hid (k7.out.below bb)
            clear bb
            dsimp only
            refine hK.out _ _ ?hSoU_11 (fun hHeld => ?_)
            case hSoU_11 => ((try dsimp only); exact (hS.out _ x3.out k0.out k1.out k2.out k3.out k4.out k5.out k6.out k7.out))
            clear hK K
            try simp only [Act.put, List.setIfInBounds_toArray, List.set_cons_zero, List.set_cons_succ]
            refine wpAnyH_ready (rs := [11]) (by kernel_rfl) (by simp) ?_
            refine AllReadyH.cons (o := oU_11) rfl (fun K hK => ?_) ?_
            · clear hHeld
              unfold oU_11
              go_simp
              go_at_call 24
              refine (hPr.out _ (t.out.below x3.out.b)).mono ?_
              rintro e wn11 ⟨rfl, bb⟩
              replace x3 := Lib.hid (x3.out.below bb)
              replace k0 := Lib.hid (k0.out.below bb)
              replace k1 := Lib.hid (k1.out.below bb)
              replace k2 := Lib.hid (k2.out.below bb)
              replace k3 := Lib.hid (k3.out.below bb)
              replace k4 := Lib.hid (k4.out.below bb)
              replace k5 := Lib.hid (k5.out.below bb)
              replace k6 := Lib.hid (k6.out.below bb)
              replace k7 := Lib.hid (k7.out.below bb)
              clear bb
              dsimp only
              refine hK.out _ _ ?hSoU_12 (fun hHeld => ?_)
              case hSoU_12 => ((try dsimp only); exact (hS.out _ x3.out k0.out k1.out k2.out k3.out k4.out k5.out k6.out k7.out))
              clear hK K
              try simp only [Act.put, List.setIfInBounds_toArray, List.set_cons_zero, List.set_cons_succ]
              refine wpAnyH_take (i := 12) (oi := oU_12) (v := ?voU_13) rfl (by kernel_rfl) (by kernel_rfl) (by kernel_rfl) (fun _ _ _ h => h) (Or.inl ⟨by rfl, ?yoU_13⟩) (by assumption) ?roU_13
              case yoU_13 => (intro w hSw; (try dsimp only at hSw); unfold oU_12; go_simp; try with_reducible rfl)
              simp only [oU_12, Act.put, List.setIfInBounds_toArray, List.set_cons_zero, List.set_cons_succ]
              refine wpAnyH_take (i := 13) (oi := oU_13) (v := ?voU_14) rfl (by kernel_rfl) (by kernel_rfl) (by kernel_rfl) (fun _ _ _ h => h) (Or.inl ⟨by rfl, ?yoU_14⟩) (by assumption) ?roU_14
              case yoU_14 => (intro w hSw; (try dsimp only at hSw); unfold oU_13; go_simp; try with_reducible rfl)
              simp only [oU_13, Act.put, List.setIfInBounds_toArray, List.set_cons_zero, List.set_cons_succ]
              refine wpAnyH_take (i := 14) (oi := oU_14) (v := ?voU_15) rfl (by kernel_rfl) (by kernel_rfl) (by kernel_rfl) (fun _ _ _ h => h) (Or.inl ⟨by rfl, ?yoU_15⟩) (by assumption) ?roU_15
              case yoU_15 => (intro w hSw; (try dsimp only at hSw); unfold oU_14; go_simp; try with_reducible rfl)
              simp only [oU_14, Act.put, List.setIfInBounds_toArray, List.set_cons_zero, List.set_cons_succ]
              refine wpAnyH_take (i := 15) (oi := oU_15) (v := ?voU_16) rfl (by kernel_rfl) (by kernel_rfl) (by kernel_rfl) (fun _ _ _ h => h) (Or.inl ⟨by rfl, ?yoU_16⟩) (by assumption) ?roU_16
              case yoU_16 => (intro w hSw; (try dsimp only at hSw); unfold oU_15; go_simp; try with_reducible rfl)
              simp only [oU_15, Act.put, List.setIfInBounds_toArray, List.set_cons_zero, List.set_cons_succ]
              refine wpAnyH_take (i := 16) (oi := oU_16) (v := ?voU_17) rfl (by kernel_rfl) (by kernel_rfl) (by kernel_rfl) (fun _ _ _ h => h) (Or.inl ⟨by rfl, ?yoU_17⟩) (by assumption) ?roU_17
              case yoU_17 => (intro w hSw; (try dsimp only at hSw); unfold oU_16; go_simp; try with_reducible rfl)
              simp only [oU_16, Act.put, List.setIfInBounds_toArray, List.set_cons_zero, List.set_cons_succ]
              refine wpAnyH_take (i := 17) (oi := oU_17) (v := ?voU_18) rfl (by kernel_rfl) (by kernel_rfl) (by kernel_rfl) (fun _ _ _ h => h) (Or.inl ⟨by rfl, ?yoU_18⟩) (by assumption) ?roU_18
              case yoU_18 => (intro w hSw; (try dsimp only at hSw); unfold oU_17; go_simp; try with_reducible rfl)
              simp only [oU_17, Act.put, List.setIfInBounds_toArray, List.set_cons_zero, List.set_cons_succ]
              refine wpAnyH_take (i := 18) (oi := oU_18) (v := ?voU_19) rfl (by kernel_rfl) (by kernel_rfl) (by kernel_rfl) (fun _ _ _ h => h) (Or.inl ⟨by rfl, ?yoU_19⟩) (by assumption) ?roU_19
              case yoU_19 => (intro w hSw; (try dsimp only at hSw); unfold oU_18; go_simp; try with_reducible rfl)
              simp only [oU_18, Act.put, List.setIfInBounds_toArray, List.set_cons_zero, List.set_cons_succ]
              refine wpAnyH_take (i := 19) (oi := oU_19) (v := ?voU_20) rfl (by kernel_rfl) (by kernel_rfl) (by kernel_rfl) (fun _ _ _ h => h) (Or.inl ⟨by rfl, ?yoU_20⟩) (by assumption) ?roU_20
              case yoU_20 => (intro w hSw; (try dsimp only at hSw); unfold oU_19; go_simp; try with_reducible rfl)
              simp only [oU_19, Act.put, List.setIfInBounds_toArray, List.set_cons_zero, List.set_cons_succ]
              refine wpAnyH_take (i := 20) (oi := oU_20) (v := ?voU_21) rfl (by kernel_rfl) (by kernel_rfl) (by kernel_rfl) (fun _ _ _ h => h) (Or.inl ⟨by rfl, ?yoU_21⟩) (by assumption) ?roU_21
              case yoU_21 => (intro w hSw; (try dsimp only at hSw); unfold oU_20; go_simp; try with_reducible rfl)
              simp only [oU_20, Act.put, List.setIfInBounds_toArray, List.set_cons_zero, List.set_cons_succ]
              refine wpAnyH_take (i := 21) (oi := oU_21) (v := ?voU_22) rfl (by kernel_rfl) (by kernel_rfl) (by kernel_rfl) (fun _ _ _ h => h) (Or.inl ⟨by rfl, ?yoU_22⟩) (by assumption) ?roU_22
              case yoU_22 => (intro w hSw; (try dsimp only at hSw); unfold oU_21; go_simp; try with_reducible rfl)
              simp only [oU_21, Act.put, List.setIfInBounds_toArray, List.set_cons_zero, List.set_cons_succ]
              refine wpAnyH_take (i := 22) (oi := oU_22) (v := ?voU_23) rfl (by kernel_rfl) (by kernel_rfl) (by kernel_rfl) (fun _ _ _ h => h) (Or.inl ⟨by rfl, ?yoU_23⟩) (by assumption) ?roU_23
              case yoU_23 => (intro w hSw; (try dsimp only at hSw); unfold oU_22; go_simp; try with_reducible rfl)
              simp only [oU_22, Act.put, List.setIfInBounds_toArray, List.set_cons_zero, List.set_cons_succ]
              refine wpAnyH_take (i := 23) (oi := oU_23) (v := ?voU_24) rfl (by kernel_rfl) (by kernel_rfl) (by kernel_rfl) (fun _ _ _ h => h) (Or.inl ⟨by rfl, ?yoU_24⟩) (by assumption) ?roU_24
              case yoU_24 => (intro w hSw; (try dsimp only at hSw); unfold oU_23; go_simp; try with_reducible rfl)
              simp only [oU_23, Act.put, List.setIfInBounds_toArray, List.set_cons_zero, List.set_cons_succ]
              refine wpAnyH_take (i := 24) (oi := oU_24) (v := ?voU_25) rfl (by kernel_rfl) (by kernel_rfl) (by kernel_rfl) (fun _ _ _ h => h) (Or.inl ⟨by rfl, ?yoU_25⟩) (by assumption) ?roU_25
              case yoU_25 => (intro w hSw; (try dsimp only at hSw); unfold oU_24; go_simp; try with_reducible rfl)
              simp only [oU_24, Act.put, List.setIfInBounds_toArray, List.set_cons_zero, List.set_cons_succ]
              refine wpAnyH_take (i := 25) (oi := oU_25) (v := ?voU_26) rfl (by kernel_rfl) (by kernel_rfl) (by kernel_rfl) (fun _ _ _ h => h) (Or.inl ⟨by rfl, ?yoU_26⟩) (by assumption) ?roU_26
              case yoU_26 => (intro w hSw; (try dsimp only at hSw); unfold oU_25; go_simp; try with_reducible rfl)
              simp only [oU_25, Act.put, List.setIfInBounds_toArray, List.set_cons_zero, List.set_cons_succ]
              refine wpAnyH_take (i := 26) (oi := oU_26) (v := ?voU_27) rfl (by kernel_rfl) (by kernel_rfl) (by kernel_rfl) (fun _ _ _ h => h) (Or.inl ⟨by rfl, ?yoU_27⟩) (by assumption) ?roU_27
              case yoU_27 => (intro w hSw; (try dsimp only at hSw); unfold oU_26; go_simp; try with_reducible rfl)
              simp only [oU_26, Act.put, List.setIfInBounds_toArray, List.set_cons_zero, List.set_cons_succ]
              refine wpAnyH_take (i := 27) (oi := oU_27) (v := ?voU_28) rfl (by kernel_rfl) (by kernel_rfl) (by kernel_rfl) (fun _ _ _ h => h) (Or.inl ⟨by rfl, ?yoU_28⟩) (by assumption) ?roU_28
              case yoU_28 => (intro w hSw; (try dsimp only at hSw); unfold oU_27; go_simp; try with_reducible rfl)
              simp only [oU_27, Act.put, List.setIfInBounds_toArray, List.set_cons_zero, List.set_cons_succ]
              refine wpAnyH_take (i := 28) (oi := oU_28) (v := ?voU_29) rfl (by kernel_rfl) (by kernel_rfl) (by kernel_rfl) (fun _ _ _ h => h) (Or.inl ⟨by rfl, ?yoU_29⟩) (by assumption) ?roU_29
              case yoU_29 => (intro w hSw; (try dsimp only at hSw); unfold oU_28; go_simp; try with_reducible rfl)
              simp only [oU_28, Act.put, List.setIfInBounds_toArray, List.set_cons_zero, List.set_cons_succ]
              refine wpAnyH_take (i := 29) (oi := oU_29) (v := ?voU_30) rfl (by kernel_rfl) (by kernel_rfl) (by kernel_rfl) (fun _ _ _ h => h) (Or.inl ⟨by rfl, ?yoU_30⟩) (by assumption) ?roU_30
              case yoU_30 => (intro w hSw; (try dsimp only at hSw); unfold oU_29; go_simp; try with_reducible rfl)
              simp only [oU_29, Act.put, List.setIfInBounds_toArray, List.set_cons_zero, List.set_cons_succ]
              refine wpAnyH_take (i := 30) (oi := oU_30) (v := ?voU_31) rfl (by kernel_rfl) (by kernel_rfl) (by kernel_rfl) (fun _ _ _ h => h) (Or.inl ⟨by rfl, ?yoU_31⟩) (by assumption) ?roU_31
              case yoU_31 => (intro w hSw; (try dsimp only at hSw); unfold oU_30; go_simp; try with_reducible rfl)
              simp only [oU_30, Act.put, List.setIfInBounds_toArray, List.set_cons_zero, List.set_cons_succ]
              refine wpAnyH_take (i := 31) (oi := oU_31) (v := ?voU_32) rfl (by kernel_rfl) (by kernel_rfl) (by kernel_rfl) (fun _ _ _ h => h) (Or.inl ⟨by rfl, ?yoU_32⟩) (by assumption) ?roU_32
              case yoU_32 => (intro w hSw; (try dsimp only at hSw); unfold oU_31; go_simp; try with_reducible rfl)
              simp only [oU_31, Act.put, List.setIfInBounds_toArray, List.set_cons_zero, List.set_cons_succ]
              refine wpAnyH_take (i := 32) (oi := oU_32) (v := ?voU_33) rfl (by kernel_rfl) (by kernel_rfl) (by kernel_rfl) (fun _ _ _ h => h) (Or.inl ⟨by rfl, ?yoU_33⟩) (by assumption) ?roU_33
              case yoU_33 => (intro w hSw; (try dsimp only at hSw); unfold oU_32; go_simp; try with_reducible rfl)
              simp only [oU_32, Act.put, List.setIfInBounds_toArray, List.set_cons_zero, List.set_cons_succ]
              refine wpAnyH_take (i := 33) (oi := oU_33) (v := ?voU_34) rfl (by kernel_rfl) (by kernel_rfl) (by kernel_rfl) (fun _ _ _ h => h) (Or.inl ⟨by rfl, ?yoU_34⟩) (by assumption) ?roU_34
              case yoU_34 => (intro w hSw; (try dsimp only at hSw); unfold oU_33; go_simp; try with_reducible rfl)
              simp only [oU_33, Act.put, List.setIfInBounds_toArray, List.set_cons_zero, List.set_cons_succ]
              refine wpAnyH_take (i := 34) (oi := oU_34) (v := ?voU_35) rfl (by kernel_rfl) (by kernel_rfl) (by kernel_rfl) (fun _ _ _ h => h) (Or.inl ⟨by rfl, ?yoU_35⟩) (by assumption) ?roU_35
              case yoU_35 => (intro w hSw; (try dsimp only at hSw); unfold oU_34; go_simp; try with_reducible rfl)
              simp only [oU_34, Act.put, List.setIfInBounds_toArray, List.set_cons_zero, List.set_cons_succ]
              refine wpAnyH_take (i := 35) (oi := oU_35) (v := ?voU_36) rfl (by kernel_rfl) (by kernel_rfl) (by kernel_rfl) (fun _ _ _ h => h) (Or.inl ⟨by rfl, ?yoU_36⟩) (by assumption) ?roU_36
              case yoU_36 => (intro w hSw; (try dsimp only at hSw); unfold oU_35; go_simp; try with_reducible rfl)
              simp only [oU_35, Act.put, List.setIfInBounds_toArray, List.set_cons_zero, List.set_cons_succ]
              refine wpAnyH_take (i := 36) (oi := oU_36) (v := ?voU_37) rfl (by kernel_rfl) (by kernel_rfl) (by kernel_rfl) (fun _ _ _ h => h) (Or.inl ⟨by rfl, ?yoU_37⟩) (by assumption) ?roU_37
              case yoU_37 => (intro w hSw; (try dsimp only at hSw); unfold oU_36; go_simp; try with_reducible rfl)
              simp only [oU_36, Act.put, List.setIfInBounds_toArray, List.set_cons_zero, List.set_cons_succ]
              refine wpAnyH_take (i := 37) (oi := oU_37) (v := ?voU_38) rfl (by kernel_rfl) (by kernel_rfl) (by kernel_rfl) (fun _ _ _ h => h) (Or.inl ⟨by rfl, ?yoU_38⟩) (by assumption) ?roU_38
              case yoU_38 => (intro w hSw; (try dsimp only at hSw); unfold oU_37; go_simp; try with_reducible rfl)
              simp only [oU_37, Act.put, List.setIfInBounds_toArray, List.set_cons_zero, List.set_cons_succ]
              refine wpAnyH_take (i := 38) (oi := oU_38) (v := ?voU_39) rfl (by kernel_rfl) (by kernel_rfl) (by kernel_rfl) (fun _ _ _ h => h) (Or.inl ⟨by rfl, ?yoU_39⟩) (by assumption) ?roU_39
              case yoU_39 => (intro w hSw; (try dsimp only at hSw); unfold oU_38; go_simp; try with_reducible rfl)
              simp only [oU_38, Act.put, List.setIfInBounds_toArray, List.set_cons_zero, List.set_cons_succ]
              refine wpAnyH_take (i := 39) (oi := oU_39) (v := ?voU_40) rfl (by kernel_rfl) (by kernel_rfl) (by kernel_rfl) (fun _ _ _ h => h) (Or.inl ⟨by rfl, ?yoU_40⟩) (by assumption) ?roU_40
              case yoU_40 => (intro w hSw; (try dsimp only at hSw); unfold oU_39; go_simp; try with_reducible rfl)
              simp only [oU_39, Act.put, List.setIfInBounds_toArray, List.set_cons_zero, List.set_cons_succ]
              refine wpAnyH_take (i := 40) (oi := oU_40) (v := ?voU_41) rfl (by kernel_rfl) (by kernel_rfl) (by kernel_rfl) (fun _ _ _ h => h) (Or.inl ⟨by rfl, ?yoU_41⟩) (by assumption) ?roU_41
              case yoU_41 => (intro w hSw; (try dsimp only at hSw); unfold oU_40; go_simp; try with_reducible rfl)
              simp only [oU_40, Act.put, List.setIfInBounds_toArray, List.set_cons_zero, List.set_cons_succ]
              refine wpAnyH_take (i := 41) (oi := oU_41) (v := ?voU_42) rfl (by kernel_rfl) (by kernel_rfl) (by kernel_rfl) (fun _ _ _ h => h) (Or.inl ⟨by rfl, ?yoU_42⟩) (by assumption) ?roU_42
              case yoU_42 => (intro w hSw; (try dsimp only at hSw); unfold oU_41; go_simp; try with_reducible rfl)
              simp only [oU_41, Act.put, List.setIfInBounds_toArray, List.set_cons_zero, List.set_cons_succ]
              refine wpAnyH_take (i := 42) (oi := oU_42) (v := ?voU_43) rfl (by kernel_rfl) (by kernel_rfl) (by kernel_rfl) (fun _ _ _ h => h) (Or.inl ⟨by rfl, ?yoU_43⟩) (by assumption) ?roU_43
              case yoU_43 => (intro w hSw; (try dsimp only at hSw); unfold oU_42; go_simp; try with_reducible rfl)
              simp only [oU_42, Act.put, List.setIfInBounds_toArray, List.set_cons_zero, List.set_cons_succ]
              refine wpAnyH_take (i := 43) (oi := oU_43) (v := ?voU_44) rfl (by kernel_rfl) (by kernel_rfl) (by kernel_rfl) (fun _ _ _ h => h) (Or.inl ⟨by rfl, ?yoU_44⟩) (by assumption) ?roU_44
              case yoU_44 => (intro w hSw; (try dsimp only at hSw); unfold oU_43; go_simp; try with_reducible rfl)
              simp only [oU_43, Act.put, List.setIfInBounds_toArray, List.set_cons_zero, List.set_cons_succ]
              refine wpAnyH_take (i := 44) (oi := oU_44) (v := ?voU_45) rfl (by kernel_rfl) (by kernel_rfl) (by kernel_rfl) (fun _ _ _ h => h) (Or.inl ⟨by rfl, ?yoU_45⟩) (by assumption) ?roU_45
              case yoU_45 => (intro w hSw; (try dsimp only at hSw); unfold oU_44; go_simp; try with_reducible rfl)
              simp only [oU_44, Act.put, List.setIfInBounds_toArray, List.set_cons_zero, List.set_cons_succ]
              refine wpAnyH_take (i := 45) (oi := oU_45) (v := ?voU_46) rfl (by kernel_rfl) (by kernel_rfl) (by kernel_rfl) (fun _ _ _ h => h) (Or.inl ⟨by rfl, ?yoU_46⟩) (by assumption) ?roU_46
              case yoU_46 => (intro w hSw; (try dsimp only at hSw); unfold oU_45; go_simp; try with_reducible rfl)
              simp only [oU_45, Act.put, List.setIfInBounds_toArray, List.set_cons_zero, List.set_cons_succ]
              refine wpAnyH_take (i := 46) (oi := oU_46) (v := ?voU_47) rfl (by kernel_rfl) (by kernel_rfl) (by kernel_rfl) (fun _ _ _ h => h) (Or.inl ⟨by rfl, ?yoU_47⟩) (by assumption) ?roU_47
              case yoU_47 => (intro w hSw; (try dsimp only at hSw); unfold oU_46; go_simp; try with_reducible rfl)
              simp only [oU_46, Act.put, List.setIfInBounds_toArray, List.set_cons_zero, List.set_cons_succ]
              refine wpAnyH_take (i := 47) (oi := oU_47) (v := ?voU_48) rfl (by kernel_rfl) (by kernel_rfl) (by kernel_rfl) (fun _ _ _ h => h) (Or.inl ⟨by rfl, ?yoU_48⟩) (by assumption) ?roU_48
              case yoU_48 => (intro w hSw; (try dsimp only at hSw); unfold oU_47; go_simp; try with_reducible rfl)
              simp only [oU_47, Act.put, List.setIfInBounds_toArray, List.set_cons_zero, List.set_cons_succ]
              refine wpAnyH_take (i := 48) (oi := oU_48) (v := ?voU_49) rfl (by kernel_rfl) (by kernel_rfl) (by kernel_rfl) (fun _ _ _ h => h) (Or.inl ⟨by rfl, ?yoU_49⟩) (by assumption) ?roU_49
              case yoU_49 => (intro w hSw; (try dsimp only at hSw); unfold oU_48; go_simp; try with_reducible rfl)
              simp only [oU_48, Act.put, List.setIfInBounds_toArray, List.set_cons_zero, List.set_cons_succ]
              refine wpAnyH_take (i := 49) (oi := oU_49) (v := ?voU_50) rfl (by kernel_rfl) (by kernel_rfl) (by kernel_rfl) (fun _ _ _ h => h) (Or.inl ⟨by rfl, ?yoU_50⟩) (by assumption) ?roU_50
              case yoU_50 => (intro w hSw; (try dsimp only at hSw); unfold oU_49; go_simp; try with_reducible rfl)
              simp only [oU_49, Act.put, List.setIfInBounds_toArray, List.set_cons_zero, List.set_cons_succ]
              refine wpAnyH_take (i := 50) (oi := oU_50) (v := ?voU_51) rfl (by kernel_rfl) (by kernel_rfl) (by kernel_rfl) (fun _ _ _ h => h) (Or.inl ⟨by rfl, ?yoU_51⟩) (by assumption) ?roU_51
              case yoU_51 => (intro w hSw; (try dsimp only at hSw); unfold oU_50; go_simp; try with_reducible rfl)
              simp only [oU_50, Act.put, List.setIfInBounds_toArray, List.set_cons_zero, List.set_cons_succ]
              refine wpAnyH_take (i := 51) (oi := oU_51) (v := ?voU_52) rfl (by kernel_rfl) (by kernel_rfl) (by kernel_rfl) (fun _ _ _ h => h) (Or.inl ⟨by rfl, ?yoU_52⟩) (by assumption) ?roU_52
              case yoU_52 => (intro w hSw; (try dsimp only at hSw); unfold oU_51; go_simp; try with_reducible rfl)
              simp only [oU_51, Act.put, List.setIfInBounds_toArray, List.set_cons_zero, List.set_cons_succ]
              refine wpAnyH_take (i := 52) (oi := oU_52) (v := ?voU_53) rfl (by kernel_rfl) (by kernel_rfl) (by kernel_rfl) (fun _ _ _ h => h) (Or.inl ⟨by rfl, ?yoU_53⟩) (by assumption) ?roU_53
              case yoU_53 => (intro w hSw; (try dsimp only at hSw); unfold oU_52; go_simp; try with_reducible rfl)
              simp only [oU_52, Act.put, List.setIfInBounds_toArray, List.set_cons_zero, List.set_cons_succ]
              refine wpAnyH_take (i := 53) (oi := oU_53) (v := ?voU_54) rfl (by kernel_rfl) (by kernel_rfl) (by kernel_rfl) (fun _ _ _ h => h) (Or.inl ⟨by rfl, ?yoU_54⟩) (by assumption) ?roU_54
              case yoU_54 => (intro w hSw; (try dsimp only at hSw); unfold oU_53; go_simp; try with_reducible rfl)
              simp only [oU_53, Act.put, List.setIfInBounds_toArray, List.set_cons_zero, List.set_cons_succ]
              refine wpAnyH_take (i := 54) (oi := oU_54) (v := ?voU_55) rfl (by kernel_rfl) (by kernel_rfl) (by kernel_rfl) (fun _ _ _ h => h) (Or.inl ⟨by rfl, ?yoU_55⟩) (by assumption) ?roU_55
              case yoU_55 => (intro w hSw; (try dsimp only at hSw); unfold oU_54; go_simp; try with_reducible rfl)
              simp only [oU_54, Act.put, List.setIfInBounds_toArray, List.set_cons_zero, List.set_cons_succ]
              refine wpAnyH_done (by kernel_rfl) ?_ _
              refine NoPanic.normal ?_
              clear hHeld
              go_wp2_with fail
              go_ret
              exact ⟨rfl, x3.out.b⟩
            exact AllReadyH.nil
          exact AllReadyH.nil
        exact AllReadyH.nil
      exact AllReadyH.nil
  · rw [decide_eq_false h40]
    go_wp2_with fail
    refine (haw.out _).mono ?_
    rintro e w4 ⟨rfl, b4⟩
    go_wp2_with fail
    go_ret
    exact ⟨rfl, (x.out.below b4).b⟩

set_option maxRecDepth 100000 in
theorem lifted (os : Os) (started : os.Started) (H : Type) (enc : TypeId × Value → H) :
    ReturnsInHanded {} Try.checked os 3 .any (Rows.configTellsSpec.pre6 enc Try.prog Try.f3 Rows.configTellsRow.domain false) (Rows.configTellsSpec.post enc Try.prog Try.f3 false true false false) := by
  refine returnsInHanded_of_change (C := Try.checked) own started (by kernel_rfl) Try.func3
    (ChangeSpec.witness6 (enc := enc) (C := Try.checked) false ⟨#[], #[.agg #[.int .i64 0, .slice none 0 0], .agg #[.int .i64 0, .int .i64 0], .int .i64 0], []⟩ 8 (by kernel_rfl) (by kernel_rfl) (by kernel_rfl) (by kernel_rfl)) ?_
  intro W base args ds gs before hval0 hW _ _
  have hval : ∀ (j : Nat) t v, Try.f3.params[j]? = some t → args[j]? = some v → Value.okWide Try.prog W .any base t v := hval0
  have hW' := hW
  obtain ⟨p, q, hA0, hV, rfl, hfz, hnd⟩ := hW
  have hA : DataW.TrodAll enc Try.prog W 0 (fun _ => true) true Try.f3.params.toList args.toList ds p := hA0
  rw [Try.params3] at hA hval
  obtain ⟨v0, vs0, d0, ds0, p0, q0, hargs, rfl, rfl, h0, r0⟩ := trodAll_cons hA
  obtain ⟨v1, vs1, d1, ds1, p1, q1, rfl, rfl, rfl, h1, r1⟩ := trodAll_cons r0
  obtain ⟨v2, vs2, d2, ds2, p2, q2, rfl, rfl, rfl, h2, r2⟩ := trodAll_cons r1
  obtain ⟨rfl, rfl, rfl⟩ := trodAll_nil r2
  obtain rfl : args = #[v0, v1, v2] := by cases args; simp_all
  obtain ⟨rfl, rfl⟩ := trodVars_none hV
  have k0 := h0
  have lt0 : ∀ x ∈ p0, x.block < W.heap.size := by obtain ⟨m, hm⟩ := k0; exact DataW.trod_lt m _ _ _ hm
  obtain ⟨a0, q0, cap0, rfl, w0, hc0, hl0⟩ := open_cf (hval 0 24 v0 rfl rfl) h0
  have k1 := h1
  have lt1 : ∀ x ∈ p1, x.block < W.heap.size := by obtain ⟨m, hm⟩ := k1; exact DataW.trod_lt m _ _ _ hm
  obtain ⟨a1, rfl⟩ := open_mb (hval 1 26 v1 rfl rfl) h1
  have k2 := h2
  have lt2 : ∀ x ∈ p2, x.block < W.heap.size := by obtain ⟨m, hm⟩ := k2; exact DataW.trod_lt m _ _ _ hm
  obtain ⟨a2, rfl, -, -, w2⟩ := open_int Try.underlying3 (hval 2 3 v2 rfl rfl) h2
  clear hA0 hval0
  refine (walk a0 q0 cap0 a1 a2 W w0 hc0 hl0 w2).mono fun e W' ⟨he, bel⟩ => ?_
  subst he
  exact ⟨_, rfl, _, _, _, [], _, [], hW', trodAll_mk1 (shut_bool Try.underlying4 _), (trodAll_cons_mk (Below.trod laidOut11 (by kernel_rfl) (of_decide_eq_true (by kernel_rfl)) k0 bel lt0) (trodAll_cons_mk (Below.trod laidOut11 (by kernel_rfl) (of_decide_eq_true (by kernel_rfl)) k1 bel lt1) (trodAll_cons_mk (Below.trod laidOut11 (by kernel_rfl) (of_decide_eq_true (by kernel_rfl)) k2 bel lt2) trodAll_mk0))), rfl, bel.frame _, fun h => by cases h⟩

theorem over : Rows.configTellsRow.holds Try.pinned (OpenSpec.ofChange Rows.configTellsSpec) :=
  OpenClaim.holds_of_wide 3 Try.f3 rfl rfl rfl rfl rfl rfl rfl ⟨rfl, rfl, rfl, rfl, rfl⟩ rfl rfl rfl rfl rfl (by kernel_rfl) Try.func3 (by kernel_rfl)
    (of_decide_eq_true (by kernel_rfl)) (by unfold Func.isWrapper; first | (rw [if_pos (by decide +kernel)]; kernel_rfl) | (rw [if_neg (by decide +kernel)]; exact ⟨rfl, rfl⟩))
    (fun os started H enc _ => lifted os started H enc)

/-- The statement. -/
theorem proved : Rows.ConfigTellsSaid := over
#print axioms proved
end Go.Proofs.Ytnagidgffkffhaa.G.configTells
