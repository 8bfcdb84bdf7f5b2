/-
  Layer 10: two operations that differ are told apart by '=='. No condition.
-/
import Derived.Test.YtaemoojhmknicaaPOp
import Derived.Test.YtaemoojhmknicaaProg
import Derived.Laws.StructEq
import Derived.WalkKit
import Derived.WalkSpells
set_option linter.unusedVariables false
set_option linter.unusedSimpArgs false
namespace Go.Proofs.Ytaemoojhmknicaa
open Go.RowKit Cod
set_option maxRecDepth 100000
theorem toList_inj {x y : ByteArray} (h : x.toList = y.toList) : x = y := by
  rw [ByteArray.toList_eq, ByteArray.toList_eq] at h
  exact WideShapes.bytes_inj h
theorem toList_ne {x y : ByteArray} (h : x ≠ y) : (x.toList == y.toList) = false := by
  rw [beq_eq_false_iff_ne]
  exact fun e => h (toList_inj e)
set_option maxHeartbeats 2000000 in
theorem eq_no (a b : OpN) (h : a ≠ b) (W : World) : (Op.equalIn 10000 23 (opV a) (opV b)).run Try.prog W = .ok false W := by
  obtain ⟨a0, a1, a2, a3, a4, a5, a6, a7, a8, a9⟩ := a
  obtain ⟨b0, b1, b2, b3, b4, b5, b6, b7, b8, b9⟩ := b
  rw [show (10000 : Nat) = 9999 + 1 from rfl, run_equalIn_agg W 9999 23 _ _ (by kernel_rfl) (by kernel_rfl)]
  by_cases h0 : a0 = b0
  · subst h0
    by_cases h1 : a1 = b1
    · subst h1
      by_cases h2 : a2 = b2
      · subst h2
        by_cases h3 : a3 = b3
        · subst h3
          by_cases h4 : a4 = b4
          · subst h4
            by_cases h5 : a5 = b5
            · subst h5
              by_cases h6 : a6 = b6
              · subst h6
                by_cases h7 : a7 = b7
                · subst h7
                  by_cases h8 : a8 = b8
                  · subst h8
                    by_cases h9 : a9 = b9
                    · subst h9; exact absurd rfl h
                    · have h9 : ¬ a9.toList = b9.toList := fun e => h9 (toList_inj e)
                      simp [go_sem, Op.eqFields, part, Try.underlying3, Try.underlying9, h9]
                  · simp [go_sem, Op.eqFields, part, Try.underlying3, Try.underlying9, h8]
                · simp [go_sem, Op.eqFields, part, Try.underlying3, Try.underlying9, h7]
              · simp [go_sem, Op.eqFields, part, Try.underlying3, Try.underlying9, h6]
            · simp [go_sem, Op.eqFields, part, Try.underlying3, Try.underlying9, h5]
          · simp [go_sem, Op.eqFields, part, Try.underlying3, Try.underlying9, h4]
        · simp [go_sem, Op.eqFields, part, Try.underlying3, Try.underlying9, h3]
      · simp [go_sem, Op.eqFields, part, Try.underlying3, Try.underlying9, h2]
    · simp [go_sem, Op.eqFields, part, Try.underlying3, Try.underlying9, h1]
  · simp [go_sem, Op.eqFields, part, Try.underlying3, Try.underlying9, h0]
theorem eq_yes (a : OpN) (W : World) : (Op.equalIn 10000 23 (opV a) (opV a)).run Try.prog W = .ok true W := by
  rw [show (10000 : Nat) = 9999 + 1 from rfl, run_equalIn_agg W 9999 23 _ _ (by kernel_rfl) (by kernel_rfl)]
  simp [go_sem, Op.eqFields, part, Try.underlying3, Try.underlying9]
end Go.Proofs.Ytaemoojhmknicaa
