/-
  Any operation has the bytes that the document says, or none, and is read as it was. Condition: none.
-/
import Derived.Test.YtaemoojhmknicaaPAwake
import Derived.Test.YtaemoojhmknicaaPOpen
import Derived.Test.YtaemoojhmknicaaPRTake
import Derived.Test.YtaemoojhmknicaaRows
namespace Go.Proofs.Ytaemoojhmknicaa.opbytesPrints
open Go.ChangeShapes Go.WideShapes Go.ChangeAt Go.RowKit Cod
open Go.ChangeMaps (open_string shut_string)
set_option linter.unusedVariables false

theorem own : ownKnob Try.prog.godebug = none := by kernel_rfl

set_option maxHeartbeats 4000000 in
set_option maxRecDepth 100000 in
theorem walk (o : OpN) (w : World) (z : OpIs o) :
    Calls Try.prog 3 #[opV o] w fun e w' => e = .returned (.bool true) ∧ Below w.heap.size w w' := by
  have hbox := OpBox.new w o 23
  have b0 : Hid (Below w.heap.size w (w.alloc (.cells (opC o) 23))) := (Below.refl _ _).alloc (Nat.le_refl _) _
  replace hbox := Lib.hid hbox
  by_cases hc : o.cron.size ≤ 1000
  · have hc1 : ¬ (1000 : Int) < o.cron.size := by omega
    have cp := Lib.hid (fun X => print_any o X z.int (by omega))
    have cm := Lib.hid (fun X => may_any o X (by omega))
    cases ho : okOp o
    · rw [ho] at cm
      have e1 : printS o = ⟨#[]⟩ := by unfold printS; rw [ho]; rfl
      have e2 : printE o = 1 := by unfold printE; rw [ho]; rfl
      rw [e1, e2] at cp
      clear e1 e2 ho
      replace hc := Lib.hid hc
      go_enter Try.func3, Try.ntmps3
      go_wp2_with fail
      refine (awake_any _).mono ?_
      rintro e w1 ⟨rfl, b1⟩
      have q9 := (hbox.out.below b1).nine.2.2.2.2.2.2.2.2
      replace hbox := Lib.hid (hbox.out.below b1)
      replace b0 := Lib.hid (b0.out.trans (b1.mono b0.out.size))
      clear b1
      have q0 := hbox.out.cell 0 _ rfl
      obtain ⟨q1, q2, q3, q4, q5, q6, q7, q8, -⟩ := hbox.out.nine
      go_wp2_with fail
      refine (cp.out _).mono ?_
      rintro e w2 ⟨rfl, b2⟩
      replace hbox := Lib.hid (hbox.out.below b2)
      replace b0 := Lib.hid (b0.out.trans (b2.mono b0.out.size))
      clear q0 q1 q2 q3 q4 q5 q6 q7 q8 q9 b2
      have q0 := hbox.out.cell 0 _ rfl
      obtain ⟨q1, q2, q3, q4, q5, q6, q7, q8, q9⟩ := hbox.out.nine
      go_wp2_with fail
      refine (cm.out _).mono ?_
      rintro e w3 ⟨rfl, b3⟩
      replace b0 := Lib.hid (b0.out.trans (b3.mono b0.out.size))
      clear q0 q1 q2 q3 q4 q5 q6 q7 q8 q9 b3
      go_wp2_with fail
      go_ret
      exact ⟨rfl, b0.out⟩
    · rw [ho] at cm
      have e1 : printS o = opB o := by unfold printS; rw [ho]; rfl
      have e2 : printE o = 0 := by unfold printE; rw [ho]; rfl
      rw [e1, e2] at cp
      have hsz := opB_size z.int (by omega)
      have cr := Lib.hid (fun X => opread_any (opB o) X (by omega))
      obtain ⟨r1, r2⟩ := read_back ho z.int
      have r3 : readE (opB o) = 0 := by unfold readE; rw [if_pos r1]
      rw [r2, r3] at cr
      have cd := Lib.hid (fun X => refPrint_any o X ho z.int)
      have cu := Lib.hid (fun X => put_any o X ho z.int)
      clear e1 e2 ho hsz r1 r2 r3
      replace hc := Lib.hid hc
      generalize opB o = S at *
      go_enter Try.func3, Try.ntmps3
      go_wp2_with fail
      have q0 := hbox.out.cell 0 _ rfl
      obtain ⟨q1, q2, q3, q4, q5, q6, q7, q8, q9⟩ := hbox.out.nine
      refine (awake_any _).mono ?_
      rintro e w1 ⟨rfl, bx⟩
      replace hbox := Lib.hid (hbox.out.below bx)
      replace b0 := Lib.hid (b0.out.trans (bx.mono b0.out.size))
      clear q0 q1 q2 q3 q4 q5 q6 q7 q8 q9 bx
      have q0 := hbox.out.cell 0 _ rfl
      obtain ⟨q1, q2, q3, q4, q5, q6, q7, q8, q9⟩ := hbox.out.nine
      go_wp2_with fail
      refine (cp.out _).mono ?_
      rintro e w2 ⟨rfl, bx⟩
      replace hbox := Lib.hid (hbox.out.below bx)
      replace b0 := Lib.hid (b0.out.trans (bx.mono b0.out.size))
      clear q0 q1 q2 q3 q4 q5 q6 q7 q8 q9 bx
      have q0 := hbox.out.cell 0 _ rfl
      obtain ⟨q1, q2, q3, q4, q5, q6, q7, q8, q9⟩ := hbox.out.nine
      go_wp2_with fail
      refine (cm.out _).mono ?_
      rintro e w3 ⟨rfl, bx⟩
      replace hbox := Lib.hid (hbox.out.below bx)
      replace b0 := Lib.hid (b0.out.trans (bx.mono b0.out.size))
      clear q0 q1 q2 q3 q4 q5 q6 q7 q8 q9 bx
      have q0 := hbox.out.cell 0 _ rfl
      obtain ⟨q1, q2, q3, q4, q5, q6, q7, q8, q9⟩ := hbox.out.nine
      go_wp2_with fail
      refine (cr.out _).mono ?_
      rintro e w4 ⟨rfl, b4⟩
      replace hbox := Lib.hid (hbox.out.below b4)
      replace b0 := Lib.hid (b0.out.trans (b4.mono b0.out.size))
      have hnew := Lib.hid (OpBox.new w4 o 23)
      replace hbox := Lib.hid (hbox.out.below ((Below.refl _ _).alloc (Nat.le_refl w4.heap.size) (Obj.cells (opC o) 23)))
      replace b0 := Lib.hid (b0.out.alloc b0.out.size (Obj.cells (opC o) 23))
      clear q0 q1 q2 q3 q4 q5 q6 q7 q8 q9 b4
      go_upto_region 7 with fail
      generalize w4.alloc (Obj.cells (opC o) 23) = w5 at *
      generalize w4.heap.size = qn at *
      have q0 := hbox.out.cell 0 _ rfl
      obtain ⟨q1, q2, q3, q4, q5, q6, q7, q8, q9⟩ := hbox.out.nine
      go_wp2_with fail
      refine (cd.out _).mono ?_
      rintro e w6 ⟨rfl, bx⟩
      replace hbox := Lib.hid (hbox.out.below bx)
      replace hnew := Lib.hid (hnew.out.below bx)
      replace b0 := Lib.hid (b0.out.trans (bx.mono b0.out.size))
      clear q0 q1 q2 q3 q4 q5 q6 q7 q8 q9 bx
      have q0 := hbox.out.cell 0 _ rfl
      obtain ⟨q1, q2, q3, q4, q5, q6, q7, q8, q9⟩ := hbox.out.nine
      go_wp2_with fail
      refine (cu.out _).mono ?_
      rintro e w7 ⟨rfl, bx⟩
      replace hbox := Lib.hid (hbox.out.below bx)
      replace hnew := Lib.hid (hnew.out.below bx)
      replace b0 := Lib.hid (b0.out.trans (bx.mono b0.out.size))
      clear q0 q1 q2 q3 q4 q5 q6 q7 q8 q9 bx
      have q0 := hbox.out.cell 0 _ rfl
      obtain ⟨q1, q2, q3, q4, q5, q6, q7, q8, q9⟩ := hbox.out.nine
      have p0 := hnew.out.cell 0 _ rfl
      obtain ⟨p1, p2, p3, p4, p5, p6, p7, p8, p9⟩ := hnew.out.nine
      go_wp2_with fail
      go_ret
      exact ⟨rfl, b0.out⟩
  · have hc1 : (1000 : Int) < o.cron.size := by omega
    replace hc := Lib.hid hc
    go_enter Try.func3, Try.ntmps3
    go_wp2_with fail
    refine (awake_any _).mono ?_
    rintro e w1 ⟨rfl, b1⟩
    have q9 := (hbox.out.below b1).nine.2.2.2.2.2.2.2.2
    replace b0 := Lib.hid (b0.out.trans (b1.mono b0.out.size))
    clear b1
    go_wp2_with fail
    refine (awake_any _).mono ?_
    rintro e w2 ⟨rfl, b2⟩
    replace b0 := Lib.hid (b0.out.trans (b2.mono b0.out.size))
    clear q9 b2
    go_wp2_with fail
    go_ret
    exact ⟨rfl, b0.out⟩

set_option maxRecDepth 100000 in
theorem lifted (os : Os) (started : os.Started) (H : Type) (enc : TypeId × Value → H) :
    ReturnsInHanded {} Try.checked os 3 .any (Rows.opbytesPrintsSpec.pre6 enc Try.prog Try.f3 Rows.opbytesPrintsRow.domain false) (Rows.opbytesPrintsSpec.post enc Try.prog Try.f3 false true false false) := by
  refine returnsInHanded_of_change (C := Try.checked) own started (by kernel_rfl) Try.func3
    (ChangeSpec.witness6 (enc := enc) (C := Try.checked) false ⟨#[], #[.agg #[.int .i64 0, .int .i64 0, .int .i64 0, .int .i64 0, .int .i64 0, .int .i64 0, .int .i64 0, .int .i64 0, .int .i64 0, .string ByteArray.empty]], []⟩ 8 (by kernel_rfl) (by kernel_rfl) (by kernel_rfl) (by kernel_rfl)) ?_
  intro W base args ds gs before hval0 hW _ _
  have hval : ∀ (j : Nat) t v, Try.f3.params[j]? = some t → args[j]? = some v → Value.okWide Try.prog W .any base t v := hval0
  have hW' := hW
  obtain ⟨p, q, hA0, hV, rfl, hfz, hnd⟩ := hW
  have hA : DataW.TrodAll enc Try.prog W 0 (fun _ => true) true Try.f3.params.toList args.toList ds p := hA0
  rw [Try.params3] at hA hval
  obtain ⟨v0, vs0, d0, ds0, p0, q0, hargs, rfl, rfl, h0, r0⟩ := trodAll_cons hA
  obtain ⟨rfl, rfl, rfl⟩ := trodAll_nil r0
  obtain rfl : args = #[v0] := by cases args; simp_all
  obtain ⟨rfl, rfl⟩ := trodVars_none hV
  obtain ⟨a0, rfl, rfl, rfl, w0⟩ := open_op (hval 0 23 v0 rfl rfl) h0
  clear hA0 hval0
  simp only [List.append_nil] at hW'
  refine (walk a0 W w0).mono fun e W' ⟨he, bel⟩ => ?_
  subst he
  exact ⟨_, rfl, _, _, _, [], [], [], hW', trodAll_mk1 (shut_bool Try.underlying4 _), (trodAll_cons_mk (shut_op w0) trodAll_mk0), rfl, bel.frame _, fun h => by cases h⟩

theorem over : Rows.opbytesPrintsRow.holds Try.pinned (OpenSpec.ofChange Rows.opbytesPrintsSpec) :=
  OpenClaim.holds_of_wide 3 Try.f3 rfl rfl rfl rfl rfl rfl rfl ⟨rfl, rfl, rfl, rfl, rfl⟩ rfl rfl rfl rfl rfl (by kernel_rfl) Try.func3 (by kernel_rfl)
    (of_decide_eq_true (by kernel_rfl)) (by unfold Func.isWrapper; first | (rw [if_pos (by decide +kernel)]; kernel_rfl) | (rw [if_neg (by decide +kernel)]; exact ⟨rfl, rfl⟩))
    (fun os started H enc _ => lifted os started H enc)

/-- The statement. -/
theorem proved : Rows.OpbytesPrintsSaid := over
#print axioms proved
end Go.Proofs.Ytaemoojhmknicaa.opbytesPrints
