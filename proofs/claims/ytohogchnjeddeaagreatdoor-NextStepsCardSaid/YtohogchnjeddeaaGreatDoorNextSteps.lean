/-
  NextSteps: the next time behind a time, and the next one behind that, rise; from anywhere between two the later one is next. No condition but what the card lists.
-/
import Derived.Test.YtohogchnjeddeaaGreatDoorLift
set_option linter.unusedVariables false
namespace Go.Proofs.YtohogchnjeddeaaGreatDoor.nextSteps
open Go.ChangeShapes Go.WideShapes Go.ChangeAt Go.RowKit Crn Nxt Civ
open Go.ChangeMaps (open_string shut_string)

set_option maxRecDepth 100000 in
set_option maxHeartbeats 1000000 in
theorem walk (x : SpecN) (hx : Fits x) (s : Int) (hw : (Lit.int .i64 s).wf = true) (bt : Int) (hw2 : (Lit.int .i64 bt).wf = true) (w : World) (tb : Tab w) (nt : NTab w) :
    Calls Tryz.prog 7 #[specV x, .int .i64 s, .int .i64 bt] w fun e w' => e = .returned (.bool true) ∧ Below w.heap.size w w' := by
  obtain ⟨s1, s2⟩ := wf_i64 hw
  have Cn := Lib.hid (fun (s : Int) W (s1 : -9223372036854775808 ≤ s) (s2 : s ≤ 9223372036854775807) h1 h2 => cNext_any x hx s s1 s2 W h1 h2)
  have Cw := Lib.hid (fun W h1 h2 => awake_any W h1 h2)
  have Hr : Hid (∀ a v, nextN x a = some v → a < v ∧ 0 ≤ v ∧ v ≤ 253402300799) := fun a v h => ⟨(nextN_range h).1, (nextN_range h).2.1, (nextN_range h).2.2.1⟩
  have Hb : Hid (∀ a b m, nextN x a = some b → a ≤ m → m < b → nextN x m = some b) := fun a b m h1 h2 h3 => next_between h1 h2 h3
  generalize nextN x = NX at *
  obtain ⟨U, hU⟩ : ∃ U : Nat, IntKind.u64.wrap bt = (U : Int) := ⟨(IntKind.u64.wrap bt).toNat, by rw [IntKind.wrap_u64]; omega⟩
  have hU9 : (U : Int) ≤ 18446744073709551615 := by rw [← hU, IntKind.wrap_u64]; omega
  clear hw hw2
  obtain ⟨x0, x1, x2, x3, x4, x5, x6, x7⟩ := x
  simp only [specV, cellsN] at *
  have t1 := Lib.hid (tb.alloc (.cells #[.int .u64 x0, .int .u64 x1, .int .u64 x2, .int .u64 x3, .int .u64 x4, .bool x5, .bool x6, .int .i64 x7] 24))
  have n1 := Lib.hid (nt.alloc (.cells #[.int .u64 x0, .int .u64 x1, .int .u64 x2, .int .u64 x3, .int .u64 x4, .bool x5, .bool x6, .int .i64 x7] 24))
  have B1 := Lib.hid (Box.start w x0 x1 x2 x3 x4 x5 x6 x7)
  have b1 := Lib.hid ((Below.refl w.heap.size w).alloc (Nat.le_refl _) (.cells #[.int .u64 x0, .int .u64 x1, .int .u64 x2, .int .u64 x3, .int .u64 x4, .bool x5, .bool x6, .int .i64 x7] 24))
  clear tb nt hx
  go_enter Tryz.func7, Tryz.ntmps7
  go_wp2_with fail
  refine (Cw.out _ t1.out n1.out).mono ?_
  rintro e w2 ⟨rfl, g⟩
  have t2 := Lib.hid (t1.out.below g)
  have n2 := Lib.hid (n1.out.below g)
  have B2 := Lib.hid (B1.out.step g)
  have b2 := Lib.hid (b1.out.trans (g.mono b1.out.size))
  clear g t1 n1 B1 b1
  obtain ⟨q0, q1, q2, q3, q4, q5, q6, q7⟩ := B2.out.all
  have c1 := Lib.hid (Cn.out s _ s1 s2 t2.out n2.out)
  cases h1 : NX s with
  | none =>
    rw [h1, answerX_none] at c1
    clear h1
    go_wp2_with fail
    refine (c1.out).mono ?_
    rintro e w3 ⟨rfl, g⟩
    have t3 := Lib.hid (t2.out.below g)
    have n3 := Lib.hid (n2.out.below g)
    have B3 := Lib.hid (B2.out.step g)
    have b3 := Lib.hid (b2.out.trans (g.mono b2.out.size))
    clear g t2 n2 B2 b2
    go_wp2_with fail
    go_ret
    exact ⟨by simp, b3.out⟩
  | some a =>
    rw [h1, answerX_some] at c1
    obtain ⟨a1, a2, a3⟩ := Hr.out _ _ h1
    replace h1 := Lib.hid h1
    go_wp2_with fail
    refine (c1.out).mono ?_
    rintro e w3 ⟨rfl, g⟩
    have t3 := Lib.hid (t2.out.below g)
    have n3 := Lib.hid (n2.out.below g)
    have B3 := Lib.hid (B2.out.step g)
    have b3 := Lib.hid (b2.out.trans (g.mono b2.out.size))
    clear g t2 n2 B2 b2
    clear q0 q1 q2 q3 q4 q5 q6 q7
    obtain ⟨q0, q1, q2, q3, q4, q5, q6, q7⟩ := B3.out.all
    have c2 := Lib.hid (Cn.out a _ (by omega) (by omega) t3.out n3.out)
    cases h2 : NX a with
    | none =>
      rw [h2, answerX_none] at c2
      clear h2
      go_wp2_with fail
      refine (c2.out).mono ?_
      rintro e w4 ⟨rfl, g⟩
      have t4 := Lib.hid (t3.out.below g)
      have n4 := Lib.hid (n3.out.below g)
      have B4 := Lib.hid (B3.out.step g)
      have b4 := Lib.hid (b3.out.trans (g.mono b3.out.size))
      clear g t3 n3 B3 b3
      go_wp2_with fail
      go_ret
      exact ⟨by simp, b4.out⟩
    | some b =>
      rw [h2, answerX_some] at c2
      obtain ⟨d1, d2, d3⟩ := Hr.out _ _ h2
      obtain ⟨M, hM⟩ : ∃ M : Nat, (U : Int) % (b - a) = (M : Int) := ⟨((U : Int) % (b - a)).toNat, by have := Int.emod_nonneg (U : Int) (show b - a ≠ 0 by omega); omega⟩
      have hM2 : (M : Int) < b - a := by rw [← hM]; exact Int.emod_lt_of_pos _ (by omega)
      have e1 : IntKind.u64.wrap (b - a) = b - a := IntWalk.u64_in _ (by omega)
      have e0 : (b - a == 0) = false := by simp; omega
      have hn := Hb.out a b (a + M) h2 (by omega) (by omega)
      replace h2 := Lib.hid h2
      go_wp2_with fail
      refine (c2.out).mono ?_
      rintro e w4 ⟨rfl, g⟩
      have t4 := Lib.hid (t3.out.below g)
      have n4 := Lib.hid (n3.out.below g)
      have B4 := Lib.hid (B3.out.step g)
      have b4 := Lib.hid (b3.out.trans (g.mono b3.out.size))
      clear g t3 n3 B3 b3
      clear q0 q1 q2 q3 q4 q5 q6 q7
      obtain ⟨q0, q1, q2, q3, q4, q5, q6, q7⟩ := B4.out.all
      have c3 := Lib.hid (Cn.out (a + M) _ (by omega) (by omega) t4.out n4.out)
      rw [hn, answerX_some] at c3
      clear hn c1 c2
      go_wp2_with fail
      refine (c3.out).mono ?_
      rintro e w5 ⟨rfl, g⟩
      have t5 := Lib.hid (t4.out.below g)
      have n5 := Lib.hid (n4.out.below g)
      have B5 := Lib.hid (B4.out.step g)
      have b5 := Lib.hid (b4.out.trans (g.mono b4.out.size))
      clear g t4 n4 B4 b4
      go_wp2_with fail
      go_ret
      exact ⟨by simp, b5.out⟩

set_option maxRecDepth 100000 in
theorem contract (H : Type) (enc : TypeId × Value → H) (W : World) (base : Nat) (args : Array Value) (ds gs : List (DataW H)) (before : List MemPlace)
    (hval : ∀ (j : Nat) t v, Tryz.f7.params[j]? = some t → args[j]? = some v → Value.okWide Tryz.prog W .any base t v)
    (hW : DataW.Whole enc Tryz.prog Tryz.f7.params.toList Rows.nextStepsSpec.vars false W args.toList ds gs before) (hL : laidMetH Tryz.prog Rows.nextStepsRow.laid W) (hS : W.ShapedOpen Tryz.prog) :
    Calls Tryz.prog 7 args W fun e W' => ∃ v, e = .returned v ∧ Rows.nextStepsSpec.post enc Tryz.prog Tryz.f7 false true false false W args v W' := by
  have hW' := hW
  obtain ⟨p, q, hA0, hV, rfl, hfz, hnd⟩ := hW
  have hA : DataW.TrodAll enc Tryz.prog W 0 (fun _ => true) true Tryz.f7.params.toList args.toList ds p := hA0
  rw [Tryz.params7] at hA hval
  obtain ⟨v0, vs0, d0, ds0, p0, q0, hargs, rfl, rfl, h0, r0⟩ := trodAll_cons hA
  obtain ⟨v1, vs1, d1, ds1, p1, q1, rfl, rfl, rfl, h1, r1⟩ := trodAll_cons r0
  obtain ⟨v2, vs2, d2, ds2, p2, q2, rfl, rfl, rfl, h2, r2⟩ := trodAll_cons r1
  obtain ⟨rfl, rfl, rfl⟩ := trodAll_nil r2
  obtain rfl : args = #[v0, v1, v2] := by clear hL hS hW' hval; cases args; simp_all
  obtain ⟨rfl, rfl⟩ := trodVars_none hV
  obtain ⟨a0, rfl, rfl, rfl, w0⟩ := open_spec (hval 0 24 v0 rfl rfl) h0
  obtain ⟨a1, rfl, rfl, rfl, w1⟩ := open_int Tryz.underlying3 (hval 1 3 v1 rfl rfl) h1
  obtain ⟨a2, rfl, rfl, rfl, w2⟩ := open_int Tryz.underlying3 (hval 2 3 v2 rfl rfl) h2
  clear hA0
  simp only [List.append_nil] at hW'
  refine (walk a0 w0 a1 w1 a2 w2 W (table hL hS) (tables hL hS)).mono fun e W' ⟨he, hg⟩ => ?_
  subst he
  exact ⟨_, rfl, _, _, _, [], [], [], hW', trodAll_cons_mk (shut_bool Tryz.underlying4 _) trodAll_mk0, trodAll_cons_mk (shut_spec w0) (trodAll_cons_mk (shut_int Tryz.underlying3 w1) (trodAll_cons_mk (shut_int Tryz.underlying3 w2) trodAll_mk0)), rfl, hg.frame _, fun h => by cases h⟩

theorem reads (os : Os) {H : Type} (enc : TypeId × Value → H) : ∃ places, DataW.whole enc Tryz.prog ((laidWorld os).forCall (fun _ _ => 0) ⟨#[], #[.agg #[.int .u64 0, .int .u64 0, .int .u64 0, .int .u64 0, .int .u64 0, .bool false, .bool false, .int .i64 0], .int .i64 0, .int .i64 0], []⟩).memory Tryz.f7.params.toList Rows.nextStepsSpec.vars false (#[.agg #[.int .u64 0, .int .u64 0, .int .u64 0, .int .u64 0, .int .u64 0, .bool false, .bool false, .int .i64 0], .int .i64 0, .int .i64 0] : Array Value).toList 8 = some ([.agg [.lit (.int .u64 0), .lit (.int .u64 0), .lit (.int .u64 0), .lit (.int .u64 0), .lit (.int .u64 0), .lit (.bool false), .lit (.bool false), .lit (.int .i64 0)], .lit (.int .i64 0), .lit (.int .i64 0)], [], places) :=
  ⟨[], by kernel_rfl⟩

set_option maxRecDepth 100000 in
theorem lifted (os : Os) (started : os.Started) (H : Type) (enc : TypeId × Value → H) (F : Stop.Interp) :
    ReturnsInHanded {} Tryz.checked os 7 .any ((OpenSpec.ofChange Rows.nextStepsSpec).preRow enc Tryz.prog Tryz.f7 Rows.nextStepsRow.domain false Rows.nextStepsRow.laid) (((OpenSpec.ofChange Rows.nextStepsSpec).at F).post enc Tryz.prog Tryz.f7 false true false false) := by
  obtain ⟨places, hx⟩ := reads os enc
  refine returnsInHanded_of_row (C := Tryz.checked) (s := OpenSpec.ofChange Rows.nextStepsSpec) own started (by kernel_rfl) Tryz.func7
    (witness_row_at (enc := enc) (C := Tryz.checked) false (laidWorld os) #[.agg #[.int .u64 0, .int .u64 0, .int .u64 0, .int .u64 0, .int .u64 0, .bool false, .bool false, .int .i64 0], .int .i64 0, .int .i64 0] (World.laidAll_os _ _ _) (by kernel_rfl) (by kernel_rfl) (by kernel_rfl)
      (OpenSpec.preRow_of_cond 8 hx (by kernel_rfl) (fun k hk => by cases hk) (by kernel_rfl) (laid_met os _))) ?_
  intro W base args ds gs before hval hW _ _ _ hL hS _
  exact contract H enc W base args ds gs before hval hW hL hS

theorem said : Rows.NextStepsSaid :=
  OpenClaim.holds_of_cond 7 Tryz.f7 rfl rfl rfl rfl rfl rfl rfl ⟨rfl, rfl, rfl, rfl, rfl⟩ rfl rfl rfl rfl rfl (by kernel_rfl) Tryz.func7 (by kernel_rfl)
    (of_decide_eq_true (by kernel_rfl)) (by unfold Func.isWrapper; first | (rw [if_pos (by decide +kernel)]; kernel_rfl) | (rw [if_neg (by decide +kernel)]; exact ⟨rfl, rfl⟩))
    (fun os started H enc _ F => by rw [OpenClaim.pre_eq_preRow]; exact lifted os started H enc F)

theorem plain (f : FuncId) (fn : Func) (hf : Tryz.pinned.checked.prog.funcNamed "tompion/tompionlaw05.NextSteps" = some f) (hfn : Tryz.pinned.checked.prog.funcs[f]? = some fn) :
    false = Tryz.pinned.checked.prog.looks [] ∧ ∀ (j : Nat) t, fn.params[j]? = some t → Tryz.pinned.checked.prog.wantsStandIn t = false := by
  obtain rfl : f = 7 := Option.some.inj ((show Tryz.prog.funcNamed "tompion/tompionlaw05.NextSteps" = some 7 by kernel_rfl).symm.trans hf) |>.symm
  obtain rfl : fn = Tryz.f7 := (Option.some.inj (Tryz.func7.symm.trans hfn)).symm
  refine ⟨by kernel_rfl, fun j t ht => ?_⟩
  rw [Tryz.params7] at ht
  have hm := Array.mem_of_getElem? ht
  simp at hm
  rcases hm with rfl | rfl
  · exact (show Tryz.prog.wantsStandIn 24 = false by kernel_rfl)
  · exact (show Tryz.prog.wantsStandIn 3 = false by kernel_rfl)

/-- The statement: the card, its tables tied to the program's text. -/
theorem proved : Rows.NextStepsCardSaid :=
  Claim7.holds_tied_plain_at .later [] _ _ _ _ said (fun _ h => by cases h) (by kernel_rfl) (fun _ h => by cases h) nextSteps_row_tie rfl ⟨rfl, rfl⟩ (by kernel_rfl) rfl plain (by kernel_rfl)
#print axioms proved
end Go.Proofs.YtohogchnjeddeaaGreatDoor.nextSteps
