/-
  CronParses holds: any text says the spec that the document says, or no times. No condition but the tables'.
-/
import Derived.Test.YtfeljdbodamflaaDoorLift
set_option linter.unusedVariables false
namespace Go.Proofs.YtfeljdbodamflaaDoor.cronParses
open Go.ChangeShapes Go.WideShapes Go.ChangeAt Go.RowKit Crn
open Go.ChangeMaps (open_string shut_string)

set_option maxRecDepth 100000 in
set_option maxHeartbeats 1000000 in
theorem walk_core (s : ByteArray) (x0 x1 x2 x3 x4 : Nat) (x5 x6 : Bool) (x7 er : Int) (ok : Bool) (w : World) (tb : Tab w) (hs : s.size ≤ 400) (her : (er == 0) = ok) (hbad : ok = false → (er == 7) = true)
    (C : Hid (∀ W, Tab W → Calls Tryd.prog 11 #[.string s] W fun e w' => e = .returned (.tuple #[.agg #[.int .u64 x0, .int .u64 x1, .int .u64 x2, .int .u64 x3, .int .u64 x4, .bool x5, .bool x6, .int .i64 x7], .int .i64 er]) ∧ Below W.heap.size W w'))
    (R : Hid (∀ W, Calls Tryd.prog 12 #[.string s] W fun e w' => e = .returned (.tuple #[.agg #[.int .u64 x0, .int .u64 x1, .int .u64 x2, .int .u64 x3, .int .u64 x4, .bool x5, .bool x6, .int .i64 x7], .bool ok]) ∧ Below W.heap.size W w')) :
    Calls Tryd.prog 3 #[.string s] w fun e w' => e = .returned (.bool true) ∧ Below w.heap.size w w' := by
  have ca := Lib.hid (awake_any w tb)
  have el : decide (400 < (s.size : Int)) = false := by simp; omega
  go_enter Tryd.func3, Tryd.ntmps3
  go_wp2_with fail
  refine ca.out.mono ?_
  rintro e w1 ⟨rfl, k1⟩
  have c1 := Lib.hid (C.out _ (tb.below k1))
  replace k1 := Lib.hid k1
  clear tb ca
  go_wp2_with fail
  refine c1.out.mono ?_
  rintro e w2 ⟨rfl, k2⟩
  have b2 := Lib.hid (k1.out.trans (k2.mono k1.out.size))
  have L2 := Lib.hid (Lies.start w2 [.int .u64 x0, .int .u64 x1, .int .u64 x2, .int .u64 x3, .int .u64 x4, .bool x5, .bool x6, .int .i64 x7] 25 #[.int .u64 x0, .int .u64 x1, .int .u64 x2, .int .u64 x3, .int .u64 x4, .bool x5, .bool x6, .int .i64 x7] rfl)
  have b3 := Lib.hid (b2.out.alloc b2.out.size (.cells #[.int .u64 x0, .int .u64 x1, .int .u64 x2, .int .u64 x3, .int .u64 x4, .bool x5, .bool x6, .int .i64 x7] 25))
  clear k1 k2 b2 c1
  go_wp2_with fail
  refine (R.out _).mono ?_
  generalize w2.alloc (.cells #[.int .u64 x0, .int .u64 x1, .int .u64 x2, .int .u64 x3, .int .u64 x4, .bool x5, .bool x6, .int .i64 x7] 25) = w3 at *
  generalize w2.heap.size = g at *
  rintro e w4 ⟨rfl, k4⟩
  have b4 := Lib.hid (b3.out.trans (k4.mono b3.out.size))
  have b5 := Lib.hid (b4.out.alloc b4.out.size (.cells #[.int .u64 x0, .int .u64 x1, .int .u64 x2, .int .u64 x3, .int .u64 x4, .bool x5, .bool x6, .int .i64 x7] 25))
  have L4 := Lib.hid ((L2.out.step (Nat.zero_lt_succ _) k4).step (Nat.zero_lt_succ _) ((Below.refl w4.heap.size w4).alloc (Nat.le_refl _) (.cells #[.int .u64 x0, .int .u64 x1, .int .u64 x2, .int .u64 x3, .int .u64 x4, .bool x5, .bool x6, .int .i64 x7] 25)))
  obtain ⟨y0, y1, y2, y3, y4, y5, y6, y7⟩ := L4.out.eight
  clear k4 b3 L2 b4
  cases ok
  · have h7 := hbad rfl
    clear hbad
    go_wp2_with fail
    go_ret
    exact ⟨rfl, b5.out⟩
  · clear hbad
    go_wp2_with fail
    go_ret
    exact ⟨rfl, b5.out⟩

set_option maxRecDepth 100000 in
theorem walk (s : ByteArray) (_ : s.size ≤ maxLen) (w : World) (tb : Tab w) :
    Calls Tryd.prog 3 #[.string s] w fun e w' => e = .returned (.bool true) ∧ Below w.heap.size w w' := by
  by_cases hs : s.size ≤ 400
  · have c := Lib.hid (fun W t => cParse_any s W t (by omega))
    have r := Lib.hid (fun W => refParse_any s W (by omega))
    cases hp : parse s.data.toList with
    | none =>
      rw [hp] at c r
      exact walk_core s 0 0 0 0 0 false false 0 7 false w tb hs rfl (fun _ => rfl) c r
    | some x =>
      rw [hp] at c r
      exact walk_core s x.min x.hour x.dom x.mon x.dow x.anyDom x.anyDow x.ahead 0 true w tb hs rfl (fun h => by cases h) c r
  · have ca := Lib.hid (fun W t => awake_any W t)
    have el : decide (400 < (s.size : Int)) = true := by simp; omega
    have c0 := Lib.hid (ca.out w tb)
    go_enter Tryd.func3, Tryd.ntmps3
    go_wp2_with fail
    refine c0.out.mono ?_
    rintro e w1 ⟨rfl, k1⟩
    have c1 := Lib.hid (ca.out w1 (tb.below k1))
    replace k1 := Lib.hid k1
    clear tb
    go_wp2_with fail
    refine c1.out.mono ?_
    rintro e w2 ⟨rfl, k2⟩
    replace k2 := Lib.hid k2
    go_wp2_with fail
    go_ret
    exact ⟨rfl, k1.out.trans (k2.out.mono k1.out.size)⟩

set_option maxRecDepth 100000 in
theorem contract (H : Type) (enc : TypeId × Value → H) (W : World) (base : Nat) (args : Array Value) (ds gs : List (DataW H)) (before : List MemPlace)
    (hval : ∀ (j : Nat) t v, Tryd.f3.params[j]? = some t → args[j]? = some v → Value.okWide Tryd.prog W .any base t v)
    (hW : DataW.Whole enc Tryd.prog Tryd.f3.params.toList Rows.cronParsesSpec.vars false W args.toList ds gs before) (hL : laidMetH Tryd.prog Rows.cronParsesRow.laid W) (hS : W.ShapedOpen Tryd.prog) :
    Calls Tryd.prog 3 args W fun e W' => ∃ v, e = .returned v ∧ Rows.cronParsesSpec.post enc Tryd.prog Tryd.f3 false true false false W args v W' := by
  have hW' := hW
  obtain ⟨p, q, hA0, hV, rfl, hfz, hnd⟩ := hW
  have hA : DataW.TrodAll enc Tryd.prog W 0 (fun _ => true) true Tryd.f3.params.toList args.toList ds p := hA0
  rw [Tryd.params3] at hA hval
  obtain ⟨v0, vs0, d0, ds0, p0, q0, hargs, rfl, rfl, h0, r0⟩ := trodAll_cons hA
  obtain ⟨rfl, rfl, rfl⟩ := trodAll_nil r0
  obtain rfl : args = #[v0] := by clear hL hS hW' hval; cases args; simp_all
  obtain ⟨rfl, rfl⟩ := trodVars_none hV
  obtain ⟨a0, rfl, rfl, rfl, w0⟩ := open_string Tryd.underlying9 (hval 0 9 v0 rfl rfl) h0
  clear hA0
  simp only [List.append_nil] at hW'
  refine (walk a0 w0 W (table hL hS)).mono fun e W' ⟨he, hg⟩ => ?_
  subst he
  exact ⟨_, rfl, _, _, _, [], [], [], hW', trodAll_cons_mk (shut_bool Tryd.underlying4 _) trodAll_mk0, trodAll_cons_mk (shut_string Tryd.underlying9 w0) trodAll_mk0, rfl, hg.frame _, fun h => by cases h⟩

theorem reads (os : Os) {H : Type} (enc : TypeId × Value → H) : ∃ places, DataW.whole enc Tryd.prog ((laidWorld os).forCall (fun _ _ => 0) ⟨#[], #[.string ByteArray.empty], []⟩).memory Tryd.f3.params.toList Rows.cronParsesSpec.vars false (#[.string ByteArray.empty] : Array Value).toList 8 = some ([.lit (.string [])], [], places) :=
  ⟨[], by kernel_rfl⟩

set_option maxRecDepth 100000 in
theorem lifted (os : Os) (started : os.Started) (H : Type) (enc : TypeId × Value → H) (F : Stop.Interp) :
    ReturnsInHanded {} Tryd.checked os 3 .any ((OpenSpec.ofChange Rows.cronParsesSpec).preRow enc Tryd.prog Tryd.f3 Rows.cronParsesRow.domain false Rows.cronParsesRow.laid) (((OpenSpec.ofChange Rows.cronParsesSpec).at F).post enc Tryd.prog Tryd.f3 false true false false) := by
  obtain ⟨places, hx⟩ := reads os enc
  refine returnsInHanded_of_row (C := Tryd.checked) (s := OpenSpec.ofChange Rows.cronParsesSpec) own started (by kernel_rfl) Tryd.func3
    (witness_row_at (enc := enc) (C := Tryd.checked) false (laidWorld os) #[.string ByteArray.empty] (World.laidAll_os _ _ _) (by kernel_rfl) (by kernel_rfl) (by kernel_rfl)
      (OpenSpec.preRow_of_cond 8 hx (by kernel_rfl) (fun k hk => by cases hk) (by kernel_rfl) (laid_met os _))) ?_
  intro W base args ds gs before hval hW _ _ _ hL hS _
  exact contract H enc W base args ds gs before hval hW hL hS

theorem said : Rows.CronParsesSaid :=
  OpenClaim.holds_of_cond 3 Tryd.f3 rfl rfl rfl rfl rfl rfl rfl ⟨rfl, rfl, rfl, rfl, rfl⟩ rfl rfl rfl rfl rfl (by kernel_rfl) Tryd.func3 (by kernel_rfl)
    (of_decide_eq_true (by kernel_rfl)) (by unfold Func.isWrapper; first | (rw [if_pos (by decide +kernel)]; kernel_rfl) | (rw [if_neg (by decide +kernel)]; exact ⟨rfl, rfl⟩))
    (fun os started H enc _ F => by rw [OpenClaim.pre_eq_preRow]; exact lifted os started H enc F)

theorem plain (f : FuncId) (fn : Func) (hf : Tryd.pinned.checked.prog.funcNamed "tompion/tompionlaw04.CronParses" = some f) (hfn : Tryd.pinned.checked.prog.funcs[f]? = some fn) :
    false = Tryd.pinned.checked.prog.looks [] ∧ ∀ (j : Nat) t, fn.params[j]? = some t → Tryd.pinned.checked.prog.wantsStandIn t = false := by
  obtain rfl : f = 3 := Option.some.inj ((show Tryd.prog.funcNamed "tompion/tompionlaw04.CronParses" = some 3 by kernel_rfl).symm.trans hf) |>.symm
  obtain rfl : fn = Tryd.f3 := (Option.some.inj (Tryd.func3.symm.trans hfn)).symm
  refine ⟨by kernel_rfl, fun j t ht => ?_⟩
  rw [Tryd.params3] at ht
  obtain rfl : t = 9 := by simpa using Array.mem_of_getElem? ht
  exact (show Tryd.prog.wantsStandIn 9 = false by kernel_rfl)

/-- The statement: the card, its tables tied to the program's text. -/
theorem proved : Rows.CronParsesCardSaid :=
  Claim7.holds_tied_plain_at .later [] _ _ _ _ said (fun _ h => by cases h) (by kernel_rfl) (fun _ h => by cases h) cronParses_row_tie rfl ⟨rfl, rfl⟩ (by kernel_rfl) rfl plain (by kernel_rfl)
#print axioms proved
end Go.Proofs.YtfeljdbodamflaaDoor.cronParses
