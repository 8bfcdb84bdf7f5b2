/-
  NextAhead: a clock that is ahead comes to its times so much earlier. No condition but what the card lists.
-/
import Derived.Test.YtohogchnjeddeaaGreatDoorLift
import Derived.Deep.Cut
set_option linter.unusedVariables false
namespace Go.Proofs.YtohogchnjeddeaaGreatDoor.nextAhead
open Go.ChangeShapes Go.WideShapes Go.ChangeAt Go.RowKit Crn Nxt Civ
open Go.ChangeMaps (open_string shut_string)

set_option maxRecDepth 100000 in
set_option maxHeartbeats 1000000 in
theorem walk (x : SpecN) (hx : Fits x) (ah : Int) (hw : (Lit.int .i64 ah).wf = true) (s : Int) (hw2 : (Lit.int .i64 s).wf = true) (w : World) (tb : Tab w) (nt : NTab w) :
    Calls Tryz.prog 8 #[specV x, .int .i64 ah, .int .i64 s] w fun e w' => e = .returned (.bool true) ∧ Below w.heap.size w w' := by
  obtain ⟨U1, hU1⟩ : ∃ U : Nat, IntKind.u64.wrap ah = (U : Int) := ⟨(IntKind.u64.wrap ah).toNat, by rw [IntKind.wrap_u64]; omega⟩
  obtain ⟨U2, hU2⟩ : ∃ U : Nat, IntKind.u64.wrap s = (U : Int) := ⟨(IntKind.u64.wrap s).toNat, by rw [IntKind.wrap_u64]; omega⟩
  obtain ⟨K, hK⟩ : ∃ K : Nat, (U1 : Int) % 800 = (K : Int) := ⟨U1 % 800, by omega⟩
  obtain ⟨M, hM⟩ : ∃ M : Nat, (U2 : Int) % 2000000000 = (M : Int) := ⟨U2 % 2000000000, by omega⟩
  have hK8 : (K : Int) < 800 := by omega
  obtain ⟨A, hA⟩ : ∃ A : Nat, 90000 + (M : Int) = (A : Int) := ⟨90000 + M, by omega⟩
  obtain ⟨T, hT⟩ : ∃ T : Nat, (A : Int) + 60 * (K : Int) = (T : Int) := ⟨A + 60 * K, by omega⟩
  have hM8 : (M : Int) < 2000000000 := by omega
  have hA8 : (A : Int) ≤ 2100000000 := by omega
  have hT8 : (T : Int) ≤ 2200000000 := by omega
  have Cw := Lib.hid (fun W h1 h2 => awake_any W h1 h2)
  have Fy : Hid (Fits { x with ahead := (K : Int) }) := ⟨hx.min, hx.hour, hx.dom, hx.mon, hx.dow, by show -9223372036854775808 ≤ (K : Int); omega, by show (K : Int) ≤ 9223372036854775807; omega⟩
  have Cn := Lib.hid (fun W h1 h2 => cNext_any x hx (T : Int) (by omega) (by omega) W h1 h2)
  have Cy := Lib.hid (fun W h1 h2 => cNext_any { x with ahead := (K : Int) } Fy.out (A : Int) (by omega) (by omega) W h1 h2)
  have He : Hid (x.ahead = 0 → nextN { x with ahead := (K : Int) } (A : Int) = (nextN x (T : Int)).map (· - 60 * (K : Int))) := fun h => by rw [← hT]; exact next_ahead h (by omega) (by omega) (by omega)
  have Hr : Hid (∀ v, nextN x (T : Int) = some v → 0 ≤ v ∧ v ≤ 253402300799) := fun v h => ⟨(nextN_range h).2.1, (nextN_range h).2.2.1⟩
  generalize nextN x (T : Int) = R at *
  generalize nextN { x with ahead := (K : Int) } (A : Int) = R2 at *
  clear hw hw2 Fy
  obtain ⟨x0, x1, x2, x3, x4, x5, x6, x7⟩ := x
  simp only [specV, cellsN] at *
  have t1 := Lib.hid (tb.alloc (.cells #[.int .u64 x0, .int .u64 x1, .int .u64 x2, .int .u64 x3, .int .u64 x4, .bool x5, .bool x6, .int .i64 x7] 24))
  have n1 := Lib.hid (nt.alloc (.cells #[.int .u64 x0, .int .u64 x1, .int .u64 x2, .int .u64 x3, .int .u64 x4, .bool x5, .bool x6, .int .i64 x7] 24))
  have B1 := Lib.hid (Box.start w x0 x1 x2 x3 x4 x5 x6 x7)
  have b1 := Lib.hid ((Below.refl w.heap.size w).alloc (Nat.le_refl _) (.cells #[.int .u64 x0, .int .u64 x1, .int .u64 x2, .int .u64 x3, .int .u64 x4, .bool x5, .bool x6, .int .i64 x7] 24))
  clear tb nt hx
  go_enter Tryz.func8, Tryz.ntmps8
  go_wp2_with fail
  clear hU1 hU2 hK hM hA
  refine (Cw.out _ t1.out n1.out).mono ?_
  rintro e w2 ⟨rfl, g⟩
  have t2 := Lib.hid (t1.out.below g)
  have n2 := Lib.hid (n1.out.below g)
  have B2 := Lib.hid (B1.out.step g)
  have b2 := Lib.hid (b1.out.trans (g.mono b1.out.size))
  clear g t1 n1 B1 b1
  obtain ⟨q0, q1, q2, q3, q4, q5, q6, q7⟩ := B2.out.all
  by_cases h0 : x7 = 0
  · subst h0
    have hR := He.out rfl
    subst hR
    have By := Lib.hid (Box.start w2 x0 x1 x2 x3 x4 x5 x6 (K : Int))
    have ky := (Below.refl w2.heap.size w2).alloc (Nat.le_refl _) (.cells #[.int .u64 x0, .int .u64 x1, .int .u64 x2, .int .u64 x3, .int .u64 x4, .bool x5, .bool x6, .int .i64 (K : Int)] 24)
    have t3 := Lib.hid (t2.out.below ky)
    have n3 := Lib.hid (n2.out.below ky)
    have B3 := Lib.hid (B2.out.step ky)
    have b3 := Lib.hid (b2.out.trans (ky.mono b2.out.size))
    clear ky He
    go_upto_region 7 with fail
    clear q0 q1 q2 q3 q4 q5 q6 q7 t2 n2 B2 b2
    generalize w2.alloc (.cells #[.int .u64 x0, .int .u64 x1, .int .u64 x2, .int .u64 x3, .int .u64 x4, .bool x5, .bool x6, .int .i64 (K : Int)] 24) = w3 at *
    obtain ⟨q0, q1, q2, q3, q4, q5, q6, q7⟩ := B3.out.all
    go_wp2_with fail
    clear q0 q1 q2 q3 q4 q5 q6 q7
    refine (Cn.out _ t3.out n3.out).mono ?_
    rintro e w4 ⟨rfl, g⟩
    have t4 := Lib.hid (t3.out.below g)
    have n4 := Lib.hid (n3.out.below g)
    have By4 := Lib.hid (By.out.step g)
    have b4 := Lib.hid (b3.out.trans (g.mono b3.out.size))
    clear g t3 n3 B3 b3 By
    obtain ⟨q0, q1, q2, q3, q4, q5, q6, q7⟩ := By4.out.all
    cases R with
    | none =>
      rw [Option.map_none, answerX_none] at Cy
      rw [answerX_none]
      go_wp2_with fail
      refine (Cy.out _ t4.out n4.out).mono ?_
      rintro e w5 ⟨rfl, g⟩
      have b5 := Lib.hid (b4.out.trans (g.mono b4.out.size))
      clear g q0 q1 q2 q3 q4 q5 q6 q7
      go_wp2_with fail
      go_ret
      exact ⟨by simp, b5.out⟩
    | some v =>
      obtain ⟨r1, r2⟩ := Hr.out v rfl
      rw [Option.map_some, answerX_some] at Cy
      rw [answerX_some]
      go_wp2_with fail
      refine (Cy.out _ t4.out n4.out).mono ?_
      rintro e w5 ⟨rfl, g⟩
      have b5 := Lib.hid (b4.out.trans (g.mono b4.out.size))
      clear g q0 q1 q2 q3 q4 q5 q6 q7
      go_wp2_with fail
      go_ret
      exact ⟨by simp, b5.out⟩
  · have e0 : (x7 != 0) = true := by simp [h0]
    clear h0
    go_wp2_with fail
    refine (Cw.out _ t2.out n2.out).mono ?_
    rintro e w3 ⟨rfl, g⟩
    have t3 := Lib.hid (t2.out.below g)
    have n3 := Lib.hid (n2.out.below g)
    have B3 := Lib.hid (B2.out.step g)
    have b3 := Lib.hid (b2.out.trans (g.mono b2.out.size))
    clear g t2 n2 B2 b2
    go_wp2_with fail
    go_ret
    exact ⟨rfl, b3.out⟩

set_option maxRecDepth 100000 in
theorem contract (H : Type) (enc : TypeId × Value → H) (W : World) (base : Nat) (args : Array Value) (ds gs : List (DataW H)) (before : List MemPlace)
    (hval : ∀ (j : Nat) t v, Tryz.f8.params[j]? = some t → args[j]? = some v → Value.okWide Tryz.prog W .any base t v)
    (hW : DataW.Whole enc Tryz.prog Tryz.f8.params.toList Rows.nextAheadSpec.vars false W args.toList ds gs before) (hL : laidMetH Tryz.prog Rows.nextAheadRow.laid W) (hS : W.ShapedOpen Tryz.prog) :
    Calls Tryz.prog 8 args W fun e W' => ∃ v, e = .returned v ∧ Rows.nextAheadSpec.post enc Tryz.prog Tryz.f8 false true false false W args v W' := by
  have hW' := hW
  obtain ⟨p, q, hA0, hV, rfl, hfz, hnd⟩ := hW
  have hA : DataW.TrodAll enc Tryz.prog W 0 (fun _ => true) true Tryz.f8.params.toList args.toList ds p := hA0
  rw [Tryz.params8] at hA hval
  obtain ⟨v0, vs0, d0, ds0, p0, q0, hargs, rfl, rfl, h0, r0⟩ := trodAll_cons hA
  obtain ⟨v1, vs1, d1, ds1, p1, q1, rfl, rfl, rfl, h1, r1⟩ := trodAll_cons r0
  obtain ⟨v2, vs2, d2, ds2, p2, q2, rfl, rfl, rfl, h2, r2⟩ := trodAll_cons r1
  obtain ⟨rfl, rfl, rfl⟩ := trodAll_nil r2
  obtain rfl : args = #[v0, v1, v2] := by clear hL hS hW' hval; cases args; simp_all
  obtain ⟨rfl, rfl⟩ := trodVars_none hV
  obtain ⟨a0, rfl, rfl, rfl, w0⟩ := open_spec (hval 0 24 v0 rfl rfl) h0
  obtain ⟨a1, rfl, rfl, rfl, w1⟩ := open_int Tryz.underlying3 (hval 1 3 v1 rfl rfl) h1
  obtain ⟨a2, rfl, rfl, rfl, w2⟩ := open_int Tryz.underlying3 (hval 2 3 v2 rfl rfl) h2
  clear hA0
  simp only [List.append_nil] at hW'
  refine (walk a0 w0 a1 w1 a2 w2 W (table hL hS) (tables hL hS)).mono fun e W' ⟨he, hg⟩ => ?_
  subst he
  exact ⟨_, rfl, _, _, _, [], [], [], hW', trodAll_cons_mk (shut_bool Tryz.underlying4 _) trodAll_mk0, trodAll_cons_mk (shut_spec w0) (trodAll_cons_mk (shut_int Tryz.underlying3 w1) (trodAll_cons_mk (shut_int Tryz.underlying3 w2) trodAll_mk0)), rfl, hg.frame _, fun h => by cases h⟩

theorem reads (os : Os) {H : Type} (enc : TypeId × Value → H) : ∃ places, DataW.whole enc Tryz.prog ((laidWorld os).forCall (fun _ _ => 0) ⟨#[], #[.agg #[.int .u64 0, .int .u64 0, .int .u64 0, .int .u64 0, .int .u64 0, .bool false, .bool false, .int .i64 0], .int .i64 0, .int .i64 0], []⟩).memory Tryz.f8.params.toList Rows.nextAheadSpec.vars false (#[.agg #[.int .u64 0, .int .u64 0, .int .u64 0, .int .u64 0, .int .u64 0, .bool false, .bool false, .int .i64 0], .int .i64 0, .int .i64 0] : Array Value).toList 8 = some ([.agg [.lit (.int .u64 0), .lit (.int .u64 0), .lit (.int .u64 0), .lit (.int .u64 0), .lit (.int .u64 0), .lit (.bool false), .lit (.bool false), .lit (.int .i64 0)], .lit (.int .i64 0), .lit (.int .i64 0)], [], places) :=
  ⟨[], by kernel_rfl⟩

set_option maxRecDepth 100000 in
theorem lifted (os : Os) (started : os.Started) (H : Type) (enc : TypeId × Value → H) (F : Stop.Interp) :
    ReturnsInHanded {} Tryz.checked os 8 .any ((OpenSpec.ofChange Rows.nextAheadSpec).preRow enc Tryz.prog Tryz.f8 Rows.nextAheadRow.domain false Rows.nextAheadRow.laid) (((OpenSpec.ofChange Rows.nextAheadSpec).at F).post enc Tryz.prog Tryz.f8 false true false false) := by
  obtain ⟨places, hx⟩ := reads os enc
  refine returnsInHanded_of_row (C := Tryz.checked) (s := OpenSpec.ofChange Rows.nextAheadSpec) own started (by kernel_rfl) Tryz.func8
    (witness_row_at (enc := enc) (C := Tryz.checked) false (laidWorld os) #[.agg #[.int .u64 0, .int .u64 0, .int .u64 0, .int .u64 0, .int .u64 0, .bool false, .bool false, .int .i64 0], .int .i64 0, .int .i64 0] (World.laidAll_os _ _ _) (by kernel_rfl) (by kernel_rfl) (by kernel_rfl)
      (OpenSpec.preRow_of_cond 8 hx (by kernel_rfl) (fun k hk => by cases hk) (by kernel_rfl) (laid_met os _))) ?_
  intro W base args ds gs before hval hW _ _ _ hL hS _
  exact contract H enc W base args ds gs before hval hW hL hS

theorem said : Rows.NextAheadSaid :=
  OpenClaim.holds_of_cond 8 Tryz.f8 rfl rfl rfl rfl rfl rfl rfl ⟨rfl, rfl, rfl, rfl, rfl⟩ rfl rfl rfl rfl rfl (by kernel_rfl) Tryz.func8 (by kernel_rfl)
    (of_decide_eq_true (by kernel_rfl)) (by unfold Func.isWrapper; first | (rw [if_pos (by decide +kernel)]; kernel_rfl) | (rw [if_neg (by decide +kernel)]; exact ⟨rfl, rfl⟩))
    (fun os started H enc _ F => by rw [OpenClaim.pre_eq_preRow]; exact lifted os started H enc F)

theorem plain (f : FuncId) (fn : Func) (hf : Tryz.pinned.checked.prog.funcNamed "tompion/tompionlaw05.NextAhead" = some f) (hfn : Tryz.pinned.checked.prog.funcs[f]? = some fn) :
    false = Tryz.pinned.checked.prog.looks [] ∧ ∀ (j : Nat) t, fn.params[j]? = some t → Tryz.pinned.checked.prog.wantsStandIn t = false := by
  obtain rfl : f = 8 := Option.some.inj ((show Tryz.prog.funcNamed "tompion/tompionlaw05.NextAhead" = some 8 by kernel_rfl).symm.trans hf) |>.symm
  obtain rfl : fn = Tryz.f8 := (Option.some.inj (Tryz.func8.symm.trans hfn)).symm
  refine ⟨by kernel_rfl, fun j t ht => ?_⟩
  rw [Tryz.params8] at ht
  have hm := Array.mem_of_getElem? ht
  simp at hm
  rcases hm with rfl | rfl
  · exact (show Tryz.prog.wantsStandIn 24 = false by kernel_rfl)
  · exact (show Tryz.prog.wantsStandIn 3 = false by kernel_rfl)

/-- The statement: the card, its tables tied to the program's text. -/
theorem proved : Rows.NextAheadCardSaid :=
  Claim7.holds_tied_plain_at .later [] _ _ _ _ said (fun _ h => by cases h) (by kernel_rfl) (fun _ h => by cases h) nextAhead_row_tie rfl ⟨rfl, rfl⟩ (by kernel_rfl) rfl plain (by kernel_rfl)
#print axioms proved
end Go.Proofs.YtohogchnjeddeaaGreatDoor.nextAhead
