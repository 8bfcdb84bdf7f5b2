/-
  NextIs: whether any spec is at a second is the document's; the next time is one, and none lies between. No condition but what the card lists.
-/
import Derived.Test.YtohogchnjeddeaaGreatDoorLift
import Derived.Deep.DeepCutAuto
import Derived.Deep.RegionHeld3
set_option linter.unusedVariables false
namespace Go.Proofs.YtohogchnjeddeaaGreatDoor.nextIs
open Go.ChangeShapes Go.WideShapes Go.ChangeAt Go.RowKit Crn Nxt Civ
open Go.ChangeMaps (open_string shut_string)

set_option maxRecDepth 100000 in
set_option maxHeartbeats 2000000 in
theorem walk (x : SpecN) (hx : Fits x) (c : Int) (hw : (Lit.int .i64 c).wf = true) (s : Int) (hw2 : (Lit.int .i64 s).wf = true) (w : World) (tb : Tab w) (nt : NTab w) :
    Calls Tryz.prog 4 #[specV x, .int .i64 c, .int .i64 s] w fun e w' => e = .returned (.bool true) ∧ Below w.heap.size w w' := by
  obtain ⟨c1, c2⟩ := wf_i64 hw
  obtain ⟨s1, s2⟩ := wf_i64 hw2
  have Cw := Lib.hid (fun W h1 h2 => awake_any W h1 h2)
  have Cn := Lib.hid (fun W h1 h2 => cNext_any x hx s s1 s2 W h1 h2)
  have Ci := Lib.hid (fun W h1 h2 => cIs_any x hx c c1 c2 W h1 h2)
  have Cj := Lib.hid (fun W => refIs_any x hx c c1 c2 W)
  have Ck := Lib.hid (fun (v : Int) (v1 : -9223372036854775808 ≤ v) (v2 : v ≤ 9223372036854775807) W => refIs_any x hx v v1 v2 W)
  have Hr : Hid (∀ v, nextN x s = some v → s < v ∧ 0 ≤ v ∧ v ≤ 253402300799 ∧ isAt x v = true) := fun v h => by
    have h1 := nextN_is x s
    rw [h] at h1
    exact ⟨(nextN_range h).1, (nextN_range h).2.1, (nextN_range h).2.2.1, isAt_true.2 h1.1⟩
  have Hm : Hid (∀ v, nextN x s = some v → s < c → c < v → isAt x c = false) := fun v h h2 h3 => by
    have h1 := nextN_is x s
    rw [h] at h1
    exact isAt_false.2 (h1.2.2 c h2 h3)
  have Hz : Hid (nextN x s = none → s < c → isAt x c = false) := fun h h2 => by
    have h1 := nextN_is x s
    rw [h] at h1
    exact isAt_false.2 (h1 c h2)
  generalize isAt x = IA at *
  generalize nextN x s = R at *
  clear hw hw2
  obtain ⟨x0, x1, x2, x3, x4, x5, x6, x7⟩ := x
  simp only [specV, cellsN] at *
  have t1 := Lib.hid (tb.alloc (.cells #[.int .u64 x0, .int .u64 x1, .int .u64 x2, .int .u64 x3, .int .u64 x4, .bool x5, .bool x6, .int .i64 x7] 24))
  have n1 := Lib.hid (nt.alloc (.cells #[.int .u64 x0, .int .u64 x1, .int .u64 x2, .int .u64 x3, .int .u64 x4, .bool x5, .bool x6, .int .i64 x7] 24))
  have B1 := Lib.hid (Box.start w x0 x1 x2 x3 x4 x5 x6 x7)
  have b1 := Lib.hid ((Below.refl w.heap.size w).alloc (Nat.le_refl _) (.cells #[.int .u64 x0, .int .u64 x1, .int .u64 x2, .int .u64 x3, .int .u64 x4, .bool x5, .bool x6, .int .i64 x7] 24))
  clear tb nt hx
  have hS : Hid (∀ W, Below (w.alloc (.cells #[.int .u64 x0, .int .u64 x1, .int .u64 x2, .int .u64 x3, .int .u64 x4, .bool x5, .bool x6, .int .i64 x7] 24)).heap.size (w.alloc (.cells #[.int .u64 x0, .int .u64 x1, .int .u64 x2, .int .u64 x3, .int .u64 x4, .bool x5, .bool x6, .int .i64 x7] 24)) W → Box w.heap.size W x0 x1 x2 x3 x4 x5 x6 x7) := fun W k => B1.out.step k
  have hT : Hid (∀ W, Below (w.alloc (.cells #[.int .u64 x0, .int .u64 x1, .int .u64 x2, .int .u64 x3, .int .u64 x4, .bool x5, .bool x6, .int .i64 x7] 24)).heap.size (w.alloc (.cells #[.int .u64 x0, .int .u64 x1, .int .u64 x2, .int .u64 x3, .int .u64 x4, .bool x5, .bool x6, .int .i64 x7] 24)) W → Tab W) := fun W k => t1.out.below k
  have hN : Hid (∀ W, Below (w.alloc (.cells #[.int .u64 x0, .int .u64 x1, .int .u64 x2, .int .u64 x3, .int .u64 x4, .bool x5, .bool x6, .int .i64 x7] 24)).heap.size (w.alloc (.cells #[.int .u64 x0, .int .u64 x1, .int .u64 x2, .int .u64 x3, .int .u64 x4, .bool x5, .bool x6, .int .i64 x7] 24)) W → NTab W) := fun W k => n1.out.below k
  have hsz : Hid (w.heap.size ≤ (w.alloc (.cells #[.int .u64 x0, .int .u64 x1, .int .u64 x2, .int .u64 x3, .int .u64 x4, .bool x5, .bool x6, .int .i64 x7] 24)).heap.size) := b1.out.size
  go_enter Tryz.func4, Tryz.ntmps4
  go_wp2_with fail
  generalize w.alloc (.cells #[.int .u64 x0, .int .u64 x1, .int .u64 x2, .int .u64 x3, .int .u64 x4, .bool x5, .bool x6, .int .i64 x7] 24) = w1 at *
  have hcA := (hS.out _ (Below.refl _ _)).all
  have hcB := (hS.out w1.drew (Below.refl _ _).drew).all
  have hb : Hid (Below w1.heap.size w1 w1.drew) := (Below.refl _ _).drew
  clear t1 n1 B1
  go_upto_region 1 with fail
  go_cut [19] (fun v wc => v = .bool false ∧ Hid (Below w1.heap.size w1 wc))
  case first =>
    clear Cn Ck Hr Hm Hz
    go_region_held3 (fun w' => w'.cell? ⟨w.heap.size, 0, none⟩ = some (.int .u64 x0) ∧ w'.cell? ⟨w.heap.size, 1, none⟩ = some (.int .u64 x1) ∧ w'.cell? ⟨w.heap.size, 2, none⟩ = some (.int .u64 x2) ∧ w'.cell? ⟨w.heap.size, 3, none⟩ = some (.int .u64 x3) ∧ w'.cell? ⟨w.heap.size, 4, none⟩ = some (.int .u64 x4) ∧ w'.cell? ⟨w.heap.size, 5, none⟩ = some (.bool x5) ∧ w'.cell? ⟨w.heap.size, 6, none⟩ = some (.bool x6) ∧ w'.cell? ⟨w.heap.size, 7, none⟩ = some (.int .i64 x7)) (first | (with_reducible exact hc6) | (with_reducible exact hcB) | (with_reducible exact hcA) | go_keep)
      (first
        | (go_at_call 12; (with_reducible refine (Cw.out _ (hT.out _ hb.out) (hN.out _ hb.out)).mono ?_); rintro e w6 ⟨rfl, k6⟩; replace hb := Lib.hid (hb.out.trans (k6.mono hb.out.size)); have hc6 := (hS.out _ hb.out).all; clear k6)
        | (go_at_call 13; (with_reducible refine (Ci.out _ (hT.out _ hb.out) (hN.out _ hb.out)).mono ?_); rintro e w6 ⟨rfl, k6⟩; replace hb := Lib.hid (hb.out.trans (k6.mono hb.out.size)); have hc6 := (hS.out _ hb.out).all; clear k6)
        | (go_at_call 14; (with_reducible refine (Cj.out _).mono ?_); rintro e w6 ⟨rfl, k6⟩; replace hb := Lib.hid (hb.out.trans (k6.mono hb.out.size)); have hc6 := (hS.out _ hb.out).all; clear k6))
    all_goals
      go_wp2_with fail
      go_meet
      exact ⟨by simp, hb⟩
  case rest =>
    obtain ⟨rfl, k2⟩ := hcut
    have t2 := Lib.hid (hT.out _ k2.out)
    have n2 := Lib.hid (hN.out _ k2.out)
    have B2 := Lib.hid (hS.out _ k2.out)
    have b2 := Lib.hid (b1.out.trans (k2.out.mono b1.out.size))
    clear hcA hcB hb hS hT hN k2 b1 Cw Ci
    obtain ⟨q0, q1, q2, q3, q4, q5, q6, q7⟩ := B2.out.all
    cases R with
    | none =>
      rw [answerX_none] at Cn
      replace Hz := Lib.hid (Hz.out rfl)
      clear Hr Hm
      go_wp2_with fail
      refine (Cn.out _ t2.out n2.out).mono ?_
      rintro e w3 ⟨rfl, g⟩
      have t3 := Lib.hid (t2.out.below g)
      have n3 := Lib.hid (n2.out.below g)
      have B3 := Lib.hid (B2.out.step g)
      have b3 := Lib.hid (b2.out.trans (g.mono b2.out.size))
      clear g t2 n2 B2 b2
      clear q0 q1 q2 q3 q4 q5 q6 q7
      obtain ⟨q0, q1, q2, q3, q4, q5, q6, q7⟩ := B3.out.all
      by_cases h1 : c ≤ s
      · go_wp2_with fail
        go_ret
        exact ⟨rfl, b3.out⟩
      · have hz := Lib.hid (Hz.out (by omega))
        rw [hz.out] at Cj
        go_wp2_with fail
        refine (Cj.out _).mono ?_
        rintro e w4 ⟨rfl, g⟩
        have t4 := Lib.hid (t3.out.below g)
        have n4 := Lib.hid (n3.out.below g)
        have B4 := Lib.hid (B3.out.step g)
        have b4 := Lib.hid (b3.out.trans (g.mono b3.out.size))
        clear g t3 n3 B3 b3
        go_wp2_with fail
        go_ret
        exact ⟨rfl, b4.out⟩
    | some v =>
      rw [answerX_some] at Cn
      obtain ⟨r1, r2, r3, r4⟩ := Hr.out v rfl
      replace Hm := Lib.hid (Hm.out v rfl)
      have ck := Lib.hid (fun W => Ck.out v (by omega) (by omega) W)
      rw [r4] at ck
      clear Hr Hz Ck r4
      go_wp2_with fail
      refine (Cn.out _ t2.out n2.out).mono ?_
      rintro e w3 ⟨rfl, g⟩
      have t3 := Lib.hid (t2.out.below g)
      have n3 := Lib.hid (n2.out.below g)
      have B3 := Lib.hid (B2.out.step g)
      have b3 := Lib.hid (b2.out.trans (g.mono b2.out.size))
      clear g t2 n2 B2 b2
      clear q0 q1 q2 q3 q4 q5 q6 q7
      obtain ⟨q0, q1, q2, q3, q4, q5, q6, q7⟩ := B3.out.all
      by_cases h1 : c ≤ s
      · go_wp2_with fail
        refine (ck.out _).mono ?_
        rintro e w4 ⟨rfl, g⟩
        have t4 := Lib.hid (t3.out.below g)
        have n4 := Lib.hid (n3.out.below g)
        have B4 := Lib.hid (B3.out.step g)
        have b4 := Lib.hid (b3.out.trans (g.mono b3.out.size))
        clear g t3 n3 B3 b3
        go_wp2_with fail
        go_ret
        exact ⟨rfl, b4.out⟩
      · by_cases h2 : v ≤ c
        · go_wp2_with fail
          refine (ck.out _).mono ?_
          rintro e w4 ⟨rfl, g⟩
          have t4 := Lib.hid (t3.out.below g)
          have n4 := Lib.hid (n3.out.below g)
          have B4 := Lib.hid (B3.out.step g)
          have b4 := Lib.hid (b3.out.trans (g.mono b3.out.size))
          clear g t3 n3 B3 b3
          go_wp2_with fail
          go_ret
          exact ⟨rfl, b4.out⟩
        · have hz := Lib.hid (Hm.out (by omega) (by omega))
          rw [hz.out] at Cj
          go_wp2_with fail
          refine (ck.out _).mono ?_
          rintro e w4 ⟨rfl, g⟩
          have t4 := Lib.hid (t3.out.below g)
          have n4 := Lib.hid (n3.out.below g)
          have B4 := Lib.hid (B3.out.step g)
          have b4 := Lib.hid (b3.out.trans (g.mono b3.out.size))
          clear g t3 n3 B3 b3
          clear q0 q1 q2 q3 q4 q5 q6 q7
          obtain ⟨q0, q1, q2, q3, q4, q5, q6, q7⟩ := B4.out.all
          go_wp2_with fail
          refine (Cj.out _).mono ?_
          rintro e w5 ⟨rfl, g⟩
          have t5 := Lib.hid (t4.out.below g)
          have n5 := Lib.hid (n4.out.below g)
          have B5 := Lib.hid (B4.out.step g)
          have b5 := Lib.hid (b4.out.trans (g.mono b4.out.size))
          clear g t4 n4 B4 b4
          go_wp2_with fail
          go_ret
          exact ⟨rfl, b5.out⟩

set_option maxRecDepth 100000 in
theorem contract (H : Type) (enc : TypeId × Value → H) (W : World) (base : Nat) (args : Array Value) (ds gs : List (DataW H)) (before : List MemPlace)
    (hval : ∀ (j : Nat) t v, Tryz.f4.params[j]? = some t → args[j]? = some v → Value.okWide Tryz.prog W .any base t v)
    (hW : DataW.Whole enc Tryz.prog Tryz.f4.params.toList Rows.nextIsSpec.vars false W args.toList ds gs before) (hL : laidMetH Tryz.prog Rows.nextIsRow.laid W) (hS : W.ShapedOpen Tryz.prog) :
    Calls Tryz.prog 4 args W fun e W' => ∃ v, e = .returned v ∧ Rows.nextIsSpec.post enc Tryz.prog Tryz.f4 false true false false W args v W' := by
  have hW' := hW
  obtain ⟨p, q, hA0, hV, rfl, hfz, hnd⟩ := hW
  have hA : DataW.TrodAll enc Tryz.prog W 0 (fun _ => true) true Tryz.f4.params.toList args.toList ds p := hA0
  rw [Tryz.params4] at hA hval
  obtain ⟨v0, vs0, d0, ds0, p0, q0, hargs, rfl, rfl, h0, r0⟩ := trodAll_cons hA
  obtain ⟨v1, vs1, d1, ds1, p1, q1, rfl, rfl, rfl, h1, r1⟩ := trodAll_cons r0
  obtain ⟨v2, vs2, d2, ds2, p2, q2, rfl, rfl, rfl, h2, r2⟩ := trodAll_cons r1
  obtain ⟨rfl, rfl, rfl⟩ := trodAll_nil r2
  obtain rfl : args = #[v0, v1, v2] := by clear hL hS hW' hval; cases args; simp_all
  obtain ⟨rfl, rfl⟩ := trodVars_none hV
  obtain ⟨a0, rfl, rfl, rfl, w0⟩ := open_spec (hval 0 24 v0 rfl rfl) h0
  obtain ⟨a1, rfl, rfl, rfl, w1⟩ := open_int Tryz.underlying3 (hval 1 3 v1 rfl rfl) h1
  obtain ⟨a2, rfl, rfl, rfl, w2⟩ := open_int Tryz.underlying3 (hval 2 3 v2 rfl rfl) h2
  clear hA0
  simp only [List.append_nil] at hW'
  refine (walk a0 w0 a1 w1 a2 w2 W (table hL hS) (tables hL hS)).mono fun e W' ⟨he, hg⟩ => ?_
  subst he
  exact ⟨_, rfl, _, _, _, [], [], [], hW', trodAll_cons_mk (shut_bool Tryz.underlying4 _) trodAll_mk0, trodAll_cons_mk (shut_spec w0) (trodAll_cons_mk (shut_int Tryz.underlying3 w1) (trodAll_cons_mk (shut_int Tryz.underlying3 w2) trodAll_mk0)), rfl, hg.frame _, fun h => by cases h⟩

theorem reads (os : Os) {H : Type} (enc : TypeId × Value → H) : ∃ places, DataW.whole enc Tryz.prog ((laidWorld os).forCall (fun _ _ => 0) ⟨#[], #[.agg #[.int .u64 0, .int .u64 0, .int .u64 0, .int .u64 0, .int .u64 0, .bool false, .bool false, .int .i64 0], .int .i64 0, .int .i64 0], []⟩).memory Tryz.f4.params.toList Rows.nextIsSpec.vars false (#[.agg #[.int .u64 0, .int .u64 0, .int .u64 0, .int .u64 0, .int .u64 0, .bool false, .bool false, .int .i64 0], .int .i64 0, .int .i64 0] : Array Value).toList 8 = some ([.agg [.lit (.int .u64 0), .lit (.int .u64 0), .lit (.int .u64 0), .lit (.int .u64 0), .lit (.int .u64 0), .lit (.bool false), .lit (.bool false), .lit (.int .i64 0)], .lit (.int .i64 0), .lit (.int .i64 0)], [], places) :=
  ⟨[], by kernel_rfl⟩

set_option maxRecDepth 100000 in
theorem lifted (os : Os) (started : os.Started) (H : Type) (enc : TypeId × Value → H) (F : Stop.Interp) :
    ReturnsInHanded {} Tryz.checked os 4 .any ((OpenSpec.ofChange Rows.nextIsSpec).preRow enc Tryz.prog Tryz.f4 Rows.nextIsRow.domain false Rows.nextIsRow.laid) (((OpenSpec.ofChange Rows.nextIsSpec).at F).post enc Tryz.prog Tryz.f4 false true false false) := by
  obtain ⟨places, hx⟩ := reads os enc
  refine returnsInHanded_of_row (C := Tryz.checked) (s := OpenSpec.ofChange Rows.nextIsSpec) own started (by kernel_rfl) Tryz.func4
    (witness_row_at (enc := enc) (C := Tryz.checked) false (laidWorld os) #[.agg #[.int .u64 0, .int .u64 0, .int .u64 0, .int .u64 0, .int .u64 0, .bool false, .bool false, .int .i64 0], .int .i64 0, .int .i64 0] (World.laidAll_os _ _ _) (by kernel_rfl) (by kernel_rfl) (by kernel_rfl)
      (OpenSpec.preRow_of_cond 8 hx (by kernel_rfl) (fun k hk => by cases hk) (by kernel_rfl) (laid_met os _))) ?_
  intro W base args ds gs before hval hW _ _ _ hL hS _
  exact contract H enc W base args ds gs before hval hW hL hS

theorem said : Rows.NextIsSaid :=
  OpenClaim.holds_of_cond 4 Tryz.f4 rfl rfl rfl rfl rfl rfl rfl ⟨rfl, rfl, rfl, rfl, rfl⟩ rfl rfl rfl rfl rfl (by kernel_rfl) Tryz.func4 (by kernel_rfl)
    (of_decide_eq_true (by kernel_rfl)) (by unfold Func.isWrapper; first | (rw [if_pos (by decide +kernel)]; kernel_rfl) | (rw [if_neg (by decide +kernel)]; exact ⟨rfl, rfl⟩))
    (fun os started H enc _ F => by rw [OpenClaim.pre_eq_preRow]; exact lifted os started H enc F)

theorem plain (f : FuncId) (fn : Func) (hf : Tryz.pinned.checked.prog.funcNamed "tompion/tompionlaw05.NextIs" = some f) (hfn : Tryz.pinned.checked.prog.funcs[f]? = some fn) :
    false = Tryz.pinned.checked.prog.looks [] ∧ ∀ (j : Nat) t, fn.params[j]? = some t → Tryz.pinned.checked.prog.wantsStandIn t = false := by
  obtain rfl : f = 4 := Option.some.inj ((show Tryz.prog.funcNamed "tompion/tompionlaw05.NextIs" = some 4 by kernel_rfl).symm.trans hf) |>.symm
  obtain rfl : fn = Tryz.f4 := (Option.some.inj (Tryz.func4.symm.trans hfn)).symm
  refine ⟨by kernel_rfl, fun j t ht => ?_⟩
  rw [Tryz.params4] at ht
  have hm := Array.mem_of_getElem? ht
  simp at hm
  rcases hm with rfl | rfl
  · exact (show Tryz.prog.wantsStandIn 24 = false by kernel_rfl)
  · exact (show Tryz.prog.wantsStandIn 3 = false by kernel_rfl)

/-- The statement: the card, its tables tied to the program's text. -/
theorem proved : Rows.NextIsCardSaid :=
  Claim7.holds_tied_plain_at .later [] _ _ _ _ said (fun _ h => by cases h) (by kernel_rfl) (fun _ h => by cases h) nextIs_row_tie rfl ⟨rfl, rfl⟩ (by kernel_rfl) rfl plain (by kernel_rfl)
#print axioms proved
end Go.Proofs.YtohogchnjeddeaaGreatDoor.nextIs
