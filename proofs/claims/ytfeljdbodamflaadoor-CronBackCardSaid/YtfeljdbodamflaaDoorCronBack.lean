/-
  CronBack holds: what is parsed is right, and, where it has a text, this says the same. No condition but the tables'.
-/
import Derived.Test.YtfeljdbodamflaaDoorLift
set_option linter.unusedVariables false
namespace Go.Proofs.YtfeljdbodamflaaDoor.cronBack
open Go.ChangeShapes Go.WideShapes Go.ChangeAt Go.RowKit Crn
open Go.ChangeMaps (open_string shut_string)

theorem fits_right {x : SpecN} (h : right x = true) : Fits x := by
  obtain ⟨h0, h1, h2, h3, h4, h5, h6⟩ := right_parts h
  have key : ∀ f, f < 5 → ∀ set, okSet f set = true → set < 18446744073709551616 := fun f hf set hs => by
    have hs2 := (okSet_iff.1 hs).2
    unfold Crn.Sub at hs2
    have := every_lt' f 1 hf (by omega)
    have h7 : set &&& every f 1 ≤ every f 1 := Nat.and_le_right
    rw [hs2] at h7
    omega
  exact ⟨key 0 (by omega) _ h0, key 1 (by omega) _ h1, key 2 (by omega) _ h2, key 3 (by omega) _ h3, key 4 (by omega) _ h4, by omega, by omega⟩
theorem text_len (x : SpecN) : (text x).length ≤ 1000 := by
  by_cases hr : right x = true
  · by_cases h : ∀ k, k < 5 → fieldT x k ≠ []
    · rw [text_all hr h, List.length_append]
      have h1 := headT_len (fieldT x) (fieldT_len x) 5
      have h2 : (aheadText x.ahead).length ≤ 6 := by
        unfold aheadText
        split
        · exact Nat.le_refl 6
        · split
          · exact Nat.le_refl 6
          · exact Nat.zero_le _
      omega
    · obtain ⟨k, hk⟩ := Classical.not_forall.1 h
      obtain ⟨hk5, hk0⟩ := Classical.not_imp.1 hk
      rw [text_none hr hk5 (Classical.not_not.1 hk0)]
      exact Nat.zero_le _
  · have : right x = false := by cases h : right x <;> simp_all
    rw [text_wrong this]
    exact Nat.zero_le _

set_option maxRecDepth 100000 in
set_option maxHeartbeats 1000000 in
theorem walk_none (s : ByteArray) (w : World) (tb : Tab w) (hs : s.size ≤ 400)
    (C : Hid (∀ W, Tab W → Calls Tryd.prog 11 #[.string s] W fun e w' => e = .returned (.tuple #[.agg #[.int .u64 0, .int .u64 0, .int .u64 0, .int .u64 0, .int .u64 0, .bool false, .bool false, .int .i64 0], .int .i64 7]) ∧ Below W.heap.size W w')) :
    Calls Tryd.prog 5 #[.string s] w fun e w' => e = .returned (.bool true) ∧ Below w.heap.size w w' := by
  have ca := Lib.hid (awake_any w tb)
  have el : decide (400 < (s.size : Int)) = false := by simp; omega
  go_enter Tryd.func5, Tryd.ntmps5
  go_wp2_with fail
  refine ca.out.mono ?_
  rintro e w1 ⟨rfl, k1⟩
  have c1 := Lib.hid (C.out _ (tb.below k1))
  replace k1 := Lib.hid k1
  clear tb ca
  go_wp2_with fail
  refine c1.out.mono ?_
  rintro e w2 ⟨rfl, k2⟩
  have b2 := Lib.hid (k1.out.trans (k2.mono k1.out.size))
  have b3 := Lib.hid (b2.out.alloc b2.out.size (.cells #[.int .u64 0, .int .u64 0, .int .u64 0, .int .u64 0, .int .u64 0, .bool false, .bool false, .int .i64 0] 25))
  clear k1 k2 b2 c1
  go_wp2_with fail
  go_ret
  exact ⟨rfl, b3.out⟩

set_option maxRecDepth 100000 in
set_option maxHeartbeats 1000000 in
theorem walk_some (s T : ByteArray) (x0 x1 x2 x3 x4 : Nat) (x5 x6 : Bool) (x7 : Int) (y0 y1 y2 y3 y4 : Nat) (y5 y6 : Bool) (y7 f : Int) (w : World) (tb : Tab w) (hs : s.size ≤ 400) (hT : T.size ≤ 1000)
    (hend : (T.toList.isEmpty = true ∧ (x5 || x6) = true) ∨ (T.toList.isEmpty = false ∧ f = 0 ∧ y0 = x0 ∧ y1 = x1 ∧ y2 = x2 ∧ y3 = x3 ∧ y4 = x4 ∧ y5 = x5 ∧ y6 = x6 ∧ y7 = x7) ∨ (T.toList.isEmpty = false ∧ f = 7 ∧ 256 < T.size))
    (C : Hid (∀ W, Tab W → Calls Tryd.prog 11 #[.string s] W fun e w' => e = .returned (.tuple #[.agg #[.int .u64 x0, .int .u64 x1, .int .u64 x2, .int .u64 x3, .int .u64 x4, .bool x5, .bool x6, .int .i64 x7], .int .i64 0]) ∧ Below W.heap.size W w'))
    (D : Hid (∀ W, Tab W → Calls Tryd.prog 11 #[.string T] W fun e w' => e = .returned (.tuple #[.agg #[.int .u64 y0, .int .u64 y1, .int .u64 y2, .int .u64 y3, .int .u64 y4, .bool y5, .bool y6, .int .i64 y7], .int .i64 f]) ∧ Below W.heap.size W w'))
    (X : Hid (∀ W, Tab W → Calls Tryd.prog 15 #[.agg #[.int .u64 x0, .int .u64 x1, .int .u64 x2, .int .u64 x3, .int .u64 x4, .bool x5, .bool x6, .int .i64 x7]] W fun e w' => e = .returned (.string T) ∧ Below W.heap.size W w'))
    (R : Hid (∀ W, Tab W → Calls Tryd.prog 13 #[.agg #[.int .u64 x0, .int .u64 x1, .int .u64 x2, .int .u64 x3, .int .u64 x4, .bool x5, .bool x6, .int .i64 x7]] W fun e w' => e = .returned (.bool true) ∧ Below W.heap.size W w')) :
    Calls Tryd.prog 5 #[.string s] w fun e w' => e = .returned (.bool true) ∧ Below w.heap.size w w' := by
  have ca := Lib.hid (awake_any w tb)
  have el : decide (400 < (s.size : Int)) = false := by simp; omega
  replace hend := Lib.hid hend
  go_enter Tryd.func5, Tryd.ntmps5
  go_wp2_with fail
  refine ca.out.mono ?_
  rintro e w1 ⟨rfl, k1⟩
  have c1 := Lib.hid (C.out _ (tb.below k1))
  have tb1 := Lib.hid (tb.below k1)
  replace k1 := Lib.hid k1
  clear tb ca
  go_wp2_with fail
  refine c1.out.mono ?_
  rintro e w2 ⟨rfl, k2⟩
  have b2 := Lib.hid (k1.out.trans (k2.mono k1.out.size))
  have L2 := Lib.hid (Lies.start w2 [.int .u64 x0, .int .u64 x1, .int .u64 x2, .int .u64 x3, .int .u64 x4, .bool x5, .bool x6, .int .i64 x7] 25 #[.int .u64 x0, .int .u64 x1, .int .u64 x2, .int .u64 x3, .int .u64 x4, .bool x5, .bool x6, .int .i64 x7] rfl)
  have b3 := Lib.hid (b2.out.alloc b2.out.size (.cells #[.int .u64 x0, .int .u64 x1, .int .u64 x2, .int .u64 x3, .int .u64 x4, .bool x5, .bool x6, .int .i64 x7] 25))
  have tb3 := Lib.hid ((tb1.out.below k2).alloc (.cells #[.int .u64 x0, .int .u64 x1, .int .u64 x2, .int .u64 x3, .int .u64 x4, .bool x5, .bool x6, .int .i64 x7] 25))
  have c2 := Lib.hid (X.out _ tb3.out)
  clear k1 k2 b2 c1 tb1
  go_wp2_with fail
  refine c2.out.mono ?_
  generalize w2.alloc (.cells #[.int .u64 x0, .int .u64 x1, .int .u64 x2, .int .u64 x3, .int .u64 x4, .bool x5, .bool x6, .int .i64 x7] 25) = w3 at *
  generalize w2.heap.size = g at *
  rintro e w4 ⟨rfl, k4⟩
  have b4 := Lib.hid (b3.out.trans (k4.mono b3.out.size))
  have L4 := Lib.hid (L2.out.step (Nat.zero_lt_succ _) k4)
  have tb4 := Lib.hid (tb3.out.below k4)
  have c3 := Lib.hid (D.out _ tb4.out)
  clear k4 b3 L2 tb3 c2
  go_wp2_with fail
  refine c3.out.mono ?_
  rintro e w5 ⟨rfl, k5⟩
  have b5 := Lib.hid (b4.out.trans (k5.mono b4.out.size))
  have b6 := Lib.hid (b5.out.alloc b5.out.size (.cells #[.int .u64 y0, .int .u64 y1, .int .u64 y2, .int .u64 y3, .int .u64 y4, .bool y5, .bool y6, .int .i64 y7] 25))
  have kk := (Below.refl w5.heap.size w5).alloc (Nat.le_refl _) (.cells #[.int .u64 y0, .int .u64 y1, .int .u64 y2, .int .u64 y3, .int .u64 y4, .bool y5, .bool y6, .int .i64 y7] 25)
  have L6 := Lib.hid ((L4.out.step (Nat.zero_lt_succ _) k5).step (Nat.zero_lt_succ _) kk)
  have M6 := Lib.hid (Lies.start w5 [.int .u64 y0, .int .u64 y1, .int .u64 y2, .int .u64 y3, .int .u64 y4, .bool y5, .bool y6, .int .i64 y7] 25 #[.int .u64 y0, .int .u64 y1, .int .u64 y2, .int .u64 y3, .int .u64 y4, .bool y5, .bool y6, .int .i64 y7] rfl)
  have tb6 := Lib.hid ((tb4.out.below k5).below kk)
  have c4 := Lib.hid (R.out _ tb6.out)
  obtain ⟨p0, p1, p2, p3, p4, p5, p6, p7⟩ := L6.out.eight
  clear k5 b4 L4 tb4 c3 b5 kk
  go_wp2_with fail
  refine c4.out.mono ?_
  clear p0 p1 p2 p3 p4 p5 p6 p7
  generalize w5.alloc (.cells #[.int .u64 y0, .int .u64 y1, .int .u64 y2, .int .u64 y3, .int .u64 y4, .bool y5, .bool y6, .int .i64 y7] 25) = w6 at *
  generalize w5.heap.size = h at *
  rintro e w7 ⟨rfl, k7⟩
  have b7 := Lib.hid (b6.out.trans (k7.mono b6.out.size))
  obtain ⟨p0, p1, p2, p3, p4, p5, p6, p7⟩ := (L6.out.step (Nat.zero_lt_succ _) k7).eight
  obtain ⟨q0, q1, q2, q3, q4, q5, q6, q7⟩ := (M6.out.step (Nat.zero_lt_succ _) k7).eight
  clear k7 b6 L6 M6 tb6 c4
  rcases hend.out with ⟨h1, h2⟩ | ⟨h1, rfl, rfl, rfl, rfl, rfl, rfl, rfl, rfl, rfl⟩ | ⟨h1, rfl, h3⟩
  · cases y5' : x5
    · rw [y5'] at h2 p5
      obtain rfl : x6 = true := h2
      go_wp2_with fail
      go_ret
      exact ⟨rfl, b7.out⟩
    · rw [y5'] at p5
      clear h2
      go_wp2_with fail
      go_ret
      exact ⟨rfl, b7.out⟩
  · clear hend
    go_wp2_with fail
    go_ret
    exact ⟨rfl, b7.out⟩
  · have h4 : decide (256 < (T.size : Int)) = true := by simp; omega
    clear hend
    go_wp2_with fail
    go_ret
    exact ⟨rfl, b7.out⟩

theorem empty_of (l : Bytes) : (bs l).toList.isEmpty = l.isEmpty := by rw [ByteArray.toList_eq, bs_toList]

set_option maxRecDepth 100000 in
theorem walk (s : ByteArray) (_ : s.size ≤ maxLen) (w : World) (tb : Tab w) :
    Calls Tryd.prog 5 #[.string s] w fun e w' => e = .returned (.bool true) ∧ Below w.heap.size w w' := by
  by_cases hs : s.size ≤ 400
  · have c := Lib.hid (fun W t => cParse_any s W t (by omega))
    cases hp : parse s.data.toList with
    | none =>
      rw [hp] at c
      exact walk_none s w tb hs c
    | some x =>
      rw [hp] at c
      have hr := parse_right hp
      have hx := fits_right hr
      have hl := text_len x
      have d := Lib.hid (fun W t => cParse_any (bs (text x)) W t (by rw [bs_size]; exact hl))
      have ct := Lib.hid (fun W t => cText_any x hx W t)
      have cr := Lib.hid (fun W t => cRight_any x hx W t)
      rw [hr] at cr
      simp only [bs_toList] at d
      have hl2 : (bs (text x)).size ≤ 1000 := by rw [bs_size]; exact hl
      rcases text_back hr with ⟨h1, h2⟩ | h1 | h1
      · have he : parse (text x) = none := by rw [h1]; decide
        rw [he] at d
        exact walk_some s (bs (text x)) x.min x.hour x.dom x.mon x.dow x.anyDom x.anyDow x.ahead 0 0 0 0 0 false false 0 7 w tb hs hl2 (Or.inl ⟨by rw [empty_of, h1]; rfl, h2⟩) c d ct cr
      · rw [h1] at d
        have hne : (text x).isEmpty = false := by
          cases ht : text x with
          | nil => rw [ht] at h1; exact absurd (show parse [] = none by decide) (by rw [h1]; simp)
          | cons a b => rfl
        exact walk_some s (bs (text x)) x.min x.hour x.dom x.mon x.dow x.anyDom x.anyDow x.ahead x.min x.hour x.dom x.mon x.dow x.anyDom x.anyDow x.ahead 0 w tb hs hl2 (Or.inr (Or.inl ⟨by rw [empty_of]; exact hne, rfl, rfl, rfl, rfl, rfl, rfl, rfl, rfl, rfl⟩)) c d ct cr
      · have he : parse (text x) = none := by
          unfold parse
          exact if_pos h1
        rw [he] at d
        have hne : (text x).isEmpty = false := by
          cases ht : text x with
          | nil => rw [ht] at h1; simp at h1
          | cons a b => rfl
        exact walk_some s (bs (text x)) x.min x.hour x.dom x.mon x.dow x.anyDom x.anyDow x.ahead 0 0 0 0 0 false false 0 7 w tb hs hl2 (Or.inr (Or.inr ⟨by rw [empty_of]; exact hne, rfl, by rw [bs_size]; exact h1⟩)) c d ct cr
  · have ca := Lib.hid (fun W t => awake_any W t)
    have el : decide (400 < (s.size : Int)) = true := by simp; omega
    have c0 := Lib.hid (ca.out w tb)
    go_enter Tryd.func5, Tryd.ntmps5
    go_wp2_with fail
    refine c0.out.mono ?_
    rintro e w1 ⟨rfl, k1⟩
    have c1 := Lib.hid (ca.out w1 (tb.below k1))
    replace k1 := Lib.hid k1
    clear tb
    go_wp2_with fail
    refine c1.out.mono ?_
    rintro e w2 ⟨rfl, k2⟩
    replace k2 := Lib.hid k2
    go_wp2_with fail
    go_ret
    exact ⟨rfl, k1.out.trans (k2.out.mono k1.out.size)⟩

set_option maxRecDepth 100000 in
theorem contract (H : Type) (enc : TypeId × Value → H) (W : World) (base : Nat) (args : Array Value) (ds gs : List (DataW H)) (before : List MemPlace)
    (hval : ∀ (j : Nat) t v, Tryd.f5.params[j]? = some t → args[j]? = some v → Value.okWide Tryd.prog W .any base t v)
    (hW : DataW.Whole enc Tryd.prog Tryd.f5.params.toList Rows.cronBackSpec.vars false W args.toList ds gs before) (hL : laidMetH Tryd.prog Rows.cronBackRow.laid W) (hS : W.ShapedOpen Tryd.prog) :
    Calls Tryd.prog 5 args W fun e W' => ∃ v, e = .returned v ∧ Rows.cronBackSpec.post enc Tryd.prog Tryd.f5 false true false false W args v W' := by
  have hW' := hW
  obtain ⟨p, q, hA0, hV, rfl, hfz, hnd⟩ := hW
  have hA : DataW.TrodAll enc Tryd.prog W 0 (fun _ => true) true Tryd.f5.params.toList args.toList ds p := hA0
  rw [Tryd.params5] at hA hval
  obtain ⟨v0, vs0, d0, ds0, p0, q0, hargs, rfl, rfl, h0, r0⟩ := trodAll_cons hA
  obtain ⟨rfl, rfl, rfl⟩ := trodAll_nil r0
  obtain rfl : args = #[v0] := by clear hL hS hW' hval; cases args; simp_all
  obtain ⟨rfl, rfl⟩ := trodVars_none hV
  obtain ⟨a0, rfl, rfl, rfl, w0⟩ := open_string Tryd.underlying9 (hval 0 9 v0 rfl rfl) h0
  clear hA0
  simp only [List.append_nil] at hW'
  refine (walk a0 w0 W (table hL hS)).mono fun e W' ⟨he, hg⟩ => ?_
  subst he
  exact ⟨_, rfl, _, _, _, [], [], [], hW', trodAll_cons_mk (shut_bool Tryd.underlying4 _) trodAll_mk0, trodAll_cons_mk (shut_string Tryd.underlying9 w0) trodAll_mk0, rfl, hg.frame _, fun h => by cases h⟩

theorem reads (os : Os) {H : Type} (enc : TypeId × Value → H) : ∃ places, DataW.whole enc Tryd.prog ((laidWorld os).forCall (fun _ _ => 0) ⟨#[], #[.string ByteArray.empty], []⟩).memory Tryd.f5.params.toList Rows.cronBackSpec.vars false (#[.string ByteArray.empty] : Array Value).toList 8 = some ([.lit (.string [])], [], places) :=
  ⟨[], by kernel_rfl⟩

set_option maxRecDepth 100000 in
theorem lifted (os : Os) (started : os.Started) (H : Type) (enc : TypeId × Value → H) (F : Stop.Interp) :
    ReturnsInHanded {} Tryd.checked os 5 .any ((OpenSpec.ofChange Rows.cronBackSpec).preRow enc Tryd.prog Tryd.f5 Rows.cronBackRow.domain false Rows.cronBackRow.laid) (((OpenSpec.ofChange Rows.cronBackSpec).at F).post enc Tryd.prog Tryd.f5 false true false false) := by
  obtain ⟨places, hx⟩ := reads os enc
  refine returnsInHanded_of_row (C := Tryd.checked) (s := OpenSpec.ofChange Rows.cronBackSpec) own started (by kernel_rfl) Tryd.func5
    (witness_row_at (enc := enc) (C := Tryd.checked) false (laidWorld os) #[.string ByteArray.empty] (World.laidAll_os _ _ _) (by kernel_rfl) (by kernel_rfl) (by kernel_rfl)
      (OpenSpec.preRow_of_cond 8 hx (by kernel_rfl) (fun k hk => by cases hk) (by kernel_rfl) (laid_met os _))) ?_
  intro W base args ds gs before hval hW _ _ _ hL hS _
  exact contract H enc W base args ds gs before hval hW hL hS

theorem said : Rows.CronBackSaid :=
  OpenClaim.holds_of_cond 5 Tryd.f5 rfl rfl rfl rfl rfl rfl rfl ⟨rfl, rfl, rfl, rfl, rfl⟩ rfl rfl rfl rfl rfl (by kernel_rfl) Tryd.func5 (by kernel_rfl)
    (of_decide_eq_true (by kernel_rfl)) (by unfold Func.isWrapper; first | (rw [if_pos (by decide +kernel)]; kernel_rfl) | (rw [if_neg (by decide +kernel)]; exact ⟨rfl, rfl⟩))
    (fun os started H enc _ F => by rw [OpenClaim.pre_eq_preRow]; exact lifted os started H enc F)

theorem plain (f : FuncId) (fn : Func) (hf : Tryd.pinned.checked.prog.funcNamed "tompion/tompionlaw04.CronBack" = some f) (hfn : Tryd.pinned.checked.prog.funcs[f]? = some fn) :
    false = Tryd.pinned.checked.prog.looks [] ∧ ∀ (j : Nat) t, fn.params[j]? = some t → Tryd.pinned.checked.prog.wantsStandIn t = false := by
  obtain rfl : f = 5 := Option.some.inj ((show Tryd.prog.funcNamed "tompion/tompionlaw04.CronBack" = some 5 by kernel_rfl).symm.trans hf) |>.symm
  obtain rfl : fn = Tryd.f5 := (Option.some.inj (Tryd.func5.symm.trans hfn)).symm
  refine ⟨by kernel_rfl, fun j t ht => ?_⟩
  rw [Tryd.params5] at ht
  obtain rfl : t = 9 := by simpa using Array.mem_of_getElem? ht
  exact (show Tryd.prog.wantsStandIn 9 = false by kernel_rfl)

/-- The statement: the card, its tables tied to the program's text. -/
theorem proved : Rows.CronBackCardSaid :=
  Claim7.holds_tied_plain_at .later [] _ _ _ _ said (fun _ h => by cases h) (by kernel_rfl) (fun _ h => by cases h) cronBack_row_tie rfl ⟨rfl, rfl⟩ (by kernel_rfl) rfl plain (by kernel_rfl)
#print axioms proved
end Go.Proofs.YtfeljdbodamflaaDoor.cronBack
