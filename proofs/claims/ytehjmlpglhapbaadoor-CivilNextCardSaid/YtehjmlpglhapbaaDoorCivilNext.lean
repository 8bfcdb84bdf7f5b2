/-
  CivilNext holds: the day behind a day is the next one of its month, or the first one of the next month, or of the next year; its day of the week is the next one. No condition but the table's.
-/
import Derived.Test.YtehjmlpglhapbaaDoorRefDate
import Derived.Test.YtehjmlpglhapbaaDoorLift
import Derived.Test.YtehjmlpglhapbaaDoorCards
import Derived.Test.YtehjmlpglhapbaaDoorTie
import Derived.WalkKit
import Derived.ProofKit
import Derived.OpenShut
import Derived.Deep.DeepHandedRow
namespace Go.Proofs.YtehjmlpglhapbaaDoor.civilNext
open Go.ChangeShapes Go.WideShapes Go.ChangeAt Go.RowKit Civ
set_option linter.unusedVariables false

theorem weekday_some (n r : Nat) (w : World) (h : n < 2932897) (hr : (n + 4) % 7 = r) :
    Hid (Calls Tryd.prog 16 #[.int .i64 n] w fun e w' => e = .returned (.tuple #[.int .i64 r, .int .i64 0]) ∧ w = w') := by
  have c := weekday_any n w (by omega) (by omega)
  have e : weekday n = ((r : Int), 0) := by
    unfold weekday
    rw [if_pos (by omega)]
    exact Prod.ext (by show ((n : Int) + 4) % 7 = r; omega) rfl
  rw [e] at c
  exact c

set_option maxRecDepth 100000 in
set_option maxHeartbeats 800000 in
theorem walk_none (n : Int) (w : World) (t : Tab w) (h1 : -9223372036854775808 ≤ n) (h2 : n ≤ 9223372036854775807) (h : ¬ (0 ≤ n ∧ n < 2932897)) :
    Calls Tryd.prog 5 #[.int .i64 n] w fun e w' => e = .returned (.bool true) ∧ Grown w w' := by
  have ca := Lib.hid (awake_any w t)
  have cd := Lib.hid (date_none n w h1 h2 h)
  clear t h
  go_enter Tryd.func5, Tryd.ntmps5
  go_wp2_with fail
  refine cd.out.mono ?_
  rintro e w' ⟨rfl, rfl⟩
  go_wp2_with fail
  refine ca.out.mono ?_
  rintro e w' ⟨rfl, rfl⟩
  go_wp2_with fail
  refine ca.out.mono ?_
  rintro e w' ⟨rfl, rfl⟩
  go_wp2_with fail
  go_ret
  exact ⟨rfl, Grown.refl _⟩

set_option maxRecDepth 100000 in
set_option maxHeartbeats 800000 in
/-- The last day. -/
theorem walk_last (n : Nat) (w : World) (t : Tab w) (hn : n = 2932896) :
    Calls Tryd.prog 5 #[.int .i64 n] w fun e w' => e = .returned (.bool true) ∧ Grown w w' := by
  have ca := Lib.hid (awake_any w t)
  have cd : Hid (Calls Tryd.prog 14 #[.int .i64 n] w fun e w' => e = .returned (.tuple #[.int .i64 9999, .int .i64 12, .int .i64 31, .int .i64 0]) ∧ w = w') := by
    refine (date_some n w t (by omega)).mono ?_
    rintro e w' ⟨⟨y, m, d, rfl, h⟩, rfl⟩
    obtain ⟨rfl, rfl, rfl⟩ := h.same day_last hn
    exact ⟨rfl, rfl⟩
  have ce : Hid (Calls Tryd.prog 14 #[.int .i64 (n + 1 : Int)] w fun e w' => e = .returned (.tuple #[.int .i64 0, .int .i64 0, .int .i64 0, .int .i64 2]) ∧ w = w') := date_none (n + 1 : Int) w (by omega) (by omega) (by omega)
  have hb : n ≤ 10000000 := by omega
  clear t hn
  go_enter Tryd.func5, Tryd.ntmps5
  go_wp2_with fail
  refine cd.out.mono ?_
  rintro e w' ⟨rfl, rfl⟩
  go_wp2_with fail
  refine ca.out.mono ?_
  rintro e w' ⟨rfl, rfl⟩
  go_wp2_with fail
  refine ce.out.mono ?_
  rintro e w' ⟨rfl, rfl⟩
  go_wp2_with fail
  go_ret
  exact ⟨rfl, Grown.refl _⟩

/-- How the next date stands to a date. -/
def Step (y m d a b c l : Nat) : Prop := (d < l ∧ a = y ∧ b = m ∧ c = d + 1) ∨ (d = l ∧ c = 1 ∧ a = y ∧ b = m + 1) ∨ (d = l ∧ c = 1 ∧ m = 12 ∧ b = 1 ∧ a = y + 1)

set_option maxRecDepth 100000 in
set_option maxHeartbeats 800000 in
theorem walk_core (n y m d a b c l r s : Nat) (w : World) (hn : n + 1 < 2932897) (hy : y ≤ 9999) (hm : m ≤ 12) (hl : l ≤ 31) (hl2 : 1 < l) (hd : d ≤ l) (hr : r < 7) (hs : s = (r + 1) % 7) (h : Step y m d a b c l)
    (ca : Hid (Calls Tryd.prog 11 #[] w fun r w' => r = .returned (.bool true) ∧ w = w'))
    (c1 : Hid (Calls Tryd.prog 14 #[.int .i64 n] w fun e w' => e = .returned (.tuple #[.int .i64 y, .int .i64 m, .int .i64 d, .int .i64 0]) ∧ w = w'))
    (c2 : Hid (Calls Tryd.prog 14 #[.int .i64 (n + 1 : Int)] w fun e w' => e = .returned (.tuple #[.int .i64 a, .int .i64 b, .int .i64 c, .int .i64 0]) ∧ w = w'))
    (c3 : Hid (Calls Tryd.prog 16 #[.int .i64 n] w fun e w' => e = .returned (.tuple #[.int .i64 r, .int .i64 0]) ∧ w = w'))
    (c4 : Hid (Calls Tryd.prog 16 #[.int .i64 (n + 1 : Int)] w fun e w' => e = .returned (.tuple #[.int .i64 s, .int .i64 0]) ∧ w = w'))
    (c5 : Hid (Calls Tryd.prog 12 #[.int .i64 y, .int .i64 m] w fun r w' => r = .returned (.int .i64 l) ∧ w = w')) :
    Calls Tryd.prog 5 #[.int .i64 n] w fun e w' => e = .returned (.bool true) ∧ Grown w w' := by
  have hs' : ((s : Int) == ((r : Int) + 1) % 7) = true := by simp; omega
  clear hs
  rcases h with ⟨h1, rfl, rfl, rfl⟩ | ⟨rfl, rfl, rfl, rfl⟩ | ⟨rfl, rfl, rfl, rfl, rfl⟩
  all_goals
    go_enter Tryd.func5, Tryd.ntmps5
    go_wp2_with fail
    refine c1.out.mono ?_
    rintro e w' ⟨rfl, rfl⟩
    go_wp2_with fail
    refine ca.out.mono ?_
    rintro e w' ⟨rfl, rfl⟩
    go_wp2_with fail
    refine c2.out.mono ?_
    rintro e w' ⟨rfl, rfl⟩
    go_wp2_with fail
    refine c3.out.mono ?_
    rintro e w' ⟨rfl, rfl⟩
    go_wp2_with fail
    refine c4.out.mono ?_
    rintro e w' ⟨rfl, rfl⟩
    go_wp2_with fail
    refine c5.out.mono ?_
    rintro e w' ⟨rfl, rfl⟩
    go_wp2_with fail
    all_goals go_ret
    all_goals exact ⟨ret_bool (by simp), Grown.refl _⟩

theorem day_of (n : Nat) (hn : n < 2932897) : ∃ y m d, Day n y m d := by
  induction n with
  | zero => exact ⟨1970, 1, 1, by decide, by decide, by decide, by decide, by decide, by decide, by decide⟩
  | succ n ih =>
    obtain ⟨y, m, d, h⟩ := ih (by omega)
    rcases h.next with ⟨_, g⟩ | ⟨_, _, g⟩ | ⟨_, _, _, g⟩ | ⟨_, _, _, e⟩
    · exact ⟨_, _, _, g⟩
    · exact ⟨_, _, _, g⟩
    · exact ⟨_, _, _, g⟩
    · omega

theorem walk_some (n : Nat) (w : World) (t : Tab w) (hn : n + 1 < 2932897) :
    Calls Tryd.prog 5 #[.int .i64 n] w fun e w' => e = .returned (.bool true) ∧ Grown w w' := by
  obtain ⟨y, m, d, h⟩ := day_of n (by omega)
  obtain ⟨a, b, c, h'⟩ := day_of (n + 1) hn
  have dates : ∀ k y m d : Nat, k < 2932897 → Day k y m d → Hid (Calls Tryd.prog 14 #[.int .i64 k] w fun e w' => e = .returned (.tuple #[.int .i64 y, .int .i64 m, .int .i64 d, .int .i64 0]) ∧ w = w') := by
    intro k y m d hk h
    refine (date_some k w t hk).mono ?_
    rintro e w' ⟨⟨y', m', d', rfl, h'⟩, rfl⟩
    obtain ⟨rfl, rfl, rfl⟩ := h.same h' rfl
    exact ⟨rfl, rfl⟩
  have hstep : Step y m d a b c (long y m) := by
    rcases h.next with ⟨l, g⟩ | ⟨l, _, g⟩ | ⟨l, e, _, g⟩ | ⟨_, _, _, e⟩
    · obtain ⟨rfl, rfl, rfl⟩ := h'.same g rfl
      exact Or.inl ⟨l, rfl, rfl, rfl⟩
    · obtain ⟨rfl, rfl, rfl⟩ := h'.same g rfl
      exact Or.inr (Or.inl ⟨l, rfl, rfl, rfl⟩)
    · obtain ⟨rfl, rfl, rfl⟩ := h'.same g rfl
      exact Or.inr (Or.inr ⟨l, rfl, e, rfl, rfl⟩)
    · omega
  have l1 := long_ge y h.m1 h.m2
  exact walk_core n y m d a b c (long y m) ((n + 4) % 7) ((n + 1 + 4) % 7) w hn h.y2 h.m2 (long_le y h.m1 h.m2) (by omega) h.d2 (by omega) (by omega) hstep (awake_any w t) (dates n y m d (by omega) h) (dates (n + 1) a b c hn h') (weekday_some n _ w (by omega) rfl) (weekday_some (n + 1) _ w hn rfl) (long_some y m w t h.y1 h.y2 h.m1 h.m2)

theorem walk (a0 : Int) (w0 : (Lit.int .i64 a0).wf = true) (w : World) (t : Tab w) :
    Calls Tryd.prog 5 #[.int .i64 a0] w fun e w' => e = .returned (.bool true) ∧ Grown w w' := by
  have h0 : -9223372036854775808 ≤ a0 ∧ a0 ≤ 9223372036854775807 := by simpa [Lit.wf, IntKind.min, IntKind.max, IntKind.signed, IntKind.bits] using w0
  by_cases h : 0 ≤ a0 ∧ a0 < 2932897
  · obtain ⟨n, rfl⟩ : ∃ n : Nat, a0 = (n : Int) := ⟨a0.toNat, by omega⟩
    by_cases hl : n = 2932896
    · exact walk_last n w t hl
    · exact walk_some n w t (by omega)
  · exact walk_none a0 w t h0.1 h0.2 h

theorem contract (H : Type) (enc : TypeId × Value → H) (W : World) (base : Nat) (args : Array Value) (ds gs : List (DataW H)) (before : List MemPlace)
    (hval : ∀ (j : Nat) t v, Tryd.f5.params[j]? = some t → args[j]? = some v → Value.okWide Tryd.prog W .any base t v)
    (hW : DataW.Whole enc Tryd.prog Tryd.f5.params.toList Rows.civilNextSpec.vars false W args.toList ds gs before) (hL : laidMetH Tryd.prog Rows.civilNextRow.laid W) :
    Calls Tryd.prog 5 args W fun e W' => ∃ v, e = .returned v ∧ Rows.civilNextSpec.post enc Tryd.prog Tryd.f5 false true false false W args v W' := by
  have hW' := hW
  obtain ⟨p, q, hA0, hV, rfl, hfz, hnd⟩ := hW
  have hA : DataW.TrodAll enc Tryd.prog W 0 (fun _ => true) true Tryd.f5.params.toList args.toList ds p := hA0
  rw [Tryd.params5] at hA hval
  obtain ⟨v0, vs0, d0, ds0, p0, q0, hargs, rfl, rfl, h0, r0⟩ := trodAll_cons hA
  obtain ⟨rfl, rfl, rfl⟩ := trodAll_nil r0
  obtain rfl : args = #[v0] := by cases args; simp_all
  obtain ⟨rfl, rfl⟩ := trodVars_none hV
  obtain ⟨a0, rfl, rfl, rfl, w0⟩ := open_int Tryd.underlying3 (hval 0 3 v0 rfl rfl) h0
  clear hA0
  simp only [List.append_nil] at hW'
  refine (walk a0 w0 W (table hL)).mono fun e W' ⟨he, hg⟩ => ?_
  subst he
  exact ⟨_, rfl, post_of_same (pa := []) (pv := []) hW' (fun _ _ _ => trodAll_cons_mk (shut_bool Tryd.underlying4 _) trodAll_mk0) (fun _ _ => (trodAll_cons_mk (shut_int Tryd.underlying3 w0) trodAll_mk0)) (fun _ _ => rfl) rfl
    (hg.frame _) hg.2.1 (ok_one (by kernel_rfl) rfl (okWide_bool_mk Tryd.underlying4 _))⟩

theorem reads (os : Os) {H : Type} (enc : TypeId × Value → H) : ∃ places, DataW.whole enc Tryd.prog ((laidWorld os).forCall (fun _ _ => 0) ⟨#[], #[.int .i64 0], []⟩).memory Tryd.f5.params.toList Rows.civilNextSpec.vars false #[Value.int .i64 0].toList 8 = some ([.lit (.int .i64 0)], [], places) :=
  ⟨[], by kernel_rfl⟩

set_option maxRecDepth 100000 in
theorem lifted (os : Os) (started : os.Started) (H : Type) (enc : TypeId × Value → H) (F : Stop.Interp) :
    ReturnsInHanded {} Tryd.checked os 5 .any ((OpenSpec.ofChange Rows.civilNextSpec).preRow enc Tryd.prog Tryd.f5 Rows.civilNextRow.domain false Rows.civilNextRow.laid) (((OpenSpec.ofChange Rows.civilNextSpec).at F).post enc Tryd.prog Tryd.f5 false true false false) := by
  obtain ⟨places, hx⟩ := reads os enc
  refine returnsInHanded_of_row (C := Tryd.checked) (s := OpenSpec.ofChange Rows.civilNextSpec) own started (by kernel_rfl) Tryd.func5
    (witness_row_at (enc := enc) (C := Tryd.checked) false (laidWorld os) #[.int .i64 0] rfl (by kernel_rfl) (by kernel_rfl) (by kernel_rfl)
      (OpenSpec.preRow_of_cond 8 hx (by kernel_rfl) (fun k hk => by cases hk) (by kernel_rfl) (laid_met os _))) ?_
  intro W base args ds gs before hval hW _ _ _ hL _ _
  exact contract H enc W base args ds gs before hval hW hL

theorem said : Rows.CivilNextSaid :=
  OpenClaim.holds_of_cond 5 Tryd.f5 rfl rfl rfl rfl rfl rfl rfl ⟨rfl, rfl, rfl, rfl, rfl⟩ rfl rfl rfl rfl rfl (by kernel_rfl) Tryd.func5 (by kernel_rfl)
    (of_decide_eq_true (by kernel_rfl)) (by unfold Func.isWrapper; first | (rw [if_pos (by decide +kernel)]; kernel_rfl) | (rw [if_neg (by decide +kernel)]; exact ⟨rfl, rfl⟩))
    (fun os started H enc _ F => by rw [OpenClaim.pre_eq_preRow]; exact lifted os started H enc F)

theorem plain (f : FuncId) (fn : Func) (hf : Tryd.pinned.checked.prog.funcNamed "tompion/tompionlaw03.CivilNext" = some f) (hfn : Tryd.pinned.checked.prog.funcs[f]? = some fn) :
    false = Tryd.pinned.checked.prog.looks [] ∧ ∀ (j : Nat) t, fn.params[j]? = some t → Tryd.pinned.checked.prog.wantsStandIn t = false := by
  obtain rfl : f = 5 := Option.some.inj ((show Tryd.prog.funcNamed "tompion/tompionlaw03.CivilNext" = some 5 by kernel_rfl).symm.trans hf) |>.symm
  obtain rfl : fn = Tryd.f5 := (Option.some.inj (Tryd.func5.symm.trans hfn)).symm
  refine ⟨by kernel_rfl, fun j t ht => ?_⟩
  rw [Tryd.params5] at ht
  obtain rfl : t = 3 := by simpa using Array.mem_of_getElem? ht
  exact (show Tryd.prog.wantsStandIn 3 = false by kernel_rfl)

/-- The statement: the card, its table tied to the program's text. -/
theorem proved : Rows.CivilNextCardSaid :=
  Claim7.holds_tied_plain_at .later [] _ _ _ _ said (fun _ h => by cases h) (by kernel_rfl) (fun _ h => by cases h) civilNext_row_tie rfl ⟨rfl, rfl⟩ (by kernel_rfl) rfl plain (by kernel_rfl)
#print axioms proved
end Go.Proofs.YtehjmlpglhapbaaDoor.civilNext
