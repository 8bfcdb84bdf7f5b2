/-
  CivilYears holds: a year has 365 or 366 days, month by month; four hundred years have 146097. No condition but the table's.
-/
import Derived.Test.YtehjmlpglhapbaaDoorRefDate
import Derived.Test.YtehjmlpglhapbaaDoorCivilWeeks
import Derived.Test.YtehjmlpglhapbaaDoorLift
import Derived.Test.YtehjmlpglhapbaaDoorCards
import Derived.Test.YtehjmlpglhapbaaDoorTie
import Derived.WalkKit
import Derived.ProofKit
import Derived.OpenShut
import Derived.Deep.DeepHandedRow
namespace Go.Proofs.YtehjmlpglhapbaaDoor.civilYears
open Go.ChangeShapes Go.WideShapes Go.ChangeAt Go.RowKit Civ
set_option linter.unusedVariables false

open civilWeeks (place_of)

theorem day_new {y : Nat} (y1 : 1970 ≤ y) (y2 : y ≤ 9999) : Day (ay y) y 1 1 := by
  have := long_ge y (m := 1) (by omega) (by omega)
  have := am_one y
  exact ⟨y1, y2, by omega, by omega, by omega, by omega, by omega⟩
theorem day_old {y : Nat} (y1 : 1970 ≤ y) (y2 : y ≤ 9999) : Day (ay y + am y 13 - 1) y 12 31 := by
  have h := long_eq y (m := 12) (by omega) (by omega)
  have e : am y 13 = am y 12 + long y 12 := am_step y (m := 12) (by omega) (by omega)
  simp at h
  exact ⟨y1, y2, by omega, by omega, by omega, by omega, by omega⟩
theorem long_feb (y : Nat) : am y 13 + 28 = 365 + long y 2 := by
  rw [am_end, long_eq y (m := 2) (by omega) (by omega)]
  cases leap y <;> simp
theorem ay_four {y : Nat} (h : 1970 ≤ y) : ay (y + 400) = ay y + 146097 := by
  have q4 : (y + 400 - 1) / 4 = (y - 1) / 4 + 100 := by omega
  have q1 : (y + 400 - 1) / 100 = (y - 1) / 100 + 4 := by omega
  have q2 : (y + 400 - 1) / 400 = (y - 1) / 400 + 1 := by omega
  have g4 : 492 ≤ (y - 1) / 4 := by omega
  have g1 : (y - 1) / 100 * 25 ≤ (y - 1) / 4 := by omega
  have g2 : 4 ≤ (y - 1) / 400 := by omega
  unfold ay lb
  rw [q4, q1, q2]
  generalize (y - 1) / 4 = a at *
  generalize (y - 1) / 100 = b at *
  generalize (y - 1) / 400 = c at *
  omega

set_option maxRecDepth 100000 in
set_option maxHeartbeats 800000 in
theorem walk_core (a0 : Int) (y a s l c g : Nat) (w : World) (t : Hid (Tab w)) (y1 : 1970 ≤ y) (y2 : y ≤ 9999) (ey : 1970 + wrap64 ((IntKind.u64.wrap a0).tmod 8030) = y) (hs1 : 365 ≤ s) (hs : s ≤ 366) (hS : Hid (am y 13 = s)) (ha : a ≤ 10000000) (hc : c ≤ 10000000) (hsl : s + 28 = 365 + l)
    (hg : (9999 < y + 400 ∧ g = 2) ∨ (y + 400 ≤ 9999 ∧ g = 0 ∧ c = a + 146097))
    (ca : Hid (Calls Tryd.prog 11 #[] w fun r w' => r = .returned (.bool true) ∧ w = w'))
    (c1 : Hid (Calls Tryd.prog 9 #[.int .i64 y, .int .i64 1, .int .i64 1] w fun e w' => e = .returned (.tuple #[.int .i64 a, .int .i64 0]) ∧ w = w'))
    (c2 : Hid (Calls Tryd.prog 9 #[.int .i64 y, .int .i64 12, .int .i64 31] w fun e w' => e = .returned (.tuple #[.int .i64 (a + s - 1 : Nat), .int .i64 0]) ∧ w = w'))
    (c3 : Hid (Calls Tryd.prog 12 #[.int .i64 y, .int .i64 2] w fun r w' => r = .returned (.int .i64 l) ∧ w = w'))
    (c4 : Hid (Calls Tryd.prog 9 #[.int .i64 (y + 400 : Int), .int .i64 1, .int .i64 1] w fun e w' => e = .returned (.tuple #[.int .i64 c, .int .i64 g]) ∧ w = w')) :
    Calls Tryd.prog 7 #[.int .i64 a0] w fun e w' => e = .returned (.bool true) ∧ Grown w w' := by
  go_enter Tryd.func7, Tryd.ntmps7
  go_wp2_with fail
  go_loop [3, 4] (fun n i => ∃ m : Nat, 1 ≤ m ∧ m ≤ 13 ∧ i = .int .i64 m ∧ n = .int .i64 (am y m : Nat)) (fun _ i => 13 - (intOf i).toNat)
  case atStart => exact ⟨1, by omega, by omega, rfl, by rw [am_one]; rfl⟩
  case round =>
    obtain ⟨m, m1, m2, rfl, rfl⟩ := hrel
    by_cases hm : m < 13
    · have c5 := Lib.hid (long_some y m w t.out y1 y2 m1 (by omega))
      have e : Hid (am y (m + 1) = am y m + long y m) := am_step y m1 (by omega)
      have b1 := am_le y m1 m2
      have b2 := long_le y m1 (by omega)
      generalize am y m = p at *
      generalize long y m = q at *
      go_wp2_with fail
      refine c5.out.mono ?_
      rintro e w' ⟨rfl, rfl⟩
      go_wp2_with fail
      go_round
      case rel => exact ⟨m + 1, by omega, by omega, by go_num, by rw [e.out]; go_num⟩
      case measure => simp [intOf]; omega
    · obtain rfl : m = 13 := by omega
      rw [hS.out]
      clear hm m1 m2 ey
      have E1 : (((a + s - 1 : Nat) : Int) - a + 1 != s) = false := by simp; omega
      have E2 : ((s : Int) != 365 + l - 28) = false := by simp; omega
      go_wp2_with fail
      refine c1.out.mono ?_
      rintro e w' ⟨rfl, rfl⟩
      go_wp2_with fail
      refine c2.out.mono ?_
      rintro e w' ⟨rfl, rfl⟩
      go_wp2_with fail
      refine ca.out.mono ?_
      rintro e w' ⟨rfl, rfl⟩
      go_wp2_with fail
      refine c3.out.mono ?_
      rintro e w' ⟨rfl, rfl⟩
      go_wp2_with fail
      refine c4.out.mono ?_
      rintro e w' ⟨rfl, rfl⟩
      clear E1 E2
      rcases hg with ⟨hg, rfl⟩ | ⟨hg, rfl, rfl⟩
      · go_wp2_with fail
        go_ret
        exact ⟨ret_bool (by simp), Grown.refl _⟩
      · go_wp2_with fail
        go_ret
        exact ⟨ret_bool (by simp; omega), Grown.refl _⟩

theorem walk (a0 : Int) (w0 : (Lit.int .i64 a0).wf = true) (w : World) (t : Tab w) :
    Calls Tryd.prog 7 #[.int .i64 a0] w fun e w' => e = .returned (.bool true) ∧ Grown w w' := by
  obtain ⟨x, hx, ex⟩ := place_of a0 8030 (by omega) (by omega)
  obtain ⟨y, hy⟩ : ∃ y, 1970 + x = y := ⟨_, rfl⟩
  have y1 : 1970 ≤ y := by omega
  have y2 : y ≤ 9999 := by omega
  have b := (day_new y1 y2).lt
  have b1 := am_end_ge y
  have b2 := am_end_le y
  by_cases h : y + 400 ≤ 9999
  · have d := day_new (y := y + 400) (by omega) h
    have b3 := d.lt
    exact walk_core a0 y (ay y) (am y 13) (long y 2) (ay (y + 400)) 0 w t y1 y2 (by rw [ex]; omega) b1 b2 rfl (by omega) (by omega) (long_feb y) (Or.inr ⟨h, rfl, ay_four y1⟩) (awake_any w t)
      (days_some (day_new y1 y2) w t) (days_some (day_old y1 y2) w t) (long_some y 2 w t y1 y2 (by omega) (by omega)) (days_some d w t)
  · have d : ¬ IsDate (y + 400 : Int) 1 1 := by
      unfold IsDate
      rw [longZ_none (by omega)]
      omega
    exact walk_core a0 y (ay y) (am y 13) (long y 2) 0 2 w t y1 y2 (by rw [ex]; omega) b1 b2 rfl (by omega) (by omega) (long_feb y) (Or.inl ⟨by omega, rfl⟩) (awake_any w t)
      (days_some (day_new y1 y2) w t) (days_some (day_old y1 y2) w t) (long_some y 2 w t y1 y2 (by omega) (by omega)) (days_none _ _ _ d w t)

theorem contract (H : Type) (enc : TypeId × Value → H) (W : World) (base : Nat) (args : Array Value) (ds gs : List (DataW H)) (before : List MemPlace)
    (hval : ∀ (j : Nat) t v, Tryd.f7.params[j]? = some t → args[j]? = some v → Value.okWide Tryd.prog W .any base t v)
    (hW : DataW.Whole enc Tryd.prog Tryd.f7.params.toList Rows.civilYearsSpec.vars false W args.toList ds gs before) (hL : laidMetH Tryd.prog Rows.civilYearsRow.laid W) :
    Calls Tryd.prog 7 args W fun e W' => ∃ v, e = .returned v ∧ Rows.civilYearsSpec.post enc Tryd.prog Tryd.f7 false true false false W args v W' := by
  have hW' := hW
  obtain ⟨p, q, hA0, hV, rfl, hfz, hnd⟩ := hW
  have hA : DataW.TrodAll enc Tryd.prog W 0 (fun _ => true) true Tryd.f7.params.toList args.toList ds p := hA0
  rw [Tryd.params7] at hA hval
  obtain ⟨v0, vs0, d0, ds0, p0, q0, hargs, rfl, rfl, h0, r0⟩ := trodAll_cons hA
  obtain ⟨rfl, rfl, rfl⟩ := trodAll_nil r0
  obtain rfl : args = #[v0] := by cases args; simp_all
  obtain ⟨rfl, rfl⟩ := trodVars_none hV
  obtain ⟨a0, rfl, rfl, rfl, w0⟩ := open_int Tryd.underlying3 (hval 0 3 v0 rfl rfl) h0
  clear hA0
  simp only [List.append_nil] at hW'
  refine (walk a0 w0 W (table hL)).mono fun e W' ⟨he, hg⟩ => ?_
  subst he
  exact ⟨_, rfl, post_of_same (pa := []) (pv := []) hW' (fun _ _ _ => trodAll_cons_mk (shut_bool Tryd.underlying4 _) trodAll_mk0) (fun _ _ => (trodAll_cons_mk (shut_int Tryd.underlying3 w0) trodAll_mk0)) (fun _ _ => rfl) rfl
    (hg.frame _) hg.2.1 (ok_one (by kernel_rfl) rfl (okWide_bool_mk Tryd.underlying4 _))⟩

theorem reads (os : Os) {H : Type} (enc : TypeId × Value → H) : ∃ places, DataW.whole enc Tryd.prog ((laidWorld os).forCall (fun _ _ => 0) ⟨#[], #[.int .i64 0], []⟩).memory Tryd.f7.params.toList Rows.civilYearsSpec.vars false #[Value.int .i64 0].toList 8 = some ([.lit (.int .i64 0)], [], places) :=
  ⟨[], by kernel_rfl⟩

set_option maxRecDepth 100000 in
theorem lifted (os : Os) (started : os.Started) (H : Type) (enc : TypeId × Value → H) (F : Stop.Interp) :
    ReturnsInHanded {} Tryd.checked os 7 .any ((OpenSpec.ofChange Rows.civilYearsSpec).preRow enc Tryd.prog Tryd.f7 Rows.civilYearsRow.domain false Rows.civilYearsRow.laid) (((OpenSpec.ofChange Rows.civilYearsSpec).at F).post enc Tryd.prog Tryd.f7 false true false false) := by
  obtain ⟨places, hx⟩ := reads os enc
  refine returnsInHanded_of_row (C := Tryd.checked) (s := OpenSpec.ofChange Rows.civilYearsSpec) own started (by kernel_rfl) Tryd.func7
    (witness_row_at (enc := enc) (C := Tryd.checked) false (laidWorld os) #[.int .i64 0] rfl (by kernel_rfl) (by kernel_rfl) (by kernel_rfl)
      (OpenSpec.preRow_of_cond 8 hx (by kernel_rfl) (fun k hk => by cases hk) (by kernel_rfl) (laid_met os _))) ?_
  intro W base args ds gs before hval hW _ _ _ hL _ _
  exact contract H enc W base args ds gs before hval hW hL

theorem said : Rows.CivilYearsSaid :=
  OpenClaim.holds_of_cond 7 Tryd.f7 rfl rfl rfl rfl rfl rfl rfl ⟨rfl, rfl, rfl, rfl, rfl⟩ rfl rfl rfl rfl rfl (by kernel_rfl) Tryd.func7 (by kernel_rfl)
    (of_decide_eq_true (by kernel_rfl)) (by unfold Func.isWrapper; first | (rw [if_pos (by decide +kernel)]; kernel_rfl) | (rw [if_neg (by decide +kernel)]; exact ⟨rfl, rfl⟩))
    (fun os started H enc _ F => by rw [OpenClaim.pre_eq_preRow]; exact lifted os started H enc F)

theorem plain (f : FuncId) (fn : Func) (hf : Tryd.pinned.checked.prog.funcNamed "tompion/tompionlaw03.CivilYears" = some f) (hfn : Tryd.pinned.checked.prog.funcs[f]? = some fn) :
    false = Tryd.pinned.checked.prog.looks [] ∧ ∀ (j : Nat) t, fn.params[j]? = some t → Tryd.pinned.checked.prog.wantsStandIn t = false := by
  obtain rfl : f = 7 := Option.some.inj ((show Tryd.prog.funcNamed "tompion/tompionlaw03.CivilYears" = some 7 by kernel_rfl).symm.trans hf) |>.symm
  obtain rfl : fn = Tryd.f7 := (Option.some.inj (Tryd.func7.symm.trans hfn)).symm
  refine ⟨by kernel_rfl, fun j t ht => ?_⟩
  rw [Tryd.params7] at ht
  obtain rfl : t = 3 := by simpa using Array.mem_of_getElem? ht
  exact (show Tryd.prog.wantsStandIn 3 = false by kernel_rfl)

/-- The statement: the card, its table tied to the program's text. -/
theorem proved : Rows.CivilYearsCardSaid :=
  Claim7.holds_tied_plain_at .later [] _ _ _ _ said (fun _ h => by cases h) (by kernel_rfl) (fun _ h => by cases h) civilYears_row_tie rfl ⟨rfl, rfl⟩ (by kernel_rfl) rfl plain (by kernel_rfl)
#print axioms proved
end Go.Proofs.YtehjmlpglhapbaaDoor.civilYears
