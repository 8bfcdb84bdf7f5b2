/-
  CodecWrites holds: any number, with or without a sign, and any text, have the bytes that the document says. No condition.
-/
import Derived.Test.YtggpfggfiflnaaaAwake
import Derived.ProofKit
import Derived.OpenShut
import Derived.ShutString
namespace Go.Proofs.Ytggpfggfiflnaaa.codecWrites
open Go.ChangeShapes Go.WideShapes Go.ChangeAt Go.RowKit Cod
open Go.ChangeMaps (open_string shut_string)

theorem own : ownKnob Try.prog.godebug = none := by kernel_rfl

set_option maxHeartbeats 400000 in
theorem walk_core (n : Nat) (i : Int) (s A B C : ByteArray) (w : World)
    (ca : ∀ W, Hid (Calls Try.prog 10 #[.int .u64 n] W fun e w' => e = .returned (.string A) ∧ Below W.heap.size W w'))
    (ra : ∀ W, Hid (Calls Try.prog 11 #[.int .u64 n] W fun e w' => e = .returned (.string A) ∧ Below W.heap.size W w'))
    (cb : ∀ W, Hid (Calls Try.prog 12 #[.int .i64 i] W fun e w' => e = .returned (.string B) ∧ Below W.heap.size W w'))
    (rb : ∀ W, Hid (Calls Try.prog 13 #[.int .i64 i] W fun e w' => e = .returned (.string B) ∧ Below W.heap.size W w'))
    (cc : Hid (s.size ≤ 1000 → ∀ W, Calls Try.prog 14 #[.string s] W fun e w' => e = .returned (.string C) ∧ Below W.heap.size W w'))
    (rc : Hid (s.size ≤ 1000 → ∀ W, Calls Try.prog 15 #[.string s] W fun e w' => e = .returned (.string C) ∧ Below W.heap.size W w')) :
    Calls Try.prog 3 #[.int .u64 n, .int .i64 i, .string s] w fun e w' => e = .returned (.bool true) ∧ Below w.heap.size w w' := by
  have Ca := Lib.hid ca
  have Ra := Lib.hid ra
  have Cb := Lib.hid cb
  have Rb := Lib.hid rb
  clear ca cb ra rb
  go_enter Try.func3, Try.ntmps3
  go_wp2_with fail
  refine (awake_any _).mono ?_
  rintro e w1 ⟨rfl, b1⟩
  replace b1 := Lib.hid b1
  go_wp2_with fail
  refine (Ca.out _).out.mono ?_
  rintro e w2 ⟨rfl, k2⟩
  have b2 := Lib.hid (b1.out.trans (k2.mono b1.out.size))
  clear k2 b1
  go_wp2_with fail
  refine (Ra.out _).out.mono ?_
  rintro e w3 ⟨rfl, k3⟩
  have b3 := Lib.hid (b2.out.trans (k3.mono b2.out.size))
  clear k3 b2
  go_wp2_with fail
  refine (Cb.out _).out.mono ?_
  rintro e w4 ⟨rfl, k4⟩
  have b4 := Lib.hid (b3.out.trans (k4.mono b3.out.size))
  clear k4 b3
  go_wp2_with fail
  refine (Rb.out _).out.mono ?_
  rintro e w5 ⟨rfl, k5⟩
  have b5 := Lib.hid (b4.out.trans (k5.mono b4.out.size))
  clear k5 b4
  by_cases hs : 1000 < s.size
  · go_wp2_with fail
    go_ret
    exact ⟨rfl, b5.out⟩
  · go_wp2_with fail
    refine (cc.out (by omega) _).mono ?_
    rintro e w6 ⟨rfl, k6⟩
    have b6 := Lib.hid (b5.out.trans (k6.mono b5.out.size))
    clear k6 b5
    go_wp2_with fail
    refine (rc.out (by omega) _).mono ?_
    rintro e w7 ⟨rfl, k7⟩
    have b7 := Lib.hid (b6.out.trans (k7.mono b6.out.size))
    clear k7 b6
    go_wp2_with fail
    go_ret
    exact ⟨rfl, b7.out⟩

theorem walk (a0 : Int) (a1 : Int) (a2 : ByteArray) (w0 : (Lit.int .u64 a0).wf = true) (w1 : (Lit.int .i64 a1).wf = true) (_ : a2.size ≤ maxLen) (w : World) :
    Calls Try.prog 3 #[.int .u64 a0, .int .i64 a1, .string a2] w fun e w' => e = .returned (.bool true) ∧ Below w.heap.size w w' := by
  have h0 : 0 ≤ a0 ∧ a0 ≤ 18446744073709551615 := by simpa [Lit.wf, IntKind.min, IntKind.max, IntKind.signed, IntKind.bits] using w0
  have h2 : -9223372036854775808 ≤ a1 ∧ a1 ≤ 9223372036854775807 := by simpa [Lit.wf, IntKind.min, IntKind.max, IntKind.signed, IntKind.bits] using w1
  obtain ⟨a, rfl⟩ : ∃ a : Nat, a0 = (a : Int) := ⟨a0.toNat, by omega⟩
  exact walk_core a a1 a2 (encB a) (encB (zig a1)) (strB a2) w (fun W => uint_any a W (by omega)) (fun W => refUint_any a W (by omega)) (fun W => int_any a1 W h2.1 h2.2) (fun W => refInt_any a1 W h2.1 h2.2)
    (fun h W => str_any a2 W (by omega)) (fun h W => refStr_any a2 W (by omega))

set_option maxRecDepth 100000 in
theorem lifted (os : Os) (started : os.Started) (H : Type) (enc : TypeId × Value → H) :
    ReturnsInHanded {} Try.checked os 3 .any (Rows.codecWritesSpec.pre6 enc Try.prog Try.f3 Rows.codecWritesRow.domain false) (Rows.codecWritesSpec.post enc Try.prog Try.f3 false true false false) := by
  refine returnsInHanded_of_change (C := Try.checked) own started (by kernel_rfl) Try.func3
    (ChangeSpec.witness6 (enc := enc) (C := Try.checked) false ⟨#[], #[.int .u64 0, .int .i64 0, .string ByteArray.empty], []⟩ 8 (by kernel_rfl) (by kernel_rfl) (by kernel_rfl) (by kernel_rfl)) ?_
  intro W base args ds gs before hval0 hW _ _
  have hval : ∀ (j : Nat) t v, Try.f3.params[j]? = some t → args[j]? = some v → Value.okWide Try.prog W .any base t v := hval0
  have hW' := hW
  obtain ⟨p, q, hA0, hV, rfl, hfz, hnd⟩ := hW
  have hA : DataW.TrodAll enc Try.prog W 0 (fun _ => true) true Try.f3.params.toList args.toList ds p := hA0
  rw [Try.params3] at hA hval
  obtain ⟨v0, vs0, d0, ds0, p0, q0, hargs, rfl, rfl, h0, r0⟩ := trodAll_cons hA
  obtain ⟨v1, vs1, d1, ds1, p1, q1, rfl, rfl, rfl, h1, r1⟩ := trodAll_cons r0
  obtain ⟨v2, vs2, d2, ds2, p2, q2, rfl, rfl, rfl, h2, r2⟩ := trodAll_cons r1
  obtain ⟨rfl, rfl, rfl⟩ := trodAll_nil r2
  obtain rfl : args = #[v0, v1, v2] := by cases args; simp_all
  obtain ⟨rfl, rfl⟩ := trodVars_none hV
  obtain ⟨a0, rfl, rfl, rfl, w0⟩ := open_int Try.underlying22 (hval 0 22 v0 rfl rfl) h0
  obtain ⟨a1, rfl, rfl, rfl, w1⟩ := open_int Try.underlying3 (hval 1 3 v1 rfl rfl) h1
  obtain ⟨a2, rfl, rfl, rfl, w2⟩ := open_string Try.underlying9 (hval 2 9 v2 rfl rfl) h2
  clear hA0 hval0
  simp only [List.append_nil] at hW'
  refine (walk a0 a1 a2 w0 w1 w2 W).mono fun e W' ⟨he, hg⟩ => ?_
  subst he
  exact ⟨_, rfl, _, _, _, [], [], [], hW', trodAll_cons_mk (shut_bool Try.underlying4 _) trodAll_mk0, trodAll_cons_mk (shut_int Try.underlying22 w0) (trodAll_cons_mk (shut_int Try.underlying3 w1) (trodAll_cons_mk (shut_string Try.underlying9 w2) trodAll_mk0)), rfl, hg.frame _, fun h => by cases h⟩

theorem over : Rows.codecWritesRow.holds Try.pinned (OpenSpec.ofChange Rows.codecWritesSpec) :=
  OpenClaim.holds_of_wide 3 Try.f3 rfl rfl rfl rfl rfl rfl rfl ⟨rfl, rfl, rfl, rfl, rfl⟩ rfl rfl rfl rfl rfl (by kernel_rfl) Try.func3 (by kernel_rfl)
    (of_decide_eq_true (by kernel_rfl)) (by unfold Func.isWrapper; first | (rw [if_pos (by decide +kernel)]; kernel_rfl) | (rw [if_neg (by decide +kernel)]; exact ⟨rfl, rfl⟩))
    (fun os started H enc _ => lifted os started H enc)

/-- The statement. -/
theorem proved : Rows.CodecWritesSaid :=
  over
#print axioms proved
end Go.Proofs.Ytggpfggfiflnaaa.codecWrites
