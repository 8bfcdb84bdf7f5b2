/-
  CodecOrder holds: the shorter a number's bytes are, the less it is; with signs, those from -64 to 63 take one byte. No condition.
-/
import Derived.Test.YtggpfggfiflnaaaAwake
import Derived.ProofKit
import Derived.OpenShut
import Derived.ShutString
namespace Go.Proofs.Ytggpfggfiflnaaa.codecOrder
open Go.ChangeShapes Go.WideShapes Go.ChangeAt Go.RowKit Cod
open Go.ChangeMaps (open_string shut_string)

theorem own : ownKnob Try.prog.godebug = none := by kernel_rfl

set_option maxHeartbeats 400000 in
theorem walk_core (a b x y z : Nat) (i : Int) (w : World) (_ha : a < 18446744073709551616) (_hb : b < 18446744073709551616) (hi1 : -9223372036854775808 ≤ i) (hi2 : i ≤ 9223372036854775807)
    (A B C : ByteArray) (hA : A.size = x) (hB : B.size = y) (hC : C.size = z) (_hx : x ≤ 10) (_hy : y ≤ 10) (_hz : z ≤ 10) (h1 : x < y → a < b) (h2 : y < x → b < a) (h3 : Hid (z = 1 ↔ -64 ≤ i ∧ i < 64))
    (ca : ∀ W, Hid (Calls Try.prog 10 #[.int .u64 a] W fun e w' => e = .returned (.string A) ∧ Below W.heap.size W w'))
    (cb : ∀ W, Hid (Calls Try.prog 10 #[.int .u64 b] W fun e w' => e = .returned (.string B) ∧ Below W.heap.size W w'))
    (cc : ∀ W, Hid (Calls Try.prog 12 #[.int .i64 i] W fun e w' => e = .returned (.string C) ∧ Below W.heap.size W w')) :
    Calls Try.prog 8 #[.int .u64 a, .int .u64 b, .int .i64 i] w fun e w' => e = .returned (.bool true) ∧ Below w.heap.size w w' := by
  have Ca := Lib.hid ca
  have Cb := Lib.hid cb
  have Cc := Lib.hid cc
  clear ca cb cc
  go_enter Try.func8, Try.ntmps8
  go_wp2_with fail
  refine (awake_any _).mono ?_
  rintro e w1 ⟨rfl, b1⟩
  replace b1 := Lib.hid b1
  go_wp2_with fail
  refine (Ca.out _).out.mono ?_
  rintro e w2 ⟨rfl, k2⟩
  have b2 := Lib.hid (b1.out.trans (k2.mono b1.out.size))
  clear k2 b1
  go_wp2_with fail
  refine (Cb.out _).out.mono ?_
  rintro e w3 ⟨rfl, k3⟩
  have b3 := Lib.hid (b2.out.trans (k3.mono b2.out.size))
  clear k3 b2
  go_wp2_with fail
  all_goals
    refine (Cc.out _).out.mono ?_
    rintro e w4 ⟨rfl, k4⟩
    have b4 := Lib.hid (b3.out.trans (k4.mono b3.out.size))
    clear k4 b3
    by_cases hlo : -64 ≤ i
    · by_cases hhi : i < 64
      · have ez : ((z : Int) == 1) = true := by have := h3.out.2 ⟨hlo, hhi⟩; simp; omega
        go_wp2_with fail
        go_ret
        exact ⟨rfl, b4.out⟩
      · have ez : ((z : Int) == 1) = false := by have := h3.out.1; simp; omega
        have hd := Lib.hid (show decide (i < 64) = false by simpa using hhi)
        go_wp2_with fail
        go_ret
        refine ⟨?_, b4.out⟩
        show Ending.returned (.bool (!decide (i < 64))) = _
        rw [hd.out]; rfl
    · have ez : ((z : Int) == 1) = false := by have := h3.out.1; simp; omega
      go_wp2_with fail
      go_ret
      exact ⟨rfl, b4.out⟩

theorem zig_near (i : Int) : zig i < 128 ↔ -64 ≤ i ∧ i < 64 := by unfold zig; split <;> omega

theorem walk (a0 : Int) (a1 : Int) (a2 : Int) (w0 : (Lit.int .u64 a0).wf = true) (w1 : (Lit.int .u64 a1).wf = true) (w2 : (Lit.int .i64 a2).wf = true) (w : World) :
    Calls Try.prog 8 #[.int .u64 a0, .int .u64 a1, .int .i64 a2] w fun e w' => e = .returned (.bool true) ∧ Below w.heap.size w w' := by
  have h0 : 0 ≤ a0 ∧ a0 ≤ 18446744073709551615 := by simpa [Lit.wf, IntKind.min, IntKind.max, IntKind.signed, IntKind.bits] using w0
  have h1 : 0 ≤ a1 ∧ a1 ≤ 18446744073709551615 := by simpa [Lit.wf, IntKind.min, IntKind.max, IntKind.signed, IntKind.bits] using w1
  have h2 : -9223372036854775808 ≤ a2 ∧ a2 ≤ 9223372036854775807 := by simpa [Lit.wf, IntKind.min, IntKind.max, IntKind.signed, IntKind.bits] using w2
  obtain ⟨a, rfl⟩ : ∃ a : Nat, a0 = (a : Int) := ⟨a0.toNat, by omega⟩
  obtain ⟨b, rfl⟩ : ∃ b : Nat, a1 = (b : Int) := ⟨a1.toNat, by omega⟩
  have hz := zig_lt h2.1 h2.2
  exact walk_core a b _ _ _ a2 w (by omega) (by omega) h2.1 h2.2 (encB a) (encB b) (encB (zig a2)) (encB_size a) (encB_size b) (encB_size _) (enc_ten (by omega)) (enc_ten (by omega)) (enc_ten hz)
    enc_shorter enc_shorter ((enc_one _).trans (zig_near a2)) (fun W => uint_any a W (by omega)) (fun W => uint_any b W (by omega)) (fun W => int_any a2 W h2.1 h2.2)

set_option maxRecDepth 100000 in
theorem lifted (os : Os) (started : os.Started) (H : Type) (enc : TypeId × Value → H) :
    ReturnsInHanded {} Try.checked os 8 .any (Rows.codecOrderSpec.pre6 enc Try.prog Try.f8 Rows.codecOrderRow.domain false) (Rows.codecOrderSpec.post enc Try.prog Try.f8 false true false false) := by
  refine returnsInHanded_of_change (C := Try.checked) own started (by kernel_rfl) Try.func8
    (ChangeSpec.witness6 (enc := enc) (C := Try.checked) false ⟨#[], #[.int .u64 0, .int .u64 0, .int .i64 0], []⟩ 8 (by kernel_rfl) (by kernel_rfl) (by kernel_rfl) (by kernel_rfl)) ?_
  intro W base args ds gs before hval0 hW _ _
  have hval : ∀ (j : Nat) t v, Try.f8.params[j]? = some t → args[j]? = some v → Value.okWide Try.prog W .any base t v := hval0
  have hW' := hW
  obtain ⟨p, q, hA0, hV, rfl, hfz, hnd⟩ := hW
  have hA : DataW.TrodAll enc Try.prog W 0 (fun _ => true) true Try.f8.params.toList args.toList ds p := hA0
  rw [Try.params8] at hA hval
  obtain ⟨v0, vs0, d0, ds0, p0, q0, hargs, rfl, rfl, h0, r0⟩ := trodAll_cons hA
  obtain ⟨v1, vs1, d1, ds1, p1, q1, rfl, rfl, rfl, h1, r1⟩ := trodAll_cons r0
  obtain ⟨v2, vs2, d2, ds2, p2, q2, rfl, rfl, rfl, h2, r2⟩ := trodAll_cons r1
  obtain ⟨rfl, rfl, rfl⟩ := trodAll_nil r2
  obtain rfl : args = #[v0, v1, v2] := by cases args; simp_all
  obtain ⟨rfl, rfl⟩ := trodVars_none hV
  obtain ⟨a0, rfl, rfl, rfl, w0⟩ := open_int Try.underlying22 (hval 0 22 v0 rfl rfl) h0
  obtain ⟨a1, rfl, rfl, rfl, w1⟩ := open_int Try.underlying22 (hval 1 22 v1 rfl rfl) h1
  obtain ⟨a2, rfl, rfl, rfl, w2⟩ := open_int Try.underlying3 (hval 2 3 v2 rfl rfl) h2
  clear hA0 hval0
  simp only [List.append_nil] at hW'
  refine (walk a0 a1 a2 w0 w1 w2 W).mono fun e W' ⟨he, hg⟩ => ?_
  subst he
  exact ⟨_, rfl, _, _, _, [], [], [], hW', trodAll_cons_mk (shut_bool Try.underlying4 _) trodAll_mk0, trodAll_cons_mk (shut_int Try.underlying22 w0) (trodAll_cons_mk (shut_int Try.underlying22 w1) (trodAll_cons_mk (shut_int Try.underlying3 w2) trodAll_mk0)), rfl, hg.frame _, fun h => by cases h⟩

theorem over : Rows.codecOrderRow.holds Try.pinned (OpenSpec.ofChange Rows.codecOrderSpec) :=
  OpenClaim.holds_of_wide 8 Try.f8 rfl rfl rfl rfl rfl rfl rfl ⟨rfl, rfl, rfl, rfl, rfl⟩ rfl rfl rfl rfl rfl (by kernel_rfl) Try.func8 (by kernel_rfl)
    (of_decide_eq_true (by kernel_rfl)) (by unfold Func.isWrapper; first | (rw [if_pos (by decide +kernel)]; kernel_rfl) | (rw [if_neg (by decide +kernel)]; exact ⟨rfl, rfl⟩))
    (fun os started H enc _ => lifted os started H enc)

/-- The statement. -/
theorem proved : Rows.CodecOrderSaid :=
  over
#print axioms proved
end Go.Proofs.Ytggpfggfiflnaaa.codecOrder
