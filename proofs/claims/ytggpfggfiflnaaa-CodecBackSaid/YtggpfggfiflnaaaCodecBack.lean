/-
  CodecBack holds (the stage's theorem): what is written is read as it was, and what stands behind it is left; cut off it isn't read. No condition.
-/
import Derived.Test.YtggpfggfiflnaaaAwake
import Derived.Test.YtggpfggfiflnaaaBack
import Derived.ProofKit
import Derived.OpenShut
import Derived.ShutString
namespace Go.Proofs.Ytggpfggfiflnaaa.codecBack
open Go.ChangeShapes Go.WideShapes Go.ChangeAt Go.RowKit Cod
open Go.ChangeMaps (open_string shut_string)

theorem own : ownKnob Try.prog.godebug = none := by kernel_rfl

set_option maxHeartbeats 400000 in
theorem walk_long (n i : Int) (s m : ByteArray) (c : Int) (w : World) (h : 1000 < s.size ∨ 1000 < m.size) :
    Calls Try.prog 5 #[.int .u64 n, .int .i64 i, .string s, .string m, .int .i64 c] w fun e w' => e = .returned (.bool true) ∧ Below w.heap.size w w' := by
  by_cases h1 : 1000 < s.size
  · clear h
    go_enter Try.func5, Try.ntmps5
    go_wp2_with fail
    refine (awake_any _).mono ?_
    rintro e w1 ⟨rfl, b1⟩
    replace b1 := Lib.hid b1
    go_wp2_with fail
    refine (awake_any _).mono ?_
    rintro e w2 ⟨rfl, k2⟩
    have b2 := Lib.hid (b1.out.trans (k2.mono b1.out.size))
    clear k2 b1
    go_wp2_with fail
    go_ret
    exact ⟨rfl, b2.out⟩
  · have h2 : 1000 < m.size := by omega
    clear h
    go_enter Try.func5, Try.ntmps5
    go_wp2_with fail
    refine (awake_any _).mono ?_
    rintro e w1 ⟨rfl, b1⟩
    replace b1 := Lib.hid b1
    go_wp2_with fail
    refine (awake_any _).mono ?_
    rintro e w2 ⟨rfl, k2⟩
    have b2 := Lib.hid (b1.out.trans (k2.mono b1.out.size))
    clear k2 b1
    go_wp2_with fail
    go_ret
    exact ⟨rfl, b2.out⟩

/-- The place of the cut, as the walk spells it. -/
theorem place_of (c : Int) (n : Nat) (h0 : 0 < n) (hn : n ≤ 100000) :
    ∃ i : Nat, i < n ∧ wrap64 ((IntKind.u64.wrap c).tmod (n : Int)) = (i : Int) := by
  have e2 : 0 ≤ IntKind.u64.wrap c := by rw [IntKind.wrap_u64]; omega
  rw [IntWalk.rem_in _ _ e2]
  generalize IntKind.u64.wrap c = u at *
  have h1 := Int.emod_nonneg u (show (n : Int) ≠ 0 by omega)
  have h2 := Int.emod_lt_of_pos u (show (0 : Int) < n by omega)
  refine ⟨(u % n).toNat, by omega, ?_⟩
  unfold wrap64
  rw [Int.toNat_of_nonneg h1]
  omega

set_option maxHeartbeats 800000 in
theorem walk_short (n : Nat) (i : Int) (s m A B S T : ByteArray) (c : Int) (w : World) (hs : s.size ≤ 1000) (hm : m.size ≤ 1000) (hT : Hid (A ++ B ++ S = T))
    (z1 : ¬ 9223372036854775807 < A.size + B.size) (z2 : ¬ 9223372036854775807 < (A ++ B).size + S.size) (z3 : ¬ 9223372036854775807 < T.size + m.size) (hT0 : 0 < T.size) (hT1 : T.size ≤ 10000) (hTm : (T ++ m).size ≤ 100000)
    (ca : ∀ W, Hid (Calls Try.prog 10 #[.int .u64 n] W fun e w' => e = .returned (.string A) ∧ Below W.heap.size W w'))
    (cb : ∀ W, Hid (Calls Try.prog 12 #[.int .i64 i] W fun e w' => e = .returned (.string B) ∧ Below W.heap.size W w'))
    (cs : ∀ W, Hid (Calls Try.prog 14 #[.string s] W fun e w' => e = .returned (.string S) ∧ Below W.heap.size W w'))
    (st1 st2 st3 : St) (r1 : Hid (uintS ⟨T ++ m, 0⟩ = ((n : Int), st1))) (r2 : Hid (intS st1 = (i, st2))) (r3 : Hid (strS st2 s.size = (s, st3))) (r4 : Hid (st3.e = 0)) (r5 : Hid (leftS st3 = m.size))
    (hcut : Hid (∀ k, k < T.size → (strS (intS (uintS ⟨T.extract 0 k, 0⟩).2).2 s.size).2.e = 4)) :
    Calls Try.prog 5 #[.int .u64 n, .int .i64 i, .string s, .string m, .int .i64 c] w fun e w' => e = .returned (.bool true) ∧ Below w.heap.size w w' := by
  have Ca := Lib.hid ca
  have Cb := Lib.hid cb
  have Cs := Lib.hid cs
  clear ca cb cs
  obtain ⟨x, hx, hidx⟩ := place_of c T.size hT0 (by omega)
  have hxc := Lib.hid (hcut.out x hx)
  clear hcut
  go_enter Try.func5, Try.ntmps5
  go_wp2_with fail
  refine (awake_any _).mono ?_
  rintro e w1 ⟨rfl, b1⟩
  replace b1 := Lib.hid b1
  go_wp2_with fail
  refine (Ca.out _).out.mono ?_
  rintro e w2 ⟨rfl, k2⟩
  have b2 := Lib.hid (b1.out.trans (k2.mono b1.out.size))
  clear k2 b1
  go_wp2_with fail
  refine (Cb.out _).out.mono ?_
  rintro e w3 ⟨rfl, k3⟩
  have b3 := Lib.hid (b2.out.trans (k3.mono b2.out.size))
  clear k3 b2
  go_wp2_with fail
  refine (Cs.out _).out.mono ?_
  rintro e w4 ⟨rfl, k4⟩
  have b4 := Lib.hid (b3.out.trans (k4.mono b3.out.size))
  clear k4 b3
  have hT' := hT.out
  go_wp2_with fail
  refine (read_any (T ++ m) _ hTm).mono ?_
  rintro e w5 ⟨p, rfl, hp, t5, k5⟩
  have b5 := Lib.hid (b4.out.trans (k5.mono b4.out.size))
  replace hp := Lib.hid (Nat.le_trans b4.out.size hp)
  replace t5 := Lib.hid t5
  clear k5 b4
  go_wp2_with fail
  refine (uint_all _ _ _ t5.out).mono ?_
  rw [r1.out]
  rintro e w6 ⟨rfl, t6, k6⟩
  have b6 := Lib.hid (b5.out.trans (k6.below hp.out b5.out.size))
  replace t6 := Lib.hid t6
  clear k6 b5 t5 r1
  go_wp2_with fail
  refine (int_all _ _ _ t6.out).mono ?_
  rw [r2.out]
  rintro e w7 ⟨rfl, t7, k7⟩
  have b7 := Lib.hid (b6.out.trans (k7.below hp.out b6.out.size))
  replace t7 := Lib.hid t7
  clear k7 b6 t6 r2
  go_wp2_with fail
  refine (str_all _ _ _ _ (by omega) (by omega) t7.out).mono ?_
  rw [r3.out]
  rintro e w8 ⟨rfl, t8, k8⟩
  have b8 := Lib.hid (b7.out.trans (k8.below hp.out b7.out.size))
  replace t8 := Lib.hid t8
  clear k8 b7 t7 r3
  go_wp2_with fail
  refine (err_any _ _ _ t8.out).mono ?_
  rw [r4.out]
  rintro e w' ⟨rfl, rfl⟩
  go_wp2_with fail
  refine (left_any _ _ _ t8.out).mono ?_
  rw [r5.out]
  rintro e w' ⟨rfl, rfl⟩
  clear t8 r4 r5 hp
  go_wp2_with fail
  clear hidx z1 z2 z3 hTm hT' hT
  refine (read_any (T.extract 0 x) _ (by rw [size_take _ _ (by omega)]; omega)).mono ?_
  rintro e w9 ⟨p2, rfl, hp, t9, k9⟩
  have b9 := Lib.hid (b8.out.trans (k9.mono b8.out.size))
  replace hp := Lib.hid (Nat.le_trans b8.out.size hp)
  replace t9 := Lib.hid t9
  clear k9 b8
  go_wp2_with fail
  refine (uint_all _ _ _ t9.out).mono ?_
  generalize (uintS ⟨T.extract 0 x, 0⟩).1 = v1
  generalize (uintS ⟨T.extract 0 x, 0⟩).2 = q1 at hxc ⊢
  rintro e w10 ⟨rfl, t10, k10⟩
  have b10 := Lib.hid (b9.out.trans (k10.below hp.out b9.out.size))
  replace t10 := Lib.hid t10
  clear k10 b9 t9
  go_wp2_with fail
  refine (int_all _ _ _ t10.out).mono ?_
  generalize (intS q1).1 = v2
  generalize (intS q1).2 = q2 at hxc ⊢
  rintro e w11 ⟨rfl, t11, k11⟩
  have b11 := Lib.hid (b10.out.trans (k11.below hp.out b10.out.size))
  replace t11 := Lib.hid t11
  clear k11 b10 t10
  go_wp2_with fail
  refine (str_all _ _ _ _ (by omega) (by omega) t11.out).mono ?_
  generalize (strS q2 s.size).1 = v3
  generalize (strS q2 s.size).2 = q3 at hxc ⊢
  rintro e w12 ⟨rfl, t12, k12⟩
  have b12 := Lib.hid (b11.out.trans (k12.below hp.out b11.out.size))
  replace t12 := Lib.hid t12
  clear k12 b11 t11
  go_wp2_with fail
  refine (err_any _ _ _ t12.out).mono ?_
  rw [hxc.out]
  rintro e w' ⟨rfl, rfl⟩
  go_wp2_with fail
  go_ret
  exact ⟨rfl, b12.out⟩

theorem walk (a0 : Int) (a1 : Int) (a2 : ByteArray) (a3 : ByteArray) (a4 : Int) (w0 : (Lit.int .u64 a0).wf = true) (w1 : (Lit.int .i64 a1).wf = true) (_ : a2.size ≤ maxLen) (_ : a3.size ≤ maxLen) (_ : (Lit.int .i64 a4).wf = true) (w : World) :
    Calls Try.prog 5 #[.int .u64 a0, .int .i64 a1, .string a2, .string a3, .int .i64 a4] w fun e w' => e = .returned (.bool true) ∧ Below w.heap.size w w' := by
  by_cases hl : 1000 < a2.size ∨ 1000 < a3.size
  · exact walk_long a0 a1 a2 a3 a4 w hl
  · have h0 : 0 ≤ a0 ∧ a0 ≤ 18446744073709551615 := by simpa [Lit.wf, IntKind.min, IntKind.max, IntKind.signed, IntKind.bits] using w0
    have h1 : -9223372036854775808 ≤ a1 ∧ a1 ≤ 9223372036854775807 := by simpa [Lit.wf, IntKind.min, IntKind.max, IntKind.signed, IntKind.bits] using w1
    obtain ⟨n, rfl⟩ : ∃ n : Nat, a0 = (n : Int) := ⟨a0.toNat, by omega⟩
    have hz := zig_lt h1.1 h1.2
    have e1 := enc_ten (n := n) (by omega)
    have e2 := enc_ten hz
    have e3 := enc_ten (n := a2.size) (by omega)
    have p1 := enc_pos n
    have s1 := encB_size n
    have s2 := encB_size (zig a1)
    have s3 : (strB a2).size = (enc a2.size).length + a2.size := by rw [strB, size_append', encB_size]
    have sT : (encB n ++ encB (zig a1) ++ strB a2).size = (enc n).length + (enc (zig a1)).length + ((enc a2.size).length + a2.size) := by rw [size_append', size_append', s1, s2, s3]
    have hr : encB n ++ encB (zig a1) ++ strB a2 ++ a3 = encB n ++ (encB (zig a1) ++ (strB a2 ++ a3)) := by rw [app_assoc, app_assoc]
    refine walk_short n a1 a2 a3 (encB n) (encB (zig a1)) (strB a2) _ a4 w (by omega) (by omega) rfl (by omega) (by rw [size_append']; omega) (by omega) (by omega) (by omega) (by rw [size_append']; omega)
      (fun W => uint_any n W (by omega)) (fun W => int_any a1 W h1.1 h1.2) (fun W => str_any a2 W (by omega))
      ⟨encB (zig a1) ++ (strB a2 ++ a3), 0⟩ ⟨strB a2 ++ a3, 0⟩ ⟨a3, 0⟩ ?_ (int_back a1 _ h1.1 h1.2) (str_back a2 a3 (by omega)) rfl rfl (fun k hk => cut_torn n a1 a2 k (by omega) h1.1 h1.2 (by omega) hk)
    show uintS _ = _
    rw [hr]
    exact uint_back n _ (by omega)

set_option maxRecDepth 100000 in
theorem lifted (os : Os) (started : os.Started) (H : Type) (enc : TypeId × Value → H) :
    ReturnsInHanded {} Try.checked os 5 .any (Rows.codecBackSpec.pre6 enc Try.prog Try.f5 Rows.codecBackRow.domain false) (Rows.codecBackSpec.post enc Try.prog Try.f5 false true false false) := by
  refine returnsInHanded_of_change (C := Try.checked) own started (by kernel_rfl) Try.func5
    (ChangeSpec.witness6 (enc := enc) (C := Try.checked) false ⟨#[], #[.int .u64 0, .int .i64 0, .string ByteArray.empty, .string ByteArray.empty, .int .i64 0], []⟩ 8 (by kernel_rfl) (by kernel_rfl) (by kernel_rfl) (by kernel_rfl)) ?_
  intro W base args ds gs before hval0 hW _ _
  have hval : ∀ (j : Nat) t v, Try.f5.params[j]? = some t → args[j]? = some v → Value.okWide Try.prog W .any base t v := hval0
  have hW' := hW
  obtain ⟨p, q, hA0, hV, rfl, hfz, hnd⟩ := hW
  have hA : DataW.TrodAll enc Try.prog W 0 (fun _ => true) true Try.f5.params.toList args.toList ds p := hA0
  rw [Try.params5] at hA hval
  obtain ⟨v0, vs0, d0, ds0, p0, q0, hargs, rfl, rfl, h0, r0⟩ := trodAll_cons hA
  obtain ⟨v1, vs1, d1, ds1, p1, q1, rfl, rfl, rfl, h1, r1⟩ := trodAll_cons r0
  obtain ⟨v2, vs2, d2, ds2, p2, q2, rfl, rfl, rfl, h2, r2⟩ := trodAll_cons r1
  obtain ⟨v3, vs3, d3, ds3, p3, q3, rfl, rfl, rfl, h3, r3⟩ := trodAll_cons r2
  obtain ⟨v4, vs4, d4, ds4, p4, q4, rfl, rfl, rfl, h4, r4⟩ := trodAll_cons r3
  obtain ⟨rfl, rfl, rfl⟩ := trodAll_nil r4
  obtain rfl : args = #[v0, v1, v2, v3, v4] := by cases args; simp_all
  obtain ⟨rfl, rfl⟩ := trodVars_none hV
  obtain ⟨a0, rfl, rfl, rfl, w0⟩ := open_int Try.underlying22 (hval 0 22 v0 rfl rfl) h0
  obtain ⟨a1, rfl, rfl, rfl, w1⟩ := open_int Try.underlying3 (hval 1 3 v1 rfl rfl) h1
  obtain ⟨a2, rfl, rfl, rfl, w2⟩ := open_string Try.underlying9 (hval 2 9 v2 rfl rfl) h2
  obtain ⟨a3, rfl, rfl, rfl, w3⟩ := open_string Try.underlying9 (hval 3 9 v3 rfl rfl) h3
  obtain ⟨a4, rfl, rfl, rfl, w4⟩ := open_int Try.underlying3 (hval 4 3 v4 rfl rfl) h4
  clear hA0 hval0
  simp only [List.append_nil] at hW'
  refine (walk a0 a1 a2 a3 a4 w0 w1 w2 w3 w4 W).mono fun e W' ⟨he, hg⟩ => ?_
  subst he
  exact ⟨_, rfl, _, _, _, [], [], [], hW', trodAll_cons_mk (shut_bool Try.underlying4 _) trodAll_mk0, trodAll_cons_mk (shut_int Try.underlying22 w0) (trodAll_cons_mk (shut_int Try.underlying3 w1) (trodAll_cons_mk (shut_string Try.underlying9 w2) (trodAll_cons_mk (shut_string Try.underlying9 w3) (trodAll_cons_mk (shut_int Try.underlying3 w4) trodAll_mk0)))), rfl, hg.frame _, fun h => by cases h⟩

theorem over : Rows.codecBackRow.holds Try.pinned (OpenSpec.ofChange Rows.codecBackSpec) :=
  OpenClaim.holds_of_wide 5 Try.f5 rfl rfl rfl rfl rfl rfl rfl ⟨rfl, rfl, rfl, rfl, rfl⟩ rfl rfl rfl rfl rfl (by kernel_rfl) Try.func5 (by kernel_rfl)
    (of_decide_eq_true (by kernel_rfl)) (by unfold Func.isWrapper; first | (rw [if_pos (by decide +kernel)]; kernel_rfl) | (rw [if_neg (by decide +kernel)]; exact ⟨rfl, rfl⟩))
    (fun os started H enc _ => lifted os started H enc)

/-- The statement. -/
theorem proved : Rows.CodecBackSaid :=
  over
#print axioms proved
end Go.Proofs.Ytggpfggfiflnaaa.codecBack
