/-
  CodecFails holds: behind the first error nothing is read any more, and it stays the first one. No condition.
-/
import Derived.Test.YtggpfggfiflnaaaOps
import Derived.OpenShut
import Derived.ShutString
namespace Go.Proofs.Ytggpfggfiflnaaa.codecFails
open Go.ChangeShapes Go.WideShapes Go.ChangeAt Go.RowKit Cod
open Go.ChangeMaps (open_string shut_string)

theorem own : ownKnob Try.prog.godebug = none := by kernel_rfl
theorem laidOut : laidOutB Try.prog = true := by kernel_rfl

theorem intS_err {st : St} (h : st.e ≠ 0) : intS st = (0, st) := by unfold intS; rw [uintS_err h]; simp [unzig]
theorem strS_err {st : St} (m : Int) (h : st.e ≠ 0) : strS st m = (⟨#[]⟩, st) := by
  unfold strS; rw [uintS_err h]; exact strT_err m h
theorem leftS_err {st : St} (h : st.e ≠ 0) : leftS st = 0 := by rw [leftS, if_neg h]

set_option maxHeartbeats 800000 in
theorem walk_short (s : ByteArray) (x : Int) (a : Option Addr) (len cap : Nat) (K M : Nat → Int) (w : World) (hs : s.size ≤ 1000) (hl : len ≤ 100) (hx : x ≠ 0) (hops : Hid (IsOps w a len K M)) :
    Calls Try.prog 7 #[.string s, .int .i64 x, .slice a len cap] w fun e w' => e = .returned (.bool true) ∧ Below w.heap.size w w' := by
  have ex : (x == 0) = false := by simpa using hx
  have f1 : Hid (failS ⟨s, 0⟩ x = ⟨s, x⟩) := by show failS ⟨s, 0⟩ x = _; rw [failS, if_pos rfl]
  have f2 : Hid (failS ⟨s, x⟩ 13 = ⟨s, x⟩) := by show failS ⟨s, x⟩ 13 = _; rw [failS, if_neg hx]
  replace hx := Lib.hid hx
  go_enter Try.func7, Try.ntmps7
  go_wp2_with fail
  refine (awake_any _).mono ?_
  rintro e w1 ⟨rfl, b1⟩
  replace b1 := Lib.hid b1
  go_wp2_with fail
  refine (read_any s _ (by omega)).mono ?_
  rintro e w2 ⟨p, rfl, hp, t2, k2⟩
  have b2 := Lib.hid (b1.out.trans (k2.mono b1.out.size))
  replace hp := Lib.hid (Nat.le_trans b1.out.size hp)
  replace t2 := Lib.hid t2
  clear k2 b1
  go_wp2_with fail
  refine (fail_any _ _ _ _ t2.out).mono ?_
  rw [f1.out]
  rintro e w3 ⟨rfl, t3, k3⟩
  have b3 := Lib.hid (b2.out.trans (k3.below hp.out b2.out.size))
  replace t3 := Lib.hid t3
  clear k3 b2 t2 f1
  go_wp2_with fail
  refine (fail_any _ _ _ _ t3.out).mono ?_
  rw [f2.out]
  rintro e w4 ⟨rfl, t4, k4⟩
  have b4 := Lib.hid (b3.out.trans (k4.below hp.out b3.out.size))
  replace t4 := Lib.hid t4
  clear k4 b3 t3 f2
  go_wp2_with fail
  go_loopw [36] (fun i wr => ∃ k : Nat, k ≤ len ∧ i = .int .i64 k ∧ Hid (Rd wr p ⟨s, x⟩) ∧ Hid (Below w.heap.size w wr)) (fun i _ => len - (intOf i).toNat)
  case atStart => exact ⟨0, by omega, rfl, t4, b4⟩
  case round =>
    obtain ⟨k, hk, rfl, t, b⟩ := hrel
    clear t4 b4
    by_cases hlt : k < len
    · obtain ⟨y, off, rfl, hy, hc0, hc1, hM⟩ : ∃ y off, a = some ⟨y, off, none⟩ ∧ y < w.heap.size ∧ w.cell? ⟨y, off + k * 2, none⟩ = some (.int .i64 (K k)) ∧ w.cell? ⟨y, off + k * 2 + 1, none⟩ = some (.int .i64 (M k)) ∧ (-9223372036854775808 ≤ M k ∧ M k ≤ 9223372036854775807) := by
        rcases hops.out with h0 | ⟨y, off, rfl, hy, _, hc⟩
        · omega
        · exact ⟨y, off, rfl, hy, (hc k hlt).1, (hc k hlt).2.1, (hc k hlt).2.2.2⟩
      have c0 : wr.cell? ⟨y, off + k * 2, none⟩ = some (.int .i64 (K k)) := (b.out.cell (p := ⟨y, off + k * 2, none⟩) hy).trans hc0
      have c1 : wr.cell? ⟨y, off + k * 2 + 1, none⟩ = some (.int .i64 (M k)) := (b.out.cell (p := ⟨y, off + k * 2 + 1, none⟩) hy).trans hc1
      clear hc0 hc1 hops
      replace hM := Lib.hid hM
      generalize K k = kk at *
      generalize M k = mm at *
      have hlt2 : (k : Int) < len := by omega
      go_wp2_with fail
      have o5 := Lib.hid (On.start kk mm t.out b.out)
      clear t b c0 c1
      generalize wr.alloc (.cells #[.int .i64 kk, .int .i64 mm] 35) = w5 at *
      generalize wr.heap.size = q at *
      refine (uint_all _ _ _ o5.out.rd).mono ?_
      rw [uintS_err (st := ⟨s, x⟩) hx.out]
      rintro e w6 ⟨rfl, t6, k6⟩
      have o6 := Lib.hid (o5.out.step hp.out t6 k6)
      clear o5 t6 k6
      go_wp2_with fail
      refine (int_all _ _ _ o6.out.rd).mono ?_
      rw [intS_err (st := ⟨s, x⟩) hx.out]
      rintro e w7 ⟨rfl, t7, k7⟩
      have o7 := Lib.hid (o6.out.step hp.out t7 k7)
      clear o6 t7 k7
      go_wp2_with fail
      refine (byte_all _ _ _ o7.out.rd).mono ?_
      rw [byteS_err (st := ⟨s, x⟩) hx.out]
      rintro e w8 ⟨rfl, t8, k8⟩
      have o8 := Lib.hid (o7.out.step hp.out t8 k8)
      clear o7 t8 k8
      have hc := o8.out.c1
      go_wp2_with fail
      refine (str_all _ _ _ _ hM.out.1 hM.out.2 o8.out.rd).mono ?_
      rw [strS_err (st := ⟨s, x⟩) mm hx.out]
      rintro e w9 ⟨rfl, t9, k9⟩
      have o9 := Lib.hid (o8.out.step hp.out t9 k9)
      clear o8 t9 k9 hc
      go_wp2_with fail
      refine (left_any _ _ _ o9.out.rd).mono ?_
      rw [leftS_err (st := ⟨s, x⟩) hx.out]
      rintro e w' ⟨rfl, rfl⟩
      go_wp2_with fail
      refine (err_any _ _ _ o9.out.rd).mono ?_
      rintro e w' ⟨rfl, rfl⟩
      go_wp2_with fail
      refine ⟨⟨k + 1, by omega, by go_num, o9.out.rd, o9.out.bel⟩, ?_⟩
      simp [intOf]; omega
    · obtain rfl : k = len := by omega
      go_wp2_with fail
      refine (err_any _ _ _ t.out).mono ?_
      rintro e w' ⟨rfl, rfl⟩
      go_wp2_with fail
      go_ret
      exact ⟨rfl, b.out⟩

set_option maxHeartbeats 800000 in
theorem walk_long (s : ByteArray) (x : Int) (a : Option Addr) (len cap : Nat) (w : World) (h : 1000 < s.size ∨ 100 < len ∨ x = 0) :
    Calls Try.prog 7 #[.string s, .int .i64 x, .slice a len cap] w fun e w' => e = .returned (.bool true) ∧ Below w.heap.size w w' := by
  by_cases h1 : 1000 < s.size
  · clear h
    go_enter Try.func7, Try.ntmps7
    go_wp2_with fail
    refine (awake_any _).mono ?_
    rintro e w1 ⟨rfl, b1⟩
    replace b1 := Lib.hid b1
    go_wp2_with fail
    refine (awake_any _).mono ?_
    rintro e w2 ⟨rfl, k2⟩
    have b2 := Lib.hid (b1.out.trans (k2.mono b1.out.size))
    clear k2 b1
    go_wp2_with fail
    go_ret
    exact ⟨rfl, b2.out⟩
  · by_cases h2 : 100 < len
    · clear h
      go_enter Try.func7, Try.ntmps7
      go_wp2_with fail
      refine (awake_any _).mono ?_
      rintro e w1 ⟨rfl, b1⟩
      replace b1 := Lib.hid b1
      go_wp2_with fail
      refine (awake_any _).mono ?_
      rintro e w2 ⟨rfl, k2⟩
      have b2 := Lib.hid (b1.out.trans (k2.mono b1.out.size))
      clear k2 b1
      go_wp2_with fail
      go_ret
      exact ⟨rfl, b2.out⟩
    · obtain rfl : x = 0 := by omega
      clear h
      go_enter Try.func7, Try.ntmps7
      go_wp2_with fail
      refine (awake_any _).mono ?_
      rintro e w1 ⟨rfl, b1⟩
      replace b1 := Lib.hid b1
      go_wp2_with fail
      refine (awake_any _).mono ?_
      rintro e w2 ⟨rfl, k2⟩
      have b2 := Lib.hid (b1.out.trans (k2.mono b1.out.size))
      clear k2 b1
      go_wp2_with fail
      go_ret
      exact ⟨rfl, b2.out⟩

theorem walk (s : ByteArray) (x : Int) (a : Option Addr) (len cap : Nat) (K M : Nat → Int) (w : World) (hops : IsOps w a len K M) :
    Calls Try.prog 7 #[.string s, .int .i64 x, .slice a len cap] w fun e w' => e = .returned (.bool true) ∧ Below w.heap.size w w' := by
  by_cases h : 1000 < s.size ∨ 100 < len ∨ x = 0
  · exact walk_long s x a len cap w h
  · exact walk_short s x a len cap K M w (by omega) (by omega) (by omega) hops

set_option maxRecDepth 100000 in
theorem lifted (os : Os) (started : os.Started) (H : Type) (enc : TypeId × Value → H) :
    ReturnsInHanded {} Try.checked os 7 .any (Rows.codecFailsSpec.pre6 enc Try.prog Try.f7 Rows.codecFailsRow.domain false) (Rows.codecFailsSpec.post enc Try.prog Try.f7 false true false false) := by
  refine returnsInHanded_of_change (C := Try.checked) own started (by kernel_rfl) Try.func7
    (ChangeSpec.witness6 (enc := enc) (C := Try.checked) false ⟨#[], #[.string ByteArray.empty, .int .i64 0, .slice none 0 0], []⟩ 8 (by kernel_rfl) (by kernel_rfl) (by kernel_rfl) (by kernel_rfl)) ?_
  intro W base args ds gs before hval0 hW _ _
  have hval : ∀ (j : Nat) t v, Try.f7.params[j]? = some t → args[j]? = some v → Value.okWide Try.prog W .any base t v := hval0
  have hW' := hW
  obtain ⟨p, q, hA0, hV, rfl, hfz, hnd⟩ := hW
  have hA : DataW.TrodAll enc Try.prog W 0 (fun _ => true) true Try.f7.params.toList args.toList ds p := hA0
  rw [Try.params7] at hA hval
  obtain ⟨v0, vs0, d0, ds0, p0, q0, hargs, rfl, rfl, h0, r0⟩ := trodAll_cons hA
  obtain ⟨v1, vs1, d1, ds1, p1, q1, rfl, rfl, rfl, h1, r1⟩ := trodAll_cons r0
  obtain ⟨v2, vs2, d2, ds2, p2, q2, rfl, rfl, rfl, h2, r2⟩ := trodAll_cons r1
  obtain ⟨rfl, rfl, rfl⟩ := trodAll_nil r2
  obtain rfl : args = #[v0, v1, v2] := by cases args; simp_all
  obtain ⟨rfl, rfl⟩ := trodVars_none hV
  obtain ⟨a0, rfl, rfl, rfl, w0⟩ := open_string Try.underlying9 (hval 0 9 v0 rfl rfl) h0
  obtain ⟨a1, rfl, rfl, rfl, w1⟩ := open_int Try.underlying3 (hval 1 3 v1 rfl rfl) h1
  obtain ⟨a2, len2, cap2, rfl⟩ := okWide_slice Try.underlying28 (hval 2 28 v2 rfl rfl)
  have k2 := h2
  have lt2 : ∀ x ∈ p2, x.block < W.heap.size := by obtain ⟨m, hm⟩ := k2; exact DataW.trod_lt m _ _ _ hm
  obtain ⟨K, M, hops⟩ : ∃ K M, IsOps W a2 len2 K M := by
    obtain ⟨fuel, hf⟩ := h2
    exact isOps_of hf
  clear hA0 hval0
  refine (walk a0 a1 a2 len2 cap2 K M W hops).mono fun e W' ⟨he, bel⟩ => ?_
  subst he
  exact ⟨_, rfl, _, _, _, [], _, [], hW', trodAll_mk1 (shut_bool Try.underlying4 _), (trodAll_cons_mk (shut_string Try.underlying9 w0) (trodAll_cons_mk (shut_int Try.underlying3 w1) (trodAll_cons_mk (Below.trod laidOut (by kernel_rfl) (of_decide_eq_true (by kernel_rfl)) k2 bel lt2) trodAll_mk0))), rfl, bel.frame _, fun h => by cases h⟩

theorem over : Rows.codecFailsRow.holds Try.pinned (OpenSpec.ofChange Rows.codecFailsSpec) :=
  OpenClaim.holds_of_wide 7 Try.f7 rfl rfl rfl rfl rfl rfl rfl ⟨rfl, rfl, rfl, rfl, rfl⟩ rfl rfl rfl rfl rfl (by kernel_rfl) Try.func7 (by kernel_rfl)
    (of_decide_eq_true (by kernel_rfl)) (by unfold Func.isWrapper; first | (rw [if_pos (by decide +kernel)]; kernel_rfl) | (rw [if_neg (by decide +kernel)]; exact ⟨rfl, rfl⟩))
    (fun os started H enc _ => lifted os started H enc)

/-- The statement. -/
theorem proved : Rows.CodecFailsSaid := over
#print axioms proved
end Go.Proofs.Ytggpfggfiflnaaa.codecFails
