/-
  Any bytes are the operation that the document says, or none; printed again they are the same. Condition: none.
-/
import Derived.Test.YtaemoojhmknicaaPAwake
import Derived.Test.YtaemoojhmknicaaPOpen
import Derived.Test.YtaemoojhmknicaaPRTake
import Derived.Test.YtaemoojhmknicaaRows
namespace Go.Proofs.Ytaemoojhmknicaa.opbytesReads
open Go.ChangeShapes Go.WideShapes Go.ChangeAt Go.RowKit Cod
open Go.ChangeMaps (open_string shut_string)
set_option linter.unusedVariables false

theorem own : ownKnob Try.prog.godebug = none := by kernel_rfl

theorem size_none {s : ByteArray} (h : s.size = 0) : s = ⟨#[]⟩ := text_inj (by
  have : (bytesOf s).length = 0 := by rw [bytesOf_len, h]
  rw [List.eq_nil_of_length_eq_zero this]; rfl)
theorem read_print {s : ByteArray} (h : readB s = true) : printS (readO s) = s ∧ printE (readO s) = 0 := by
  have h1 := h
  unfold readB at h1
  rw [Bool.and_eq_true] at h1
  obtain ⟨ht, hr⟩ := h1
  have hr := of_decide_eq_true hr
  unfold tookB at ht
  rw [Bool.and_eq_true] at ht
  obtain ⟨he, hk⟩ := ht
  obtain ⟨-, hs⟩ := take_is (of_decide_eq_true he)
  have ho : readO s = takeO ⟨s, 0⟩ := by unfold readO; rw [if_pos h]
  rw [ho]
  constructor
  · unfold printS
    rw [if_pos hk]
    rw [size_none hr, app_none'] at hs
    exact hs.symm
  · unfold printE; rw [if_pos hk]
theorem readO_int (s : ByteArray) : OpI (readO s) ∧ (readO s).cron.size ≤ 256 := by
  unfold readO
  split
  · exact ⟨takeO_int _, takeO_cron _⟩
  · have h : i64 0 := i64_small (by omega) (by omega)
    exact ⟨⟨h, h, h, h, h, h, h, h, h⟩, Nat.zero_le _⟩

set_option maxHeartbeats 4000000 in
set_option maxRecDepth 100000 in
theorem walk (s : ByteArray) (w : World) :
    Calls Try.prog 4 #[.string s] w fun e w' => e = .returned (.bool true) ∧ Below w.heap.size w w' := by
  have b0 : Hid (Below w.heap.size w w) := Below.refl _ _
  by_cases hc : s.size ≤ 1000
  · have hc1 : ¬ (1000 : Int) < s.size := by omega
    have cr := Lib.hid (fun X => opread_any s X (by omega))
    have cq := Lib.hid (fun X => refRead_any s X (by omega))
    obtain ⟨hi, hz⟩ := readO_int s
    have cp := Lib.hid (fun X => print_any (readO s) X hi (by omega))
    have hp : Hid (readB s = true → printS (readO s) = s ∧ printE (readO s) = 0) := fun h => read_print h
    have he : Hid (readE s = if readB s = true then 0 else 3) := rfl
    clear hi hz
    rcases hv : readO s with ⟨v0, v1, v2, v3, v4, v5, v6, v7, v8, v9⟩
    rw [hv] at cr cq cp hp
    replace hv := Lib.hid hv
    replace hc := Lib.hid hc
    cases hb : readB s
    · rw [hb] at cq he
      have he2 : readE s = 3 := he.out
      rw [he2] at cr
      clear he he2 hp hb
      generalize printS ⟨v0, v1, v2, v3, v4, v5, v6, v7, v8, v9⟩ = t at *
      generalize printE ⟨v0, v1, v2, v3, v4, v5, v6, v7, v8, v9⟩ = f at *
      go_enter Try.func4, Try.ntmps4
      go_wp2_with fail
      refine (awake_any _).mono ?_
      rintro e w1 ⟨rfl, bx⟩
      replace b0 := Lib.hid (b0.out.trans (bx.mono b0.out.size))
      clear bx
      go_wp2_with fail
      refine (cr.out _).mono ?_
      rintro e w2 ⟨rfl, bx⟩
      replace b0 := Lib.hid (b0.out.trans (bx.mono b0.out.size))
      clear bx
      have h1 := Lib.hid (OpBox.new w2 ⟨v0, v1, v2, v3, v4, v5, v6, v7, v8, v9⟩ 23)
      replace b0 := Lib.hid (b0.out.alloc b0.out.size (Obj.cells (opC ⟨v0, v1, v2, v3, v4, v5, v6, v7, v8, v9⟩) 23))
      go_upto_region 4 with fail
      generalize w2.alloc (Obj.cells (opC ⟨v0, v1, v2, v3, v4, v5, v6, v7, v8, v9⟩) 23) = w3 at *
      generalize w2.heap.size = q1 at *
      go_wp2_with fail
      refine (cq.out _).mono ?_
      rintro e w4 ⟨rfl, bx⟩
      replace b0 := Lib.hid (b0.out.trans (bx.mono b0.out.size))
      have h2 := Lib.hid (OpBox.new w4 ⟨v0, v1, v2, v3, v4, v5, v6, v7, v8, v9⟩ 23)
      replace h1 := Lib.hid ((h1.out.below bx).below ((Below.refl _ _).alloc (Nat.le_refl w4.heap.size) (Obj.cells (opC ⟨v0, v1, v2, v3, v4, v5, v6, v7, v8, v9⟩) 23)))
      replace b0 := Lib.hid (b0.out.alloc b0.out.size (Obj.cells (opC ⟨v0, v1, v2, v3, v4, v5, v6, v7, v8, v9⟩) 23))
      clear bx
      go_upto_region 5 with fail
      generalize w4.alloc (Obj.cells (opC ⟨v0, v1, v2, v3, v4, v5, v6, v7, v8, v9⟩) 23) = w5 at *
      generalize w4.heap.size = q2 at *
      have x0 := h1.out.cell 0 _ rfl
      obtain ⟨x1, x2, x3, x4, x5, x6, x7, x8, x9⟩ := h1.out.nine
      have y0 := h2.out.cell 0 _ rfl
      obtain ⟨y1, y2, y3, y4, y5, y6, y7, y8, y9⟩ := h2.out.nine
      go_wp2_with fail
      refine (cp.out _).mono ?_
      rintro e w6 ⟨rfl, bx⟩
      replace b0 := Lib.hid (b0.out.trans (bx.mono b0.out.size))
      clear x0 x1 x2 x3 x4 x5 x6 x7 x8 x9 y0 y1 y2 y3 y4 y5 y6 y7 y8 y9 bx
      go_wp2_with fail
      go_ret
      exact ⟨rfl, b0.out⟩
    · rw [hb] at cq he
      have he2 : readE s = 0 := he.out
      rw [he2] at cr
      obtain ⟨p1, p2⟩ := hp.out hb
      rw [p1, p2] at cp
      clear he he2 hp hb p1 p2
      go_enter Try.func4, Try.ntmps4
      go_wp2_with fail
      refine (awake_any _).mono ?_
      rintro e w1 ⟨rfl, bx⟩
      replace b0 := Lib.hid (b0.out.trans (bx.mono b0.out.size))
      clear bx
      go_wp2_with fail
      refine (cr.out _).mono ?_
      rintro e w2 ⟨rfl, bx⟩
      replace b0 := Lib.hid (b0.out.trans (bx.mono b0.out.size))
      clear bx
      have h1 := Lib.hid (OpBox.new w2 ⟨v0, v1, v2, v3, v4, v5, v6, v7, v8, v9⟩ 23)
      replace b0 := Lib.hid (b0.out.alloc b0.out.size (Obj.cells (opC ⟨v0, v1, v2, v3, v4, v5, v6, v7, v8, v9⟩) 23))
      go_upto_region 4 with fail
      generalize w2.alloc (Obj.cells (opC ⟨v0, v1, v2, v3, v4, v5, v6, v7, v8, v9⟩) 23) = w3 at *
      generalize w2.heap.size = q1 at *
      go_wp2_with fail
      refine (cq.out _).mono ?_
      rintro e w4 ⟨rfl, bx⟩
      replace b0 := Lib.hid (b0.out.trans (bx.mono b0.out.size))
      have h2 := Lib.hid (OpBox.new w4 ⟨v0, v1, v2, v3, v4, v5, v6, v7, v8, v9⟩ 23)
      replace h1 := Lib.hid ((h1.out.below bx).below ((Below.refl _ _).alloc (Nat.le_refl w4.heap.size) (Obj.cells (opC ⟨v0, v1, v2, v3, v4, v5, v6, v7, v8, v9⟩) 23)))
      replace b0 := Lib.hid (b0.out.alloc b0.out.size (Obj.cells (opC ⟨v0, v1, v2, v3, v4, v5, v6, v7, v8, v9⟩) 23))
      clear bx
      go_upto_region 5 with fail
      generalize w4.alloc (Obj.cells (opC ⟨v0, v1, v2, v3, v4, v5, v6, v7, v8, v9⟩) 23) = w5 at *
      generalize w4.heap.size = q2 at *
      have x0 := h1.out.cell 0 _ rfl
      obtain ⟨x1, x2, x3, x4, x5, x6, x7, x8, x9⟩ := h1.out.nine
      have y0 := h2.out.cell 0 _ rfl
      obtain ⟨y1, y2, y3, y4, y5, y6, y7, y8, y9⟩ := h2.out.nine
      go_wp2_with fail
      refine (cp.out _).mono ?_
      rintro e w6 ⟨rfl, bx⟩
      replace b0 := Lib.hid (b0.out.trans (bx.mono b0.out.size))
      clear x0 x1 x2 x3 x4 x5 x6 x7 x8 x9 y0 y1 y2 y3 y4 y5 y6 y7 y8 y9 bx
      go_wp2_with fail
      go_ret
      exact ⟨rfl, b0.out⟩
  · have hc1 : (1000 : Int) < s.size := by omega
    replace hc := Lib.hid hc
    go_enter Try.func4, Try.ntmps4
    go_wp2_with fail
    refine (awake_any _).mono ?_
    rintro e w1 ⟨rfl, b1⟩
    replace b0 := Lib.hid (b0.out.trans (b1.mono b0.out.size))
    clear b1
    go_wp2_with fail
    refine (awake_any _).mono ?_
    rintro e w2 ⟨rfl, b2⟩
    replace b0 := Lib.hid (b0.out.trans (b2.mono b0.out.size))
    clear b2
    go_wp2_with fail
    go_ret
    exact ⟨rfl, b0.out⟩

set_option maxRecDepth 100000 in
theorem lifted (os : Os) (started : os.Started) (H : Type) (enc : TypeId × Value → H) :
    ReturnsInHanded {} Try.checked os 4 .any (Rows.opbytesReadsSpec.pre6 enc Try.prog Try.f4 Rows.opbytesReadsRow.domain false) (Rows.opbytesReadsSpec.post enc Try.prog Try.f4 false true false false) := by
  refine returnsInHanded_of_change (C := Try.checked) own started (by kernel_rfl) Try.func4
    (ChangeSpec.witness6 (enc := enc) (C := Try.checked) false ⟨#[], #[.string ByteArray.empty], []⟩ 8 (by kernel_rfl) (by kernel_rfl) (by kernel_rfl) (by kernel_rfl)) ?_
  intro W base args ds gs before hval0 hW _ _
  have hval : ∀ (j : Nat) t v, Try.f4.params[j]? = some t → args[j]? = some v → Value.okWide Try.prog W .any base t v := hval0
  have hW' := hW
  obtain ⟨p, q, hA0, hV, rfl, hfz, hnd⟩ := hW
  have hA : DataW.TrodAll enc Try.prog W 0 (fun _ => true) true Try.f4.params.toList args.toList ds p := hA0
  rw [Try.params4] at hA hval
  obtain ⟨v0, vs0, d0, ds0, p0, q0, hargs, rfl, rfl, h0, r0⟩ := trodAll_cons hA
  obtain ⟨rfl, rfl, rfl⟩ := trodAll_nil r0
  obtain rfl : args = #[v0] := by cases args; simp_all
  obtain ⟨rfl, rfl⟩ := trodVars_none hV
  obtain ⟨a0, rfl, rfl, rfl, w0⟩ := open_string Try.underlying9 (hval 0 9 v0 rfl rfl) h0
  clear hA0 hval0
  simp only [List.append_nil] at hW'
  refine (walk a0 W ).mono fun e W' ⟨he, bel⟩ => ?_
  subst he
  exact ⟨_, rfl, _, _, _, [], [], [], hW', trodAll_mk1 (shut_bool Try.underlying4 _), (trodAll_cons_mk (shut_string Try.underlying9 w0) trodAll_mk0), rfl, bel.frame _, fun h => by cases h⟩

theorem over : Rows.opbytesReadsRow.holds Try.pinned (OpenSpec.ofChange Rows.opbytesReadsSpec) :=
  OpenClaim.holds_of_wide 4 Try.f4 rfl rfl rfl rfl rfl rfl rfl ⟨rfl, rfl, rfl, rfl, rfl⟩ rfl rfl rfl rfl rfl (by kernel_rfl) Try.func4 (by kernel_rfl)
    (of_decide_eq_true (by kernel_rfl)) (by unfold Func.isWrapper; first | (rw [if_pos (by decide +kernel)]; kernel_rfl) | (rw [if_neg (by decide +kernel)]; exact ⟨rfl, rfl⟩))
    (fun os started H enc _ => lifted os started H enc)

/-- The statement. -/
theorem proved : Rows.OpbytesReadsSaid := over
#print axioms proved
end Go.Proofs.Ytaemoojhmknicaa.opbytesReads
