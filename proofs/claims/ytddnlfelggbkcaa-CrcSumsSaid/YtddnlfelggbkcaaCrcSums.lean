/-
  CrcSums holds: any bytes have the sum that the document says, from the first call on, and the table is made once. No condition.
-/
import Derived.Test.YtddnlfelggbkcaaList
import Derived.ProofKit
import Derived.OpenShut
namespace Go.Proofs.Ytddnlfelggbkcaa.crcSums
open Go.ChangeShapes Go.WideShapes Go.ChangeAt Go.RowKit Crc

theorem own : ownKnob Try.prog.godebug = none := by kernel_rfl
theorem laidOut : laidOutB Try.prog = true := by kernel_rfl

set_option maxHeartbeats 400000 in
theorem walk_long (a : Option Addr) (len cap : Nat) (w : World) (h : 50 < len) :
    Calls Try.prog 3 #[.slice a len cap] w fun e w' => e = .returned (.bool true) ∧ Below w.heap.size w w' := by
  have hnot := not_run
  go_enter Try.func3, Try.ntmps3
  go_wp2_with fail
  refine (awake_any _).mono ?_
  rintro e w1 ⟨rfl, b1⟩
  have b1 := Lib.hid b1
  go_wp2_with fail
  refine (awake_any _).mono ?_
  rintro e w2 ⟨rfl, k2⟩
  have b2 := Lib.hid (b1.out.trans (k2.mono b1.out.size))
  clear k2 b1
  go_wp2_with fail
  go_ret
  exact ⟨rfl, b2.out⟩

/-- The state at the head of the loop. -/
def Rel (w : World) (b k : Nat) (wr : World) : Prop := Below w.heap.size w wr ∧ w.heap.size ≤ b ∧ ((k = 0 ∧ Fresh wr b) ∨ (0 < k ∧ Ready wr b))

set_option maxRecDepth 100000 in
set_option maxHeartbeats 400000 in
theorem walk_list (a : Option Addr) (len cap : Nat) (ss : List ByteArray) (w : World) (h : len ≤ 50) (hl : Hid (IsList w a len ss)) :
    Calls Try.prog 3 #[.slice a len cap] w fun e w' => e = .returned (.bool true) ∧ Below w.heap.size w w' := by
  have hnot := not_run
  go_enter Try.func3, Try.ntmps3
  go_wp2_with fail
  refine (awake_any _).mono ?_
  rintro e w1 ⟨rfl, b1⟩
  have b1 := Lib.hid b1
  go_wp2_with fail
  refine (new_any _).mono ?_
  rintro e w2 ⟨rfl, rfl⟩
  have r2 : Hid (Rel w w1.heap.size 0 (w1.alloc (.cells newCells 55))) := ⟨b1.out.trans ((below_new w1).mono b1.out.size), b1.out.size, Or.inl ⟨rfl, fresh_new w1⟩⟩
  generalize w1.alloc (.cells newCells 55) = w2 at *
  generalize w1.heap.size = b at *
  clear b1
  go_wp2_with fail
  go_loopw [17] (fun i wr => ∃ k : Nat, k ≤ len ∧ i = .int .i64 k ∧ Hid (Rel w b k wr)) (fun i _ => len - (intOf i).toNat)
  case atStart => exact ⟨0, by omega, rfl, r2⟩
  case round =>
    obtain ⟨k, hk, rfl, hr⟩ := hrel
    clear r2
    by_cases hlt : k < len
    · obtain ⟨x, off, rfl, hx, hcell, hsz⟩ : ∃ x off, a = some ⟨x, off, none⟩ ∧ x < w.heap.size ∧ w.cell? ⟨x, off + k, none⟩ = some (.string (ss.getD k ByteArray.empty)) ∧ (ss.getD k ByteArray.empty).size ≤ maxLen := by
        rcases hl.out with h0 | ⟨x, off, rfl, hx, _, hc⟩
        · omega
        · exact ⟨x, off, rfl, hx, hc k hlt⟩
      have hcr : wr.cell? ⟨x, off + k, none⟩ = some (.string (ss.getD k ByteArray.empty)) := (hr.out.1.cell (p := ⟨x, off + k, none⟩) hx).trans hcell
      clear hcell hl
      generalize ss.getD k ByteArray.empty = s at *
      by_cases hbig : 1000 < s.size
      · go_wp2_with fail
        go_ret
        exact ⟨rfl, hr.out.1⟩
      · have hs : Hid (s.size ≤ maxLen) := hsz
        have hsm : s.size ≤ 1000 := by omega
        clear hsz
        go_wp2_with fail
        rcases hr.out.2.2 with ⟨h0, tf⟩ | ⟨h0, tr⟩
        · have hmin := min_nought k h0
          clear h0
          have tf := Lib.hid tf
          clear hcr
          refine (made_fresh _ _ tf.out).mono ?_
          rintro e w3 ⟨rfl, rfl⟩
          go_wp2_with fail
          refine (sum_fresh _ s _ hs.out tf.out).mono ?_
          rintro e w3 ⟨rfl, t3, k3⟩
          have r3 : Hid (Rel w b (k + 1) w3) := ⟨hr.out.1.trans (k3.below hr.out.2.1 hr.out.1.size), hr.out.2.1, Or.inr ⟨by omega, t3⟩⟩
          have t3 := Lib.hid t3
          clear k3 tf hr
          go_wp2_with fail
          refine (refSum_any s _ hs.out).mono ?_
          rintro e w4 ⟨rfl, rfl⟩
          go_wp2_with fail
          refine (made_ready _ _ t3.out).mono ?_
          rintro e w4 ⟨rfl, rfl⟩
          go_wp2_with fail
          go_roundw
          case rel => exact ⟨k + 1, by omega, by go_num, r3⟩
          case measure => simp [intOf]; omega
        · have t3 := Lib.hid tr
          clear tr hcr
          refine (made_ready _ _ t3.out).mono ?_
          rintro e w3 ⟨rfl, rfl⟩
          have hmin := min_one k h0
          have r3 : Hid (Rel w b (k + 1) wr) := ⟨hr.out.1, hr.out.2.1, Or.inr ⟨by omega, t3.out⟩⟩
          clear hr
          go_wp2_with fail
          refine (sum_ready _ s _ hs.out t3.out).mono ?_
          rintro e w3 ⟨rfl, rfl⟩
          go_wp2_with fail
          refine (refSum_any s _ hs.out).mono ?_
          rintro e w4 ⟨rfl, rfl⟩
          go_wp2_with fail
          refine (made_ready _ _ t3.out).mono ?_
          rintro e w4 ⟨rfl, rfl⟩
          go_wp2_with fail
          go_roundw
          case rel => exact ⟨k + 1, by omega, by go_num, r3⟩
          case measure => simp [intOf]; omega
    · go_wp2_with fail
      go_ret
      exact ⟨rfl, hr.out.1⟩

theorem walk (a : Option Addr) (len cap : Nat) (ss : List ByteArray) (w : World) (hl : IsList w a len ss) :
    Calls Try.prog 3 #[.slice a len cap] w fun e w' => e = .returned (.bool true) ∧ Below w.heap.size w w' := by
  by_cases h : 50 < len
  · exact walk_long a len cap w h
  · exact walk_list a len cap ss w (by omega) hl

set_option maxRecDepth 100000 in
theorem lifted (os : Os) (started : os.Started) (H : Type) (enc : TypeId × Value → H) :
    ReturnsInHanded {} Try.checked os 3 .any (Rows.crcSumsSpec.pre6 enc Try.prog Try.f3 Rows.crcSumsRow.domain false) (Rows.crcSumsSpec.post enc Try.prog Try.f3 false true false false) := by
  refine returnsInHanded_of_change (C := Try.checked) own started (by kernel_rfl) Try.func3
    (ChangeSpec.witness6 (enc := enc) (C := Try.checked) false ⟨#[], #[.slice none 0 0], []⟩ 8 (by kernel_rfl) (by kernel_rfl) (by kernel_rfl) (by kernel_rfl)) ?_
  intro W base args ds gs before hval0 hW _ _
  have hval : ∀ (j : Nat) t v, Try.f3.params[j]? = some t → args[j]? = some v → Value.okWide Try.prog W .any base t v := hval0
  have hW' := hW
  obtain ⟨p, q, hA0, hV, rfl, hfz, hnd⟩ := hW
  have hA : DataW.TrodAll enc Try.prog W 0 (fun _ => true) true Try.f3.params.toList args.toList ds p := hA0
  rw [Try.params3] at hA hval
  obtain ⟨v0, vs0, d0, ds0, p0, q0, hargs, rfl, rfl, h0, r0⟩ := trodAll_cons hA
  obtain ⟨rfl, rfl, rfl⟩ := trodAll_nil r0
  obtain rfl : args = #[v0] := by cases args; simp_all
  obtain ⟨rfl, rfl⟩ := trodVars_none hV
  obtain ⟨a0, len0, cap0, rfl⟩ := okWide_slice Try.underlying22 (hval 0 22 v0 rfl rfl)
  have k0 := h0
  have lt0 : ∀ x ∈ p0, x.block < W.heap.size := by obtain ⟨m, hm⟩ := k0; exact DataW.trod_lt m _ _ _ hm
  obtain ⟨ss, w0⟩ : ∃ ss, IsList W a0 len0 ss := by
    obtain ⟨fuel, hf⟩ := h0
    exact isList_of hf
  clear hA0 hval0
  refine (walk a0 len0 cap0 ss W w0).mono fun e W' ⟨he, bel⟩ => ?_
  subst he
  exact ⟨_, rfl, _, _, _, [], _, [], hW', trodAll_mk1 (shut_bool Try.underlying4 _), (trodAll_cons_mk (Below.trod laidOut (by kernel_rfl) (of_decide_eq_true (by kernel_rfl)) k0 bel lt0) trodAll_mk0), rfl, bel.frame _, fun h => by cases h⟩

theorem over : Rows.crcSumsRow.holds Try.pinned (OpenSpec.ofChange Rows.crcSumsSpec) :=
  OpenClaim.holds_of_wide 3 Try.f3 rfl rfl rfl rfl rfl rfl rfl ⟨rfl, rfl, rfl, rfl, rfl⟩ rfl rfl rfl rfl rfl (by kernel_rfl) Try.func3 (by kernel_rfl)
    (of_decide_eq_true (by kernel_rfl)) (by unfold Func.isWrapper; first | (rw [if_pos (by decide +kernel)]; kernel_rfl) | (rw [if_neg (by decide +kernel)]; exact ⟨rfl, rfl⟩))
    (fun os started H enc _ => lifted os started H enc)

/-- The statement. -/
theorem proved : Rows.CrcSumsSaid := over
#print axioms proved
end Go.Proofs.Ytddnlfelggbkcaa.crcSums
