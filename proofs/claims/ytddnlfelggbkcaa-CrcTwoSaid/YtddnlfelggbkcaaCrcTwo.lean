/-
  CrcTwo holds: two tables sum alike, whatever each was asked before; texts of one length that differ in a byte have unlike sums. No condition.
-/
import Derived.Test.YtddnlfelggbkcaaChange
import Derived.ProofKit
import Derived.OpenShut
import Derived.ShutString
namespace Go.Proofs.Ytddnlfelggbkcaa.crcTwo
open Go.ChangeShapes Go.WideShapes Go.ChangeAt Go.RowKit Crc
open Go.ChangeMaps (open_string shut_string)

theorem own : ownKnob Try.prog.godebug = none := by kernel_rfl

set_option maxHeartbeats 1000000 in
theorem walk_out (t s : ByteArray) (a : Int) (c : Nat) (w : World) (h : 1000 < t.size ∨ (t.size ≤ 1000 ∧ ((s.size : Int) == 0) = true) ∨ (t.size ≤ 1000 ∧ 1000 < s.size ∧ ((s.size : Int) == 0) = false) ∨ (t.size ≤ 1000 ∧ s.size ≤ 1000 ∧ ((s.size : Int) == 0) = false ∧ ((c : Int) == 0) = true)) :
    Calls Try.prog 7 #[.string t, .string s, .int .i64 a, .int .u8 c] w fun e w' => e = .returned (.bool true) ∧ Below w.heap.size w w' := by
  have hnot := not_run
  rcases h with h | ⟨h, h1⟩ | ⟨h, h1, h2⟩ | ⟨h, h1, h2, h3⟩
  all_goals
    go_enter Try.func7, Try.ntmps7
    go_wp2_with fail
    refine (awake_any _).mono ?_
    rintro e w1 ⟨rfl, b1⟩
    have b1 := Lib.hid b1
    go_wp2_with fail
    refine (awake_any _).mono ?_
    rintro e w2 ⟨rfl, k2⟩
    have b2 := Lib.hid (b1.out.trans (k2.mono b1.out.size))
    clear k2 b1
    go_wp2_with fail
    go_ret
    exact ⟨rfl, b2.out⟩

set_option maxRecDepth 100000 in
set_option maxHeartbeats 1000000 in
theorem walk_in (t s : ByteArray) (a : Int) (c : Nat) (w : World) (ht : t.size ≤ 1000) (h0 : 0 < s.size) (hs : s.size ≤ 1000) (hc0 : 0 < c) (hc : c < 256) :
    Calls Try.prog 7 #[.string t, .string s, .int .i64 a, .int .u8 c] w fun e w' => e = .returned (.bool true) ∧ Below w.heap.size w w' := by
  have hnot := not_run
  have hmt : Hid (t.size ≤ maxLen) := by show _ ≤ _; unfold maxLen; omega
  have hms : Hid (s.size ≤ maxLen) := by show _ ≤ _; unfold maxLen; omega
  have hz1 : ((s.size : Int) == 0) = false := beq_eq_false_iff_ne.2 (by omega)
  have hz2 : ((c : Int) == 0) = false := beq_eq_false_iff_ne.2 (by omega)
  go_enter Try.func7, Try.ntmps7
  go_wp2_with fail
  refine (awake_any _).mono ?_
  rintro e w1 ⟨rfl, b1⟩
  have b1 := Lib.hid b1
  go_wp2_with fail
  refine (new_any _).mono ?_
  rintro e w2 ⟨rfl, rfl⟩
  have b2 := Lib.hid (b1.out.trans ((below_new w1).mono b1.out.size))
  have x2 := Lib.hid (fresh_new w1)
  have z2 : Hid ((w1.alloc (.cells newCells 55)).heap.size = w1.heap.size + 1) := by show _ = _; simp
  have zb := Lib.hid b1.out.size
  generalize w1.alloc (.cells newCells 55) = w2 at *
  generalize w1.heap.size = bx at *
  clear b1
  go_wp2_with fail
  refine (new_any _).mono ?_
  rintro e w3 ⟨rfl, rfl⟩
  have b3 := Lib.hid (b2.out.trans ((below_new w2).mono b2.out.size))
  have x3 : Hid (Fresh (w2.alloc (.cells newCells 55)) bx) := x2.out.below (below_new w2)
  have y3 := Lib.hid (fresh_new w2)
  have hxy : Hid (bx < w2.heap.size) := by show _ < _; rw [z2.out]; omega
  generalize w2.alloc (.cells newCells 55) = w3 at *
  generalize w2.heap.size = ys at *
  clear b2 x2 z2
  go_wp2_with fail
  refine (sum_fresh _ t _ hmt.out x3.out).mono ?_
  rintro e w4 ⟨rfl, x4, k4⟩
  have b4 := Lib.hid (b3.out.trans (k4.below zb.out b3.out.size))
  have y4 : Hid (Fresh w4 ys) := y3.out.kept k4 (by have := hxy.out; omega)
  have x4 := Lib.hid x4
  clear k4 b3 x3 y3 hmt
  obtain ⟨i, x, y, cap, w5, G, hi, hidx, hcv, hcell, hfz, hxor, hback, b5, hch, hsz, hlt⟩ := change_byte w4 s a c h0 (by omega) hc
  have hidx2 : wrap64 ((IntKind.u64.wrap a).tmod (s.size : Int)) = (i : Int) := by rw [show IntKind.u64.wrap (s.size : Int) = (s.size : Int) from IntWalk.u64_in _ (by omega)] at hidx; exact hidx
  have x6 := Lib.hid (x4.out.below b5.out)
  have y6 := Lib.hid (y4.out.below b5.out)
  have hg : Hid (ys ≠ w4.heap.size) := by show _ ≠ _; have := y4.out.lt; omega
  have b6 := Lib.hid (b4.out.trans (b5.out.mono b4.out.size))
  clear b4 x4 y4 b5
  generalize hw6 : w5.setCell ⟨w4.heap.size, i, none⟩ (.int .u8 (y : Nat)) = w6 at b6 hback x6 y6 hlt
  go_wp2_with fail
  clear hcv hcell hfz hxor hidx hidx2 hw6
  refine (sum_ready _ s _ hms.out x6.out).mono ?_
  rintro e w6 ⟨rfl, rfl⟩
  go_wp2_with fail
  refine (sum_fresh _ s _ hms.out y6.out).mono ?_
  rintro e w7 ⟨rfl, y7, k7⟩
  have b7 := Lib.hid (b6.out.trans (k7.below (by have := zb.out; have := hxy.out; omega) b6.out.size))
  have x7 : Hid (Ready w7 bx) := x6.out.kept k7 (by have := hxy.out; omega)
  have y7 := Lib.hid y7
  have hcv := hback.out w7 (k7.block _ hlt.out (fun e => hg.out e.symm))
  clear k7 x6 y6 b6 hback hlt
  go_wp2_with fail
  clear hcv
  refine (sum_ready _ G _ (by rw [hsz.out]; exact hms.out) x7.out).mono ?_
  rintro e w8 ⟨rfl, rfl⟩
  go_wp2_with fail
  refine (sum_ready _ s _ hms.out y7.out).mono ?_
  rintro e w8 ⟨rfl, rfl⟩
  have hcrc := crc_changed (by omega) hch.out
  have hne : (((crc G.data.toList : Nat) : Int) != ((crc s.data.toList : Nat) : Int)) = true := bne_iff_ne.2 (by omega)
  have hcrc := Lib.hid hcrc
  clear hsz hms hch
  generalize crc G.data.toList = cG at *
  generalize crc s.data.toList = cs at *
  go_wp2_with fail
  refine (made_ready _ _ x7.out).mono ?_
  rintro e w8 ⟨rfl, rfl⟩
  go_wp2_with fail
  refine (made_ready _ _ y7.out).mono ?_
  rintro e w8 ⟨rfl, rfl⟩
  go_wp2_with fail
  go_ret
  exact ⟨rfl, b7.out⟩

theorem walk (t s : ByteArray) (a : Int) (c : Nat) (w : World) (hc : c < 256) :
    Calls Try.prog 7 #[.string t, .string s, .int .i64 a, .int .u8 c] w fun e w' => e = .returned (.bool true) ∧ Below w.heap.size w w' := by
  by_cases h1 : 1000 < t.size
  · exact walk_out t s a c w (Or.inl h1)
  by_cases h2 : s.size = 0
  · exact walk_out t s a c w (Or.inr (Or.inl ⟨by omega, beq_iff_eq.2 (by omega)⟩))
  by_cases h3 : 1000 < s.size
  · exact walk_out t s a c w (Or.inr (Or.inr (Or.inl ⟨by omega, h3, beq_eq_false_iff_ne.2 (by omega)⟩)))
  by_cases h4 : c = 0
  · exact walk_out t s a c w (Or.inr (Or.inr (Or.inr ⟨by omega, by omega, beq_eq_false_iff_ne.2 (by omega), beq_iff_eq.2 (by omega)⟩)))
  exact walk_in t s a c w (by omega) (by omega) (by omega) (by omega) hc

set_option maxRecDepth 100000 in
theorem lifted (os : Os) (started : os.Started) (H : Type) (enc : TypeId × Value → H) :
    ReturnsInHanded {} Try.checked os 7 .any (Rows.crcTwoSpec.pre6 enc Try.prog Try.f7 Rows.crcTwoRow.domain false) (Rows.crcTwoSpec.post enc Try.prog Try.f7 false true false false) := by
  refine returnsInHanded_of_change (C := Try.checked) own started (by kernel_rfl) Try.func7
    (ChangeSpec.witness6 (enc := enc) (C := Try.checked) false ⟨#[], #[.string ByteArray.empty, .string ByteArray.empty, .int .i64 0, .int .u8 0], []⟩ 8 (by kernel_rfl) (by kernel_rfl) (by kernel_rfl) (by kernel_rfl)) ?_
  intro W base args ds gs before hval0 hW _ _
  have hval : ∀ (j : Nat) t v, Try.f7.params[j]? = some t → args[j]? = some v → Value.okWide Try.prog W .any base t v := hval0
  have hW' := hW
  obtain ⟨p, q, hA0, hV, rfl, hfz, hnd⟩ := hW
  have hA : DataW.TrodAll enc Try.prog W 0 (fun _ => true) true Try.f7.params.toList args.toList ds p := hA0
  rw [Try.params7] at hA hval
  obtain ⟨v0, vs0, d0, ds0, p0, q0, hargs, rfl, rfl, h0, r0⟩ := trodAll_cons hA
  obtain ⟨v1, vs1, d1, ds1, p1, q1, rfl, rfl, rfl, h1, r1⟩ := trodAll_cons r0
  obtain ⟨v2, vs2, d2, ds2, p2, q2, rfl, rfl, rfl, h2, r2⟩ := trodAll_cons r1
  obtain ⟨v3, vs3, d3, ds3, p3, q3, rfl, rfl, rfl, h3, r3⟩ := trodAll_cons r2
  obtain ⟨rfl, rfl, rfl⟩ := trodAll_nil r3
  obtain rfl : args = #[v0, v1, v2, v3] := by cases args; simp_all
  obtain ⟨rfl, rfl⟩ := trodVars_none hV
  obtain ⟨a0, rfl, rfl, rfl, w0⟩ := open_string Try.underlying9 (hval 0 9 v0 rfl rfl) h0
  obtain ⟨a1, rfl, rfl, rfl, w1⟩ := open_string Try.underlying9 (hval 1 9 v1 rfl rfl) h1
  obtain ⟨a2, rfl, rfl, rfl, w2⟩ := open_int Try.underlying3 (hval 2 3 v2 rfl rfl) h2
  obtain ⟨a3, rfl, rfl, rfl, w3⟩ := open_int Try.underlying5 (hval 3 5 v3 rfl rfl) h3
  clear hA0 hval0
  have hx : 0 ≤ a3 ∧ a3 ≤ 255 := by simpa [Lit.wf, IntKind.min, IntKind.max, IntKind.signed, IntKind.bits] using w3
  obtain ⟨c, rfl⟩ : ∃ c : Nat, a3 = (c : Int) := ⟨a3.toNat, by omega⟩
  simp only [List.append_nil] at hW'
  refine (walk a0 a1 a2 c W (by omega)).mono fun e W' ⟨he, hg⟩ => ?_
  subst he
  exact ⟨_, rfl, _, _, _, [], [], [], hW', trodAll_cons_mk (shut_bool Try.underlying4 _) trodAll_mk0, trodAll_cons_mk (shut_string Try.underlying9 w0) (trodAll_cons_mk (shut_string Try.underlying9 w1) (trodAll_cons_mk (shut_int Try.underlying3 w2) (trodAll_cons_mk (shut_int Try.underlying5 w3) trodAll_mk0))), rfl, hg.frame _, fun h => by cases h⟩

theorem over : Rows.crcTwoRow.holds Try.pinned (OpenSpec.ofChange Rows.crcTwoSpec) :=
  OpenClaim.holds_of_wide 7 Try.f7 rfl rfl rfl rfl rfl rfl rfl ⟨rfl, rfl, rfl, rfl, rfl⟩ rfl rfl rfl rfl rfl (by kernel_rfl) Try.func7 (by kernel_rfl)
    (of_decide_eq_true (by kernel_rfl)) (by unfold Func.isWrapper; first | (rw [if_pos (by decide +kernel)]; kernel_rfl) | (rw [if_neg (by decide +kernel)]; exact ⟨rfl, rfl⟩))
    (fun os started H enc _ => lifted os started H enc)

/-- The statement. -/
theorem proved : Rows.CrcTwoSaid := over
#print axioms proved
end Go.Proofs.Ytddnlfelggbkcaa.crcTwo
