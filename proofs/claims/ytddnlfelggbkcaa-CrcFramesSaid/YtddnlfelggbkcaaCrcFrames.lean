/-
  CrcFrames holds: a text with its sum is the document's, and whole; with a byte changed it isn't whole. No condition.
-/
import Derived.Test.YtddnlfelggbkcaaChange
import Derived.ProofKit
import Derived.OpenShut
import Derived.ShutString
namespace Go.Proofs.Ytddnlfelggbkcaa.crcFrames
open Go.ChangeShapes Go.WideShapes Go.ChangeAt Go.RowKit Crc
open Go.ChangeMaps (open_string shut_string)

theorem own : ownKnob Try.prog.godebug = none := by kernel_rfl

set_option maxHeartbeats 400000 in
theorem walk_long (s : ByteArray) (a c : Int) (w : World) (h : 1000 < s.size) :
    Calls Try.prog 5 #[.string s, .int .i64 a, .int .u8 c] w fun e w' => e = .returned (.bool true) ∧ Below w.heap.size w w' := by
  have hnot := not_run
  go_enter Try.func5, Try.ntmps5
  go_wp2_with fail
  refine (awake_any _).mono ?_
  rintro e w1 ⟨rfl, b1⟩
  have b1 := Lib.hid b1
  go_wp2_with fail
  refine (awake_any _).mono ?_
  rintro e w2 ⟨rfl, k2⟩
  have b2 := Lib.hid (b1.out.trans (k2.mono b1.out.size))
  clear k2 b1
  go_wp2_with fail
  go_ret
  exact ⟨rfl, b2.out⟩

theorem whole_says (G : ByteArray) (W : World) (q : Bool) (h : G.size ≤ 100000) (hq : isWhole G.data.toList = q) :
    Calls Try.prog 14 #[.string G] W fun e w' => e = .returned (.tuple #[.string (bif q then body G else ⟨#[]⟩), .bool q]) ∧ Below W.heap.size W w' :=
  (whole_any G W h).mono fun e w' ⟨he, hb⟩ => ⟨by rw [hq] at he; exact he, hb⟩

set_option maxRecDepth 100000 in
set_option maxHeartbeats 1000000 in
theorem walk_short (s F : ByteArray) (a : Int) (c : Nat) (cr : Int) (w : World) (h : s.size ≤ 1000) (hc : c < 256) (h0 : Hid (0 < F.size)) (hF : Hid (F.size ≤ 100000)) (hFw : Hid (isWhole F.data.toList = true))
  (hfr : ∀ W, Hid (Calls Try.prog 13 #[.string s] W fun e w' => e = .returned (.tuple #[.string F, .int .u32 cr]) ∧ Below W.heap.size W w'))
  (hwh : ∀ W, Hid (Calls Try.prog 14 #[.string F] W fun e w' => e = .returned (.tuple #[.string s, .bool true]) ∧ Below W.heap.size W w'))
  (hrf : ∀ W, Hid (Calls Try.prog 15 #[.string s] W fun e w' => e = .returned (.string F) ∧ Below W.heap.size W w'))
  (hrs : ∀ W, Hid (Calls Try.prog 12 #[.string s] W fun e w' => e = .returned (.int .u32 cr) ∧ W = w')) :
    Calls Try.prog 5 #[.string s, .int .i64 a, .int .u8 c] w fun e w' => e = .returned (.bool true) ∧ Below w.heap.size w w' := by
  have hnot := not_run
  have Hfr := Lib.hid hfr
  have Hwh := Lib.hid hwh
  have Hrf := Lib.hid hrf
  have Hrs := Lib.hid hrs
  clear hfr hwh hrf hrs
  go_enter Try.func5, Try.ntmps5
  go_wp2_with fail
  refine (awake_any _).mono ?_
  rintro e w1 ⟨rfl, b1⟩
  have b1 := Lib.hid b1
  go_wp2_with fail
  refine (Hfr.out _).out.mono ?_
  rintro e w2 ⟨rfl, k2⟩
  have b2 := Lib.hid (b1.out.trans (k2.mono b1.out.size))
  clear k2 b1
  go_wp2_with fail
  refine (Hwh.out _).out.mono ?_
  rintro e w3 ⟨rfl, k3⟩
  have b3 := Lib.hid (b2.out.trans (k3.mono b2.out.size))
  clear k3 b2
  go_wp2_with fail
  refine (Hrf.out _).out.mono ?_
  rintro e w4 ⟨rfl, k4⟩
  have b4 := Lib.hid (b3.out.trans (k4.mono b3.out.size))
  clear k4 b3
  go_wp2_with fail
  refine (Hrs.out _).out.mono ?_
  rintro e w4 ⟨rfl, rfl⟩
  clear Hfr Hwh Hrf Hrs
  have hnz := size_nz F.size h0.out hF.out
  obtain ⟨i, x, y, cap, w5, G, hi, hidx, hcv, hcell, hfz, hxor, hback, b5, hch, hsz, -⟩ := change_byte w4 F a c h0.out hF.out hc
  have b5 := Lib.hid (b4.out.trans (b5.out.mono b4.out.size))
  clear b4
  have hback := hback.out _ rfl
  generalize hw6 : w5.setCell ⟨w4.heap.size, i, none⟩ (.int .u8 (y : Nat)) = w6 at b5 hback
  go_wp2_with fail
  clear hw6 hback hcv hcell hfz hxor hidx hnz
  refine (whole_says G _ (c == 0) (by rw [hsz.out]; exact hF.out) (isWhole_changed hFw.out hch.out)).mono ?_
  rintro e w7 ⟨rfl, k7⟩
  have b7 := Lib.hid (b5.out.trans (k7.mono b5.out.size))
  clear k7 b5 h0 hF hFw hch hsz
  generalize (bif c == 0 then body G else ⟨#[]⟩) = t at *
  by_cases hc0 : c = 0
  · have e1 : (c == 0) = true := by simpa using hc0
    have e2 : ((c : Int) == 0) = true := by simpa using hc0
    have hc0 := Lib.hid hc0
    go_wp2_with fail
    go_ret
    exact ⟨rfl, b7.out⟩
  · have e1 : (c == 0) = false := by simpa using hc0
    have e2 : ((c : Int) == 0) = false := by simpa using hc0
    have hc0 := Lib.hid hc0
    go_wp2_with fail
    go_ret
    exact ⟨rfl, b7.out⟩

theorem walk (s : ByteArray) (a : Int) (c : Nat) (w : World) (hc : c < 256) :
    Calls Try.prog 5 #[.string s, .int .i64 a, .int .u8 c] w fun e w' => e = .returned (.bool true) ∧ Below w.heap.size w w' := by
  by_cases h : 1000 < s.size
  · exact walk_long s a c w h
  · have hf : (framed s).size ≤ 100000 := by rw [framed_size]; omega
    refine walk_short s (framed s) a c (crc s.data.toList : Nat) w (by omega) hc (by show 0 < _; rw [framed_size]; omega) hf (framed_whole s) (fun W => frame_any s W (by omega)) (fun W => ?_) (fun W => refFrame_any s W (by omega)) (fun W => refSum_any s W (by unfold maxLen; omega))
    refine (whole_any (framed s) W hf).mono fun e w' ⟨he, hb⟩ => ⟨?_, hb⟩
    unfold WholeSays at he
    rw [framed_whole, framed_body] at he
    exact he

set_option maxRecDepth 100000 in
theorem lifted (os : Os) (started : os.Started) (H : Type) (enc : TypeId × Value → H) :
    ReturnsInHanded {} Try.checked os 5 .any (Rows.crcFramesSpec.pre6 enc Try.prog Try.f5 Rows.crcFramesRow.domain false) (Rows.crcFramesSpec.post enc Try.prog Try.f5 false true false false) := by
  refine returnsInHanded_of_change (C := Try.checked) own started (by kernel_rfl) Try.func5
    (ChangeSpec.witness6 (enc := enc) (C := Try.checked) false ⟨#[], #[.string ByteArray.empty, .int .i64 0, .int .u8 0], []⟩ 8 (by kernel_rfl) (by kernel_rfl) (by kernel_rfl) (by kernel_rfl)) ?_
  intro W base args ds gs before hval0 hW _ _
  have hval : ∀ (j : Nat) t v, Try.f5.params[j]? = some t → args[j]? = some v → Value.okWide Try.prog W .any base t v := hval0
  have hW' := hW
  obtain ⟨p, q, hA0, hV, rfl, hfz, hnd⟩ := hW
  have hA : DataW.TrodAll enc Try.prog W 0 (fun _ => true) true Try.f5.params.toList args.toList ds p := hA0
  rw [Try.params5] at hA hval
  obtain ⟨v0, vs0, d0, ds0, p0, q0, hargs, rfl, rfl, h0, r0⟩ := trodAll_cons hA
  obtain ⟨v1, vs1, d1, ds1, p1, q1, rfl, rfl, rfl, h1, r1⟩ := trodAll_cons r0
  obtain ⟨v2, vs2, d2, ds2, p2, q2, rfl, rfl, rfl, h2, r2⟩ := trodAll_cons r1
  obtain ⟨rfl, rfl, rfl⟩ := trodAll_nil r2
  obtain rfl : args = #[v0, v1, v2] := by cases args; simp_all
  obtain ⟨rfl, rfl⟩ := trodVars_none hV
  obtain ⟨a0, rfl, rfl, rfl, w0⟩ := open_string Try.underlying9 (hval 0 9 v0 rfl rfl) h0
  obtain ⟨a1, rfl, rfl, rfl, w1⟩ := open_int Try.underlying3 (hval 1 3 v1 rfl rfl) h1
  obtain ⟨a2, rfl, rfl, rfl, w2⟩ := open_int Try.underlying5 (hval 2 5 v2 rfl rfl) h2
  clear hA0 hval0
  have hx : 0 ≤ a2 ∧ a2 ≤ 255 := by simpa [Lit.wf, IntKind.min, IntKind.max, IntKind.signed, IntKind.bits] using w2
  obtain ⟨c, rfl⟩ : ∃ c : Nat, a2 = (c : Int) := ⟨a2.toNat, by omega⟩
  simp only [List.append_nil] at hW'
  refine (walk a0 a1 c W (by omega)).mono fun e W' ⟨he, hg⟩ => ?_
  subst he
  exact ⟨_, rfl, _, _, _, [], [], [], hW', trodAll_cons_mk (shut_bool Try.underlying4 _) trodAll_mk0, trodAll_cons_mk (shut_string Try.underlying9 w0) (trodAll_cons_mk (shut_int Try.underlying3 w1) (trodAll_cons_mk (shut_int Try.underlying5 w2) trodAll_mk0)), rfl, hg.frame _, fun h => by cases h⟩

theorem over : Rows.crcFramesRow.holds Try.pinned (OpenSpec.ofChange Rows.crcFramesSpec) :=
  OpenClaim.holds_of_wide 5 Try.f5 rfl rfl rfl rfl rfl rfl rfl ⟨rfl, rfl, rfl, rfl, rfl⟩ rfl rfl rfl rfl rfl (by kernel_rfl) Try.func5 (by kernel_rfl)
    (of_decide_eq_true (by kernel_rfl)) (by unfold Func.isWrapper; first | (rw [if_pos (by decide +kernel)]; kernel_rfl) | (rw [if_neg (by decide +kernel)]; exact ⟨rfl, rfl⟩))
    (fun os started H enc _ => lifted os started H enc)

/-- The statement. -/
theorem proved : Rows.CrcFramesSaid := over
#print axioms proved
end Go.Proofs.Ytddnlfelggbkcaa.crcFrames
