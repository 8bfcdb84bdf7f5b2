/-
  Unlike operations have unlike bytes, and none is another one's beginning. Condition: none.
-/
import Derived.Test.YtaemoojhmknicaaPAwake
import Derived.Test.YtaemoojhmknicaaPOpen
import Derived.Test.YtaemoojhmknicaaPEq
import Derived.Test.YtaemoojhmknicaaRows
namespace Go.Proofs.Ytaemoojhmknicaa.opbytesOne
open Go.ChangeShapes Go.WideShapes Go.ChangeAt Go.RowKit Cod
open Go.ChangeMaps (open_string shut_string)
set_option linter.unusedVariables false

theorem own : ownKnob Try.prog.godebug = none := by kernel_rfl

/-- Both operations, each in a block of its own. -/
structure Both (w : World) (a b : OpN) (W : World) : Prop where
  ha : OpBox W w.heap.size a
  hb : OpBox W (w.heap.size + 1) b
  bel : Below w.heap.size w W
theorem Both.start (w : World) (a b : OpN) : Both w a b ((w.alloc (.cells (opC a) 23)).alloc (.cells (opC b) 23)) := by
  have b1 : Below w.heap.size w (w.alloc (.cells (opC a) 23)) := (Below.refl _ _).alloc (Nat.le_refl _) _
  have h := OpBox.new (w.alloc (.cells (opC a) 23)) b 23
  rw [show (w.alloc (.cells (opC a) 23)).heap.size = w.heap.size + 1 by simp] at h
  exact ⟨(OpBox.new w a 23).below ((Below.refl _ _).alloc (Nat.le_refl _) _), h, b1.alloc b1.size _⟩
theorem Both.step {w W W' : World} {a b : OpN} (h : Both w a b W) (k : Below W.heap.size W W') : Both w a b W' := ⟨h.ha.below k, h.hb.below k, h.bel.trans (k.mono h.bel.size)⟩

set_option maxHeartbeats 8000000 in
set_option maxRecDepth 100000 in
theorem walk_both (a b : OpN) (w : World) (Pa Pb : ByteArray) (fa fb : Int) (hc1 : ¬ (1000 : Int) < a.cron.size) (hc2 : ¬ (1000 : Int) < b.cron.size)
    (cp : Hid (∀ X, Calls Try.prog 8 #[opV a] X fun e w' => e = .returned (.tuple #[.string Pa, .int .i64 fa]) ∧ Below X.heap.size X w'))
    (cq : Hid (∀ X, Calls Try.prog 8 #[opV b] X fun e w' => e = .returned (.tuple #[.string Pb, .int .i64 fb]) ∧ Below X.heap.size X w'))
    (hcase : Hid (fa ≠ 0 ∨ fb ≠ 0 ∨ fa = 0 ∧ fb = 0 ∧ a = b ∧ Pa = Pb ∨ fa = 0 ∧ fb = 0 ∧ a ≠ b ∧ Pa ≠ Pb ∧ (Pa.size ≤ Pb.size → Pb.extract 0 Pa.size ≠ Pa))) (hs : Pa.size ≤ 100000 ∧ Pb.size ≤ 100000) :
    Calls Try.prog 6 #[opV a, opV b] w fun e w' => e = .returned (.bool true) ∧ Below w.heap.size w w' := by
  have B0 := Lib.hid (Both.start w a b)
  obtain ⟨hs1, hs2⟩ := hs
  by_cases ha : fa = 0
  · by_cases hb : fb = 0
    · rcases hcase.out with h | h | ⟨-, -, hab, hp⟩ | ⟨-, -, hab, hp, hx⟩
      · exact absurd ha h
      · exact absurd hb h
      · subst hab hp ha hb
        have hq := eq_yes a
        clear hcase
        go_enter Try.func6, Try.ntmps6
        have q9 := B0.out.ha.nine.2.2.2.2.2.2.2.2
        go_wp2_with fail
        refine (awake_any _).mono ?_
        rintro e w1 ⟨rfl, bx⟩
        replace B0 := Lib.hid (B0.out.step bx)
        clear q9 bx
        have y0 := B0.out.ha.cell 0 _ rfl
        obtain ⟨y1, y2, y3, y4, y5, y6, y7, y8, y9⟩ := B0.out.ha.nine
        have q9 := B0.out.hb.nine.2.2.2.2.2.2.2.2
        go_wp2_with fail
        refine (cp.out _).mono ?_
        rintro e w2 ⟨rfl, bx⟩
        replace B0 := Lib.hid (B0.out.step bx)
        clear y0 y1 y2 y3 y4 y5 y6 y7 y8 y9 q9 bx
        have y0 := B0.out.hb.cell 0 _ rfl
        obtain ⟨y1, y2, y3, y4, y5, y6, y7, y8, y9⟩ := B0.out.hb.nine
        go_wp2_with fail
        refine (cq.out _).mono ?_
        rintro e w3 ⟨rfl, bx⟩
        replace B0 := Lib.hid (B0.out.step bx)
        clear y0 y1 y2 y3 y4 y5 y6 y7 y8 y9 bx
        have y0 := B0.out.hb.cell 0 _ rfl
        obtain ⟨y1, y2, y3, y4, y5, y6, y7, y8, y9⟩ := B0.out.hb.nine
        have x0 := B0.out.ha.cell 0 _ rfl
        obtain ⟨x1, x2, x3, x4, x5, x6, x7, x8, x9⟩ := B0.out.ha.nine
        go_wp2_with fail
        go_ret
        exact ⟨rfl, B0.out.bel⟩
      · subst ha hb
        have hq := eq_no a b hab
        have ht := toList_ne hp
        replace hab := Lib.hid hab
        replace hp := Lib.hid hp
        clear hcase
        by_cases hl : Pb.size < Pa.size
        · have hl1 : (Pb.size : Int) < Pa.size := by omega
          clear hx
          go_enter Try.func6, Try.ntmps6
          have q9 := B0.out.ha.nine.2.2.2.2.2.2.2.2
          go_wp2_with fail
          refine (awake_any _).mono ?_
          rintro e w1 ⟨rfl, bx⟩
          replace B0 := Lib.hid (B0.out.step bx)
          clear q9 bx
          have y0 := B0.out.ha.cell 0 _ rfl
          obtain ⟨y1, y2, y3, y4, y5, y6, y7, y8, y9⟩ := B0.out.ha.nine
          have q9 := B0.out.hb.nine.2.2.2.2.2.2.2.2
          go_wp2_with fail
          refine (cp.out _).mono ?_
          rintro e w2 ⟨rfl, bx⟩
          replace B0 := Lib.hid (B0.out.step bx)
          clear y0 y1 y2 y3 y4 y5 y6 y7 y8 y9 q9 bx
          have y0 := B0.out.hb.cell 0 _ rfl
          obtain ⟨y1, y2, y3, y4, y5, y6, y7, y8, y9⟩ := B0.out.hb.nine
          go_wp2_with fail
          refine (cq.out _).mono ?_
          rintro e w3 ⟨rfl, bx⟩
          replace B0 := Lib.hid (B0.out.step bx)
          clear y0 y1 y2 y3 y4 y5 y6 y7 y8 y9 bx
          have y0 := B0.out.hb.cell 0 _ rfl
          obtain ⟨y1, y2, y3, y4, y5, y6, y7, y8, y9⟩ := B0.out.hb.nine
          have x0 := B0.out.ha.cell 0 _ rfl
          obtain ⟨x1, x2, x3, x4, x5, x6, x7, x8, x9⟩ := B0.out.ha.nine
          go_wp2_with fail
          go_ret
          exact ⟨rfl, B0.out.bel⟩
        · have hl1 : ¬ (Pb.size : Int) < Pa.size := by omega
          have hl2 : (Pa.size : Int) ≤ Pb.size := by omega
          have hl3 : Pa.size ≤ Pb.size := by omega
          have hx2 := toList_ne (hx hl3)
          clear hx
          go_enter Try.func6, Try.ntmps6
          have q9 := B0.out.ha.nine.2.2.2.2.2.2.2.2
          go_wp2_with fail
          refine (awake_any _).mono ?_
          rintro e w1 ⟨rfl, bx⟩
          replace B0 := Lib.hid (B0.out.step bx)
          clear q9 bx
          have y0 := B0.out.ha.cell 0 _ rfl
          obtain ⟨y1, y2, y3, y4, y5, y6, y7, y8, y9⟩ := B0.out.ha.nine
          have q9 := B0.out.hb.nine.2.2.2.2.2.2.2.2
          go_wp2_with fail
          refine (cp.out _).mono ?_
          rintro e w2 ⟨rfl, bx⟩
          replace B0 := Lib.hid (B0.out.step bx)
          clear y0 y1 y2 y3 y4 y5 y6 y7 y8 y9 q9 bx
          have y0 := B0.out.hb.cell 0 _ rfl
          obtain ⟨y1, y2, y3, y4, y5, y6, y7, y8, y9⟩ := B0.out.hb.nine
          go_wp2_with fail
          refine (cq.out _).mono ?_
          rintro e w3 ⟨rfl, bx⟩
          replace B0 := Lib.hid (B0.out.step bx)
          clear y0 y1 y2 y3 y4 y5 y6 y7 y8 y9 bx
          have y0 := B0.out.hb.cell 0 _ rfl
          obtain ⟨y1, y2, y3, y4, y5, y6, y7, y8, y9⟩ := B0.out.hb.nine
          have x0 := B0.out.ha.cell 0 _ rfl
          obtain ⟨x1, x2, x3, x4, x5, x6, x7, x8, x9⟩ := B0.out.ha.nine
          go_wp2_with fail
          go_ret
          exact ⟨rfl, B0.out.bel⟩
    · have hb1 : (fb != 0) = true := by simp [hb]
      subst ha
      replace hb := Lib.hid hb
      clear hcase
      go_enter Try.func6, Try.ntmps6
      have q9 := B0.out.ha.nine.2.2.2.2.2.2.2.2
      go_wp2_with fail
      refine (awake_any _).mono ?_
      rintro e w1 ⟨rfl, bx⟩
      replace B0 := Lib.hid (B0.out.step bx)
      clear q9 bx
      have y0 := B0.out.ha.cell 0 _ rfl
      obtain ⟨y1, y2, y3, y4, y5, y6, y7, y8, y9⟩ := B0.out.ha.nine
      have q9 := B0.out.hb.nine.2.2.2.2.2.2.2.2
      go_wp2_with fail
      refine (cp.out _).mono ?_
      rintro e w2 ⟨rfl, bx⟩
      replace B0 := Lib.hid (B0.out.step bx)
      clear y0 y1 y2 y3 y4 y5 y6 y7 y8 y9 q9 bx
      have y0 := B0.out.hb.cell 0 _ rfl
      obtain ⟨y1, y2, y3, y4, y5, y6, y7, y8, y9⟩ := B0.out.hb.nine
      go_wp2_with fail
      refine (cq.out _).mono ?_
      rintro e w3 ⟨rfl, bx⟩
      replace B0 := Lib.hid (B0.out.step bx)
      clear y0 y1 y2 y3 y4 y5 y6 y7 y8 y9 bx
      go_wp2_with fail
      go_ret
      exact ⟨rfl, B0.out.bel⟩
  · have ha1 : (fa != 0) = true := by simp [ha]
    replace ha := Lib.hid ha
    clear hcase
    go_enter Try.func6, Try.ntmps6
    have q9 := B0.out.ha.nine.2.2.2.2.2.2.2.2
    go_wp2_with fail
    refine (awake_any _).mono ?_
    rintro e w1 ⟨rfl, bx⟩
    replace B0 := Lib.hid (B0.out.step bx)
    clear q9 bx
    have y0 := B0.out.ha.cell 0 _ rfl
    obtain ⟨y1, y2, y3, y4, y5, y6, y7, y8, y9⟩ := B0.out.ha.nine
    have q9 := B0.out.hb.nine.2.2.2.2.2.2.2.2
    go_wp2_with fail
    refine (cp.out _).mono ?_
    rintro e w2 ⟨rfl, bx⟩
    replace B0 := Lib.hid (B0.out.step bx)
    clear y0 y1 y2 y3 y4 y5 y6 y7 y8 y9 q9 bx
    have y0 := B0.out.hb.cell 0 _ rfl
    obtain ⟨y1, y2, y3, y4, y5, y6, y7, y8, y9⟩ := B0.out.hb.nine
    go_wp2_with fail
    refine (cq.out _).mono ?_
    rintro e w3 ⟨rfl, bx⟩
    replace B0 := Lib.hid (B0.out.step bx)
    clear y0 y1 y2 y3 y4 y5 y6 y7 y8 y9 bx
    go_wp2_with fail
    go_ret
    exact ⟨rfl, B0.out.bel⟩

set_option maxHeartbeats 4000000 in
set_option maxRecDepth 100000 in
theorem walk_long (a b : OpN) (w : World) (hc : (1000 : Int) < a.cron.size ∨ ¬ (1000 : Int) < a.cron.size ∧ (1000 : Int) < b.cron.size) :
    Calls Try.prog 6 #[opV a, opV b] w fun e w' => e = .returned (.bool true) ∧ Below w.heap.size w w' := by
  have B0 := Lib.hid (Both.start w a b)
  rcases hc with hc1 | ⟨hc1, hc2⟩
  · go_enter Try.func6, Try.ntmps6
    go_wp2_with fail
    refine (awake_any _).mono ?_
    rintro e w1 ⟨rfl, bx⟩
    replace B0 := Lib.hid (B0.out.step bx)
    clear bx
    have q9 := B0.out.ha.nine.2.2.2.2.2.2.2.2
    go_wp2_with fail
    refine (awake_any _).mono ?_
    rintro e w2 ⟨rfl, bx⟩
    replace B0 := Lib.hid (B0.out.step bx)
    clear bx q9
    go_wp2_with fail
    go_ret
    exact ⟨rfl, B0.out.bel⟩
  · go_enter Try.func6, Try.ntmps6
    go_wp2_with fail
    refine (awake_any _).mono ?_
    rintro e w1 ⟨rfl, bx⟩
    replace B0 := Lib.hid (B0.out.step bx)
    clear bx
    have q9 := B0.out.ha.nine.2.2.2.2.2.2.2.2
    have q8 := B0.out.hb.nine.2.2.2.2.2.2.2.2
    go_wp2_with fail
    refine (awake_any _).mono ?_
    rintro e w2 ⟨rfl, bx⟩
    replace B0 := Lib.hid (B0.out.step bx)
    clear bx q9 q8
    go_wp2_with fail
    go_ret
    exact ⟨rfl, B0.out.bel⟩

theorem printS_size {o : OpN} (hi : OpI o) (hc : o.cron.size ≤ 1000) : (printS o).size ≤ 100000 := by
  unfold printS
  split
  · have := opB_size hi (by omega); omega
  · exact Nat.zero_le _
theorem walk (a b : OpN) (w : World) (za : OpIs a) (zb : OpIs b) :
    Calls Try.prog 6 #[opV a, opV b] w fun e w' => e = .returned (.bool true) ∧ Below w.heap.size w w' := by
  by_cases hc : a.cron.size ≤ 1000
  · by_cases hd : b.cron.size ≤ 1000
    · refine walk_both a b w (printS a) (printS b) (printE a) (printE b) (by omega) (by omega) (fun X => print_any a X za.int (by omega)) (fun X => print_any b X zb.int (by omega)) ?_ ⟨printS_size za.int hc, printS_size zb.int hd⟩
      show _ ∨ _
      by_cases oa : okOp a = true
      · by_cases ob : okOp b = true
        · have e1 : printS a = opB a := by unfold printS; rw [if_pos oa]
          have e2 : printE a = 0 := by unfold printE; rw [if_pos oa]
          have e3 : printS b = opB b := by unfold printS; rw [if_pos ob]
          have e4 : printE b = 0 := by unfold printE; rw [if_pos ob]
          rw [e1, e2, e3, e4]
          by_cases hab : a = b
          · exact Or.inr (Or.inr (Or.inl ⟨rfl, rfl, hab, by rw [hab]⟩))
          · refine Or.inr (Or.inr (Or.inr ⟨rfl, rfl, hab, fun h => ?_, fun hl h => ?_⟩))
            · exact hab (opB_inj (R := ⟨#[]⟩) (S := ⟨#[]⟩) oa ob za.int zb.int (by rw [h])).1
            · refine hab (opB_inj (R := cutS (opB b) (opB a).size) (S := ⟨#[]⟩) oa ob za.int zb.int ?_).1
              rw [app_none']
              have := cut_join (opB b) (opB a).size
              rw [h] at this
              exact this
        · exact Or.inr (Or.inl (by unfold printE; rw [if_neg ob]; decide))
      · exact Or.inl (by unfold printE; rw [if_neg oa]; decide)
    · exact walk_long a b w (Or.inr ⟨by omega, by omega⟩)
  · exact walk_long a b w (Or.inl (by omega))

set_option maxRecDepth 100000 in
theorem lifted (os : Os) (started : os.Started) (H : Type) (enc : TypeId × Value → H) :
    ReturnsInHanded {} Try.checked os 6 .any (Rows.opbytesOneSpec.pre6 enc Try.prog Try.f6 Rows.opbytesOneRow.domain false) (Rows.opbytesOneSpec.post enc Try.prog Try.f6 false true false false) := by
  refine returnsInHanded_of_change (C := Try.checked) own started (by kernel_rfl) Try.func6
    (ChangeSpec.witness6 (enc := enc) (C := Try.checked) false ⟨#[], #[.agg #[.int .i64 0, .int .i64 0, .int .i64 0, .int .i64 0, .int .i64 0, .int .i64 0, .int .i64 0, .int .i64 0, .int .i64 0, .string ByteArray.empty], .agg #[.int .i64 0, .int .i64 0, .int .i64 0, .int .i64 0, .int .i64 0, .int .i64 0, .int .i64 0, .int .i64 0, .int .i64 0, .string ByteArray.empty]], []⟩ 8 (by kernel_rfl) (by kernel_rfl) (by kernel_rfl) (by kernel_rfl)) ?_
  intro W base args ds gs before hval0 hW _ _
  have hval : ∀ (j : Nat) t v, Try.f6.params[j]? = some t → args[j]? = some v → Value.okWide Try.prog W .any base t v := hval0
  have hW' := hW
  obtain ⟨p, q, hA0, hV, rfl, hfz, hnd⟩ := hW
  have hA : DataW.TrodAll enc Try.prog W 0 (fun _ => true) true Try.f6.params.toList args.toList ds p := hA0
  rw [Try.params6] at hA hval
  obtain ⟨v0, vs0, d0, ds0, p0, q0, hargs, rfl, rfl, h0, r0⟩ := trodAll_cons hA
  obtain ⟨v1, vs1, d1, ds1, p1, q1, rfl, rfl, rfl, h1, r1⟩ := trodAll_cons r0
  obtain ⟨rfl, rfl, rfl⟩ := trodAll_nil r1
  obtain rfl : args = #[v0, v1] := by cases args; simp_all
  obtain ⟨rfl, rfl⟩ := trodVars_none hV
  obtain ⟨a0, rfl, rfl, rfl, w0⟩ := open_op (hval 0 23 v0 rfl rfl) h0
  obtain ⟨a1, rfl, rfl, rfl, w1⟩ := open_op (hval 1 23 v1 rfl rfl) h1
  clear hA0 hval0
  simp only [List.append_nil] at hW'
  refine (walk a0 a1 W w0 w1).mono fun e W' ⟨he, bel⟩ => ?_
  subst he
  exact ⟨_, rfl, _, _, _, [], [], [], hW', trodAll_mk1 (shut_bool Try.underlying4 _), (trodAll_cons_mk (shut_op w0) (trodAll_cons_mk (shut_op w1) trodAll_mk0)), rfl, bel.frame _, fun h => by cases h⟩

theorem over : Rows.opbytesOneRow.holds Try.pinned (OpenSpec.ofChange Rows.opbytesOneSpec) :=
  OpenClaim.holds_of_wide 6 Try.f6 rfl rfl rfl rfl rfl rfl rfl ⟨rfl, rfl, rfl, rfl, rfl⟩ rfl rfl rfl rfl rfl (by kernel_rfl) Try.func6 (by kernel_rfl)
    (of_decide_eq_true (by kernel_rfl)) (by unfold Func.isWrapper; first | (rw [if_pos (by decide +kernel)]; kernel_rfl) | (rw [if_neg (by decide +kernel)]; exact ⟨rfl, rfl⟩))
    (fun os started H enc _ => lifted os started H enc)

/-- The statement. -/
theorem proved : Rows.OpbytesOneSaid := over
#print axioms proved
end Go.Proofs.Ytaemoojhmknicaa.opbytesOne
