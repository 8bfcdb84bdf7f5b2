/-
  Layer 11: the document's Print of a right chain. Condition: none.
-/
import Derived.Test.YtnagidgffkffhaaGTakeM
import Derived.Test.YtnagidgffkffhaaGMbs
set_option linter.unusedVariables false
set_option linter.unusedSimpArgs false
namespace Go.Proofs.Ytnagidgffkffhaa.G
open Go.RowKit Cod Cfg
set_option maxRecDepth 100000
theorem refU {n : Int} (h0 : 0 ≤ n) (h1 : n < 18446744073709551616) (X : World) : Calls Try.prog 62 #[.int .u64 n] X fun e w' => e = .returned (.string (encB n.toNat)) ∧ Below X.heap.size X w' := by
  have h := refUint_any n.toNat X (by omega)
  rw [Int.toNat_of_nonneg h0] at h
  exact h
abbrev oPa_0 : Oper := { dst := some 6, op := Go.Op.fieldAddr 24 (Go.Operand.tmp 1) 0, type := 0, pos := "ref.go:136", after := #[], guard := none }
abbrev oPa_1 : Oper := { dst := some 7, op := Go.Op.load 3 (Go.Operand.tmp 6), type := 3, pos := "ref.go:136", after := #[{ on := 0, ground := Go.Ground.data }], guard := none }
abbrev oPa_2 : Oper := { dst := some 8, op := Go.Op.convert 3 90 (Go.Operand.tmp 7), type := 90, pos := "ref.go:136", after := #[{ on := 1, ground := Go.Ground.data }], guard := none }
abbrev oPa_3 : Oper := { dst := some 9, op := Go.Op.call { callee := Go.Callee.value (Go.Operand.func 62), args := #[Go.Operand.tmp 8], argTypes := #[90] }, type := 9, pos := "ref.go:136", after := #[{ on := 2, ground := Go.Ground.data }], guard := none }
abbrev oPa_4 : Oper := { dst := some 10, op := Go.Op.fieldAddr 24 (Go.Operand.tmp 1) 1, type := 0, pos := "ref.go:136", after := #[], guard := none }
abbrev oPa_5 : Oper := { dst := some 11, op := Go.Op.load 22 (Go.Operand.tmp 10), type := 22, pos := "ref.go:136", after := #[{ on := 4, ground := Go.Ground.data }], guard := none }
abbrev oPa_6 : Oper := { dst := some 12, op := Go.Op.call { callee := Go.Callee.builtin Go.Builtin.len, args := #[Go.Operand.tmp 11], argTypes := #[22] }, type := 3, pos := "ref.go:136", after := #[{ on := 5, ground := Go.Ground.data }], guard := none }
abbrev oPa_7 : Oper := { dst := some 13, op := Go.Op.convert 3 90 (Go.Operand.tmp 12), type := 90, pos := "ref.go:136", after := #[{ on := 6, ground := Go.Ground.data }], guard := none }
abbrev oPa_8 : Oper := { dst := some 14, op := Go.Op.call { callee := Go.Callee.value (Go.Operand.func 62), args := #[Go.Operand.tmp 13], argTypes := #[90] }, type := 9, pos := "ref.go:136", after := #[{ on := 7, ground := Go.Ground.data }, { on := 3, ground := Go.Ground.chain }], guard := none }
abbrev oPa_9 : Oper := { dst := some 15, op := Go.Op.binOp Go.BinOp.add 9 (Go.Operand.tmp 9) (Go.Operand.tmp 14) 9, type := 9, pos := "ref.go:136", after := #[{ on := 3, ground := Go.Ground.data }, { on := 8, ground := Go.Ground.data }], guard := none }
abbrev oPa_10 : Oper := { dst := some 3, op := Go.Op.assign (Go.Operand.tmp 15), type := 9, pos := "ref.go:136", after := #[{ on := 9, ground := Go.Ground.data }, { on := 8, ground := Go.Ground.chain }, { on := 0, ground := Go.Ground.phase }, { on := 1, ground := Go.Ground.phase }, { on := 2, ground := Go.Ground.phase }, { on := 3, ground := Go.Ground.phase }, { on := 4, ground := Go.Ground.phase }, { on := 5, ground := Go.Ground.phase }, { on := 6, ground := Go.Ground.phase }, { on := 7, ground := Go.Ground.phase }, { on := 8, ground := Go.Ground.phase }, { on := 9, ground := Go.Ground.phase }], guard := none }
abbrev oPb_0 : Oper := { dst := some 28, op := Go.Op.move (Go.Operand.tmp 3), type := 9, pos := "ref.go:139", after := #[], guard := none }
abbrev oPb_1 : Oper := { dst := some 29, op := Go.Op.fieldAddr 70 (Go.Operand.tmp 5) 0, type := 0, pos := "ref.go:139", after := #[], guard := none }
abbrev oPb_2 : Oper := { dst := some 30, op := Go.Op.fieldAddr 26 (Go.Operand.tmp 29) 0, type := 0, pos := "ref.go:139", after := #[{ on := 1, ground := Go.Ground.data }], guard := none }
abbrev oPb_3 : Oper := { dst := some 31, op := Go.Op.load 3 (Go.Operand.tmp 30), type := 3, pos := "ref.go:139", after := #[{ on := 2, ground := Go.Ground.data }], guard := none }
abbrev oPb_4 : Oper := { dst := some 32, op := Go.Op.convert 3 90 (Go.Operand.tmp 31), type := 90, pos := "ref.go:139", after := #[{ on := 3, ground := Go.Ground.data }], guard := none }
abbrev oPb_5 : Oper := { dst := some 33, op := Go.Op.call { callee := Go.Callee.value (Go.Operand.func 62), args := #[Go.Operand.tmp 32], argTypes := #[90] }, type := 9, pos := "ref.go:139", after := #[{ on := 4, ground := Go.Ground.data }], guard := none }
abbrev oPb_6 : Oper := { dst := some 34, op := Go.Op.fieldAddr 70 (Go.Operand.tmp 5) 0, type := 0, pos := "ref.go:139", after := #[], guard := none }
abbrev oPb_7 : Oper := { dst := some 35, op := Go.Op.fieldAddr 26 (Go.Operand.tmp 34) 1, type := 0, pos := "ref.go:139", after := #[{ on := 6, ground := Go.Ground.data }], guard := none }
abbrev oPb_8 : Oper := { dst := some 36, op := Go.Op.load 3 (Go.Operand.tmp 35), type := 3, pos := "ref.go:139", after := #[{ on := 7, ground := Go.Ground.data }], guard := none }
abbrev oPb_9 : Oper := { dst := some 37, op := Go.Op.convert 3 90 (Go.Operand.tmp 36), type := 90, pos := "ref.go:139", after := #[{ on := 8, ground := Go.Ground.data }], guard := none }
abbrev oPb_10 : Oper := { dst := some 38, op := Go.Op.call { callee := Go.Callee.value (Go.Operand.func 62), args := #[Go.Operand.tmp 37], argTypes := #[90] }, type := 9, pos := "ref.go:139", after := #[{ on := 9, ground := Go.Ground.data }, { on := 5, ground := Go.Ground.chain }], guard := none }
abbrev oPb_11 : Oper := { dst := some 39, op := Go.Op.binOp Go.BinOp.add 9 (Go.Operand.tmp 33) (Go.Operand.tmp 38) 9, type := 9, pos := "ref.go:139", after := #[{ on := 5, ground := Go.Ground.data }, { on := 10, ground := Go.Ground.data }], guard := none }
abbrev oPb_12 : Oper := { dst := some 40, op := Go.Op.binOp Go.BinOp.add 9 (Go.Operand.tmp 28) (Go.Operand.tmp 39) 9, type := 9, pos := "ref.go:139", after := #[{ on := 0, ground := Go.Ground.data }, { on := 11, ground := Go.Ground.data }], guard := none }
abbrev oPb_13 : Oper := { dst := some 3, op := Go.Op.assign (Go.Operand.tmp 40), type := 9, pos := "ref.go:139", after := #[{ on := 12, ground := Go.Ground.data }, { on := 10, ground := Go.Ground.chain }, { on := 0, ground := Go.Ground.phase }, { on := 1, ground := Go.Ground.phase }, { on := 2, ground := Go.Ground.phase }, { on := 3, ground := Go.Ground.phase }, { on := 4, ground := Go.Ground.phase }, { on := 5, ground := Go.Ground.phase }, { on := 6, ground := Go.Ground.phase }, { on := 7, ground := Go.Ground.phase }, { on := 8, ground := Go.Ground.phase }, { on := 9, ground := Go.Ground.phase }, { on := 10, ground := Go.Ground.phase }, { on := 11, ground := Go.Ground.phase }, { on := 12, ground := Go.Ground.phase }], guard := none }
set_option maxHeartbeats 8000000 in
theorem refPrint_any (c : CfN) (p : Option Addr) (cap : Nat) (w : World) (t : Chn w p c.l) (hr : RightP c) :
    Calls Try.prog 40 #[cfV c p cap] w fun e w' => e = .returned (.string (chainB c)) ∧ Below w.heap.size w w' := by
  have hmay : Hid (∀ s ∈ c.l, mayN s.m = true) := fun s hs => hr.good.may s hs
  have he1 : 1 ≤ c.epoch := hr.e1
  have he2 : c.epoch ≤ 1099511627776 := hr.e2
  have hl8 : c.l.length ≤ 8 := hr.n2
  have x := Lib.hid (Bx1.new w c.epoch p c.l.length cap)
  obtain ⟨F, hF⟩ : ∃ F, chainB c = F := ⟨_, rfl⟩
  rw [hF]
  have ca := refU (n := c.epoch) (by omega) (by omega)
  have cb := refU (n := (c.l.length : Int)) (by omega) (by omega)
  rw [Int.toNat_natCast] at cb
  have z0 := encU_size (n := c.epoch.toNat) (by omega)
  have z1 := encU_size (n := c.l.length) (by omega)
  have hw0 : IntKind.u64.wrap c.epoch = c.epoch := by rw [IntKind.wrap_u64]; omega
  have hw1 : IntKind.u64.wrap (c.l.length : Int) = c.l.length := by rw [IntKind.wrap_u64]; omega
  replace hF : encB c.epoch.toNat ++ encB c.l.length ++ seatsB c.l = F := hF
  clear hr
  generalize encB c.epoch.toNat = U0 at *
  generalize encB c.l.length = U1 at *
  obtain ⟨e0, l⟩ := c
  try dsimp only at hmay he1 he2 hl8 x ca cb hw0 hw1 hF t
  have hlI : (l.length : Int) ≤ 8 := by omega
  have y01 : ¬ 9223372036854775807 < U0.size + U1.size := by omega
  replace ca := Lib.hid ca
  replace cb := Lib.hid cb
  replace hF := Lib.hid hF
  replace t := Lib.hid t
  have hS : Hid (∀ W, Bx1 w e0 p l.length cap W → W.cell? ⟨w.heap.size, 0, none⟩ = some (.int .i64 e0) ∧ W.cell? ⟨w.heap.size, 1, none⟩ = some (.slice p l.length cap)) := fun W h => ⟨h.c0, h.c1⟩
  go_enter Try.func40, Try.ntmps40
  go_upto_region 1 with fail
  generalize w.alloc _ = w1 at *
  replace x := Lib.hid (x.out.below (Below.refl _ _).drew)
  refine wp_region_noPanic ?_
  refine wp_region_held_drew (S := (fun W => W.cell? ⟨w.heap.size, 0, none⟩ = some (.int .i64 e0) ∧ W.cell? ⟨w.heap.size, 1, none⟩ = some (.slice p l.length cap))) (by kernel_rfl) ?hSaoPa_0 (fun hHeld => ?_)
  case hSaoPa_0 => ((try dsimp only); exact (hS.out _ x.out))
  generalize w1.drew = wD at *
  refine wpAnyH_take (i := 0) (oi := oPa_0) (v := ?vaoPa_1) rfl (by kernel_rfl) (by kernel_rfl) (by kernel_rfl) (fun _ _ _ h => h) (Or.inl ⟨by rfl, ?yaoPa_1⟩) (by assumption) ?raoPa_1
  case yaoPa_1 => (intro w hSw; (try dsimp only at hSw); unfold oPa_0; go_simp; try with_reducible rfl)
  simp only [oPa_0, Act.put, List.setIfInBounds_toArray, List.set_cons_zero, List.set_cons_succ]
  refine wpAnyH_take (i := 4) (oi := oPa_4) (v := ?vaoPa_2) rfl (by kernel_rfl) (by kernel_rfl) (by kernel_rfl) (fun _ _ _ h => h) (Or.inl ⟨by rfl, ?yaoPa_2⟩) (by assumption) ?raoPa_2
  case yaoPa_2 => (intro w hSw; (try dsimp only at hSw); unfold oPa_4; go_simp; try with_reducible rfl)
  simp only [oPa_4, Act.put, List.setIfInBounds_toArray, List.set_cons_zero, List.set_cons_succ]
  refine wpAnyH_take (i := 1) (oi := oPa_1) (v := ?vaoPa_3) rfl (by kernel_rfl) (by kernel_rfl) (by kernel_rfl) (fun _ _ _ h => h) (Or.inl ⟨by rfl, ?yaoPa_3⟩) (by assumption) ?raoPa_3
  case yaoPa_3 => (intro w hSw; (try dsimp only at hSw); unfold oPa_1; go_simp; try with_reducible rfl)
  simp only [oPa_1, Act.put, List.setIfInBounds_toArray, List.set_cons_zero, List.set_cons_succ]
  refine wpAnyH_take (i := 5) (oi := oPa_5) (v := ?vaoPa_4) rfl (by kernel_rfl) (by kernel_rfl) (by kernel_rfl) (fun _ _ _ h => h) (Or.inl ⟨by rfl, ?yaoPa_4⟩) (by assumption) ?raoPa_4
  case yaoPa_4 => (intro w hSw; (try dsimp only at hSw); unfold oPa_5; go_simp; try with_reducible rfl)
  simp only [oPa_5, Act.put, List.setIfInBounds_toArray, List.set_cons_zero, List.set_cons_succ]
  refine wpAnyH_take (i := 2) (oi := oPa_2) (v := ?vaoPa_5) rfl (by kernel_rfl) (by kernel_rfl) (by kernel_rfl) (fun _ _ _ h => h) (Or.inl ⟨by rfl, ?yaoPa_5⟩) (by assumption) ?raoPa_5
  case yaoPa_5 => (intro w hSw; (try dsimp only at hSw); unfold oPa_2; go_simp; try with_reducible rfl)
  simp only [oPa_2, Act.put, List.setIfInBounds_toArray, List.set_cons_zero, List.set_cons_succ]
  refine wpAnyH_take (i := 6) (oi := oPa_6) (v := ?vaoPa_6) rfl (by kernel_rfl) (by kernel_rfl) (by kernel_rfl) (fun _ _ _ h => h) (Or.inl ⟨by rfl, ?yaoPa_6⟩) (by assumption) ?raoPa_6
  case yaoPa_6 => (intro w hSw; (try dsimp only at hSw); unfold oPa_6; go_simp; try with_reducible rfl)
  simp only [oPa_6, Act.put, List.setIfInBounds_toArray, List.set_cons_zero, List.set_cons_succ]
  refine wpAnyH_take (i := 7) (oi := oPa_7) (v := ?vaoPa_7) rfl (by kernel_rfl) (by kernel_rfl) (by kernel_rfl) (fun _ _ _ h => h) (Or.inl ⟨by rfl, ?yaoPa_7⟩) (by assumption) ?raoPa_7
  case yaoPa_7 => (intro w hSw; (try dsimp only at hSw); unfold oPa_7; go_simp; try with_reducible rfl)
  simp only [oPa_7, Act.put, List.setIfInBounds_toArray, List.set_cons_zero, List.set_cons_succ]
  refine wpAnyH_ready (rs := [3]) (by kernel_rfl) (by simp) ?_
  refine AllReadyH.cons (o := oPa_3) rfl (fun K hK => ?_) ?_
  · clear hHeld
    unfold oPa_3
    go_simp
    go_at_call 62
    refine (ca.out _).mono ?_
    rintro e wpa1 ⟨rfl, b8⟩
    replace x := Lib.hid (x.out.below b8)
    clear b8
    dsimp only
    refine hK.out _ _ ?hSaoPa_8 (fun hHeld => ?_)
    case hSaoPa_8 => ((try dsimp only); exact (hS.out _ x.out))
    clear hK K
    try simp only [Act.put, List.setIfInBounds_toArray, List.set_cons_zero, List.set_cons_succ]
    refine wpAnyH_ready (rs := [8]) (by kernel_rfl) (by simp) ?_
    refine AllReadyH.cons (o := oPa_8) rfl (fun K hK => ?_) ?_
    · clear hHeld
      unfold oPa_8
      go_simp
      go_at_call 62
      refine (cb.out _).mono ?_
      rintro e wpa2 ⟨rfl, b8⟩
      replace x := Lib.hid (x.out.below b8)
      clear b8
      dsimp only
      refine hK.out _ _ ?hSaoPa_9 (fun hHeld => ?_)
      case hSaoPa_9 => ((try dsimp only); exact (hS.out _ x.out))
      clear hK K
      try simp only [Act.put, List.setIfInBounds_toArray, List.set_cons_zero, List.set_cons_succ]
      refine wpAnyH_take (i := 9) (oi := oPa_9) (v := ?vaoPa_10) rfl (by kernel_rfl) (by kernel_rfl) (by kernel_rfl) (fun _ _ _ h => h) (Or.inl ⟨by rfl, ?yaoPa_10⟩) (by assumption) ?raoPa_10
      case yaoPa_10 => (intro w hSw; (try dsimp only at hSw); unfold oPa_9; go_simp; try with_reducible rfl)
      simp only [oPa_9, Act.put, List.setIfInBounds_toArray, List.set_cons_zero, List.set_cons_succ]
      refine wpAnyH_take (i := 10) (oi := oPa_10) (v := ?vaoPa_11) rfl (by kernel_rfl) (by kernel_rfl) (by kernel_rfl) (fun _ _ _ h => h) (Or.inl ⟨by rfl, ?yaoPa_11⟩) (by assumption) ?raoPa_11
      case yaoPa_11 => (intro w hSw; (try dsimp only at hSw); unfold oPa_10; go_simp; try with_reducible rfl)
      simp only [oPa_10, Act.put, List.setIfInBounds_toArray, List.set_cons_zero, List.set_cons_succ]
      refine wpAnyH_done (by kernel_rfl) ?_ _
      refine NoPanic.normal ?_
      clear hHeld
      clear hS ca cb hw0 hw1
      have hT0 : (U0 ++ U1).size ≤ 20 := by rw [size_append']; omega
      have hF0 : Hid ((U0 ++ U1) ++ seatsB l = F) := hF
      generalize U0 ++ U1 = T0 at *
      clear hF y01
      go_wp2_with fail
      go_loopw [3, 4] (fun vs vi wr => ∃ (i : Nat) (T : ByteArray), vs = .string T ∧ vi = .int .i64 i ∧ (i : Int) ≤ l.length ∧ Hid (T ++ seatsB (l.drop i) = F) ∧ T.size ≤ 20 + 21 * i ∧ Hid (Bx1 w e0 p l.length cap wr)) (fun _ vi _ => ((l.length : Int) - intOf vi).toNat)
      case atStart => exact ⟨0, T0, rfl, rfl, by omega, by rw [List.drop_zero]; exact hF0, by omega, x⟩
      case round =>
        obtain ⟨i, T, rfl, rfl, hi, hs, hTs, x5⟩ := hrel
        clear x
        have y1 := x5.out.c1
        by_cases hlt : (i : Int) < l.length
        · have hil : i < l.length := by omega
          obtain ⟨b, off, rfl, c0, c1, c2⟩ := (t.out.below x5.out.b) i hil
          obtain ⟨m0, m1, m2, m3⟩ := may_of (hmay.out l[i] (List.getElem_mem hil))
          have hs1 : Hid (T ++ (seatB l[i] ++ seatsB (l.drop (i + 1))) = F) := by
            have h1 := hs.out
            rw [List.drop_eq_getElem_cons hil] at h1
            exact h1
          generalize l[i] = s at *
          obtain ⟨⟨s0, s1⟩, s2⟩ := s
          simp only at c0 c1 c2 m0 m1 m2 m3
          have cn := refU (n := s0) m0 (by omega)
          have cl := refU (n := s1) (by omega) (by omega)
          have zn := encU_size (n := s0.toNat) (by omega)
          have zl := encU_size (n := s1.toNat) (by omega)
          have hs2 : Hid (T ++ ((encB s0.toNat ++ encB s1.toNat ++ flagB s2) ++ seatsB (l.drop (i + 1))) = F) := hs1.out
          have hwn : IntKind.u64.wrap s0 = s0 := by rw [IntKind.wrap_u64]; omega
          have hwl : IntKind.u64.wrap s1 = s1 := by rw [IntKind.wrap_u64]; omega
          generalize encB s0.toNat = Un at *
          generalize encB s1.toNat = Ul at *
          have yn : ¬ 9223372036854775807 < Un.size + Ul.size := by omega
          have yl : ¬ 9223372036854775807 < T.size + (Un.size + Ul.size) := by omega
          have kx := Lib.hid (Blk.new wr #[.int .i64 s0, .int .i64 s1, .bool s2] 70)
          have x := Lib.hid (x5.out.below ((Below.refl _ _).alloc (Nat.le_refl _) (.cells #[.int .i64 s0, .int .i64 s1, .bool s2] 70)))
          replace cn := Lib.hid cn
          replace cl := Lib.hid cl
          clear x5 hs hs1
          go_upto_region 6 with fail
          clear c0 c1 c2 y1
          generalize wr.alloc _ = w5 at *
          generalize wr.heap.size = xq at *
          have hS2 : Hid (∀ W, Bx1 w e0 (some ⟨b, off, none⟩) l.length cap W → Blk W xq #[.int .i64 s0, .int .i64 s1, .bool s2] 70 → W.cell? ⟨xq, 0, none⟩ = some (.int .i64 s0) ∧ W.cell? ⟨xq, 1, none⟩ = some (.int .i64 s1)) := fun W _ h => ⟨h.cell 0, h.cell 1⟩
          replace x := Lib.hid (x.out.below (Below.refl _ _).drew)
          replace kx := Lib.hid (kx.out.below (Below.refl _ _).drew)
          refine wp_region_noPanic ?_
          refine wp_region_held_drew (S := (fun W => W.cell? ⟨xq, 0, none⟩ = some (.int .i64 s0) ∧ W.cell? ⟨xq, 1, none⟩ = some (.int .i64 s1))) (by kernel_rfl) ?hSboPb_0 (fun hHeld => ?_)
          case hSboPb_0 => ((try dsimp only); exact (hS2.out _ x.out kx.out))
          generalize w5.drew = wE at *
          refine wpAnyH_take (i := 0) (oi := oPb_0) (v := ?vboPb_1) rfl (by kernel_rfl) (by kernel_rfl) (by kernel_rfl) (fun _ _ _ h => h) (Or.inl ⟨by rfl, ?yboPb_1⟩) (by assumption) ?rboPb_1
          case yboPb_1 => (intro w hSw; (try dsimp only at hSw); unfold oPb_0; go_simp; try with_reducible rfl)
          simp only [oPb_0, Act.put, List.setIfInBounds_toArray, List.set_cons_zero, List.set_cons_succ]
          refine wpAnyH_take (i := 1) (oi := oPb_1) (v := ?vboPb_2) rfl (by kernel_rfl) (by kernel_rfl) (by kernel_rfl) (fun _ _ _ h => h) (Or.inl ⟨by rfl, ?yboPb_2⟩) (by assumption) ?rboPb_2
          case yboPb_2 => (intro w hSw; (try dsimp only at hSw); unfold oPb_1; go_simp; try with_reducible rfl)
          simp only [oPb_1, Act.put, List.setIfInBounds_toArray, List.set_cons_zero, List.set_cons_succ]
          refine wpAnyH_take (i := 6) (oi := oPb_6) (v := ?vboPb_3) rfl (by kernel_rfl) (by kernel_rfl) (by kernel_rfl) (fun _ _ _ h => h) (Or.inl ⟨by rfl, ?yboPb_3⟩) (by assumption) ?rboPb_3
          case yboPb_3 => (intro w hSw; (try dsimp only at hSw); unfold oPb_6; go_simp; try with_reducible rfl)
          simp only [oPb_6, Act.put, List.setIfInBounds_toArray, List.set_cons_zero, List.set_cons_succ]
          refine wpAnyH_take (i := 2) (oi := oPb_2) (v := ?vboPb_4) rfl (by kernel_rfl) (by kernel_rfl) (by kernel_rfl) (fun _ _ _ h => h) (Or.inl ⟨by rfl, ?yboPb_4⟩) (by assumption) ?rboPb_4
          case yboPb_4 => (intro w hSw; (try dsimp only at hSw); unfold oPb_2; go_simp; try with_reducible rfl)
          simp only [oPb_2, Act.put, List.setIfInBounds_toArray, List.set_cons_zero, List.set_cons_succ]
          refine wpAnyH_take (i := 7) (oi := oPb_7) (v := ?vboPb_5) rfl (by kernel_rfl) (by kernel_rfl) (by kernel_rfl) (fun _ _ _ h => h) (Or.inl ⟨by rfl, ?yboPb_5⟩) (by assumption) ?rboPb_5
          case yboPb_5 => (intro w hSw; (try dsimp only at hSw); unfold oPb_7; go_simp; try with_reducible rfl)
          simp only [oPb_7, Act.put, List.setIfInBounds_toArray, List.set_cons_zero, List.set_cons_succ]
          refine wpAnyH_take (i := 3) (oi := oPb_3) (v := ?vboPb_6) rfl (by kernel_rfl) (by kernel_rfl) (by kernel_rfl) (fun _ _ _ h => h) (Or.inl ⟨by rfl, ?yboPb_6⟩) (by assumption) ?rboPb_6
          case yboPb_6 => (intro w hSw; (try dsimp only at hSw); unfold oPb_3; go_simp; try with_reducible rfl)
          simp only [oPb_3, Act.put, List.setIfInBounds_toArray, List.set_cons_zero, List.set_cons_succ]
          refine wpAnyH_take (i := 8) (oi := oPb_8) (v := ?vboPb_7) rfl (by kernel_rfl) (by kernel_rfl) (by kernel_rfl) (fun _ _ _ h => h) (Or.inl ⟨by rfl, ?yboPb_7⟩) (by assumption) ?rboPb_7
          case yboPb_7 => (intro w hSw; (try dsimp only at hSw); unfold oPb_8; go_simp; try with_reducible rfl)
          simp only [oPb_8, Act.put, List.setIfInBounds_toArray, List.set_cons_zero, List.set_cons_succ]
          refine wpAnyH_take (i := 4) (oi := oPb_4) (v := ?vboPb_8) rfl (by kernel_rfl) (by kernel_rfl) (by kernel_rfl) (fun _ _ _ h => h) (Or.inl ⟨by rfl, ?yboPb_8⟩) (by assumption) ?rboPb_8
          case yboPb_8 => (intro w hSw; (try dsimp only at hSw); unfold oPb_4; go_simp; try with_reducible rfl)
          simp only [oPb_4, Act.put, List.setIfInBounds_toArray, List.set_cons_zero, List.set_cons_succ]
          refine wpAnyH_take (i := 9) (oi := oPb_9) (v := ?vboPb_9) rfl (by kernel_rfl) (by kernel_rfl) (by kernel_rfl) (fun _ _ _ h => h) (Or.inl ⟨by rfl, ?yboPb_9⟩) (by assumption) ?rboPb_9
          case yboPb_9 => (intro w hSw; (try dsimp only at hSw); unfold oPb_9; go_simp; try with_reducible rfl)
          simp only [oPb_9, Act.put, List.setIfInBounds_toArray, List.set_cons_zero, List.set_cons_succ]
          refine wpAnyH_ready (rs := [5]) (by kernel_rfl) (by simp) ?_
          refine AllReadyH.cons (o := oPb_5) rfl (fun K hK => ?_) ?_
          · clear hHeld
            unfold oPb_5
            go_simp
            go_at_call 62
            refine (cn.out _).mono ?_
            rintro e wpb1 ⟨rfl, b8⟩
            replace x := Lib.hid (x.out.below b8)
            replace kx := Lib.hid (kx.out.below b8)
            clear b8
            dsimp only
            refine hK.out _ _ ?hSboPb_10 (fun hHeld => ?_)
            case hSboPb_10 => ((try dsimp only); exact (hS2.out _ x.out kx.out))
            clear hK K
            try simp only [Act.put, List.setIfInBounds_toArray, List.set_cons_zero, List.set_cons_succ]
            refine wpAnyH_ready (rs := [10]) (by kernel_rfl) (by simp) ?_
            refine AllReadyH.cons (o := oPb_10) rfl (fun K hK => ?_) ?_
            · clear hHeld
              unfold oPb_10
              go_simp
              go_at_call 62
              refine (cl.out _).mono ?_
              rintro e wpb2 ⟨rfl, b8⟩
              replace x := Lib.hid (x.out.below b8)
              replace kx := Lib.hid (kx.out.below b8)
              clear b8
              dsimp only
              refine hK.out _ _ ?hSboPb_11 (fun hHeld => ?_)
              case hSboPb_11 => ((try dsimp only); exact (hS2.out _ x.out kx.out))
              clear hK K
              try simp only [Act.put, List.setIfInBounds_toArray, List.set_cons_zero, List.set_cons_succ]
              refine wpAnyH_take (i := 11) (oi := oPb_11) (v := ?vboPb_12) rfl (by kernel_rfl) (by kernel_rfl) (by kernel_rfl) (fun _ _ _ h => h) (Or.inl ⟨by rfl, ?yboPb_12⟩) (by assumption) ?rboPb_12
              case yboPb_12 => (intro w hSw; (try dsimp only at hSw); unfold oPb_11; go_simp; try with_reducible rfl)
              simp only [oPb_11, Act.put, List.setIfInBounds_toArray, List.set_cons_zero, List.set_cons_succ]
              refine wpAnyH_take (i := 12) (oi := oPb_12) (v := ?vboPb_13) rfl (by kernel_rfl) (by kernel_rfl) (by kernel_rfl) (fun _ _ _ h => h) (Or.inl ⟨by rfl, ?yboPb_13⟩) (by assumption) ?rboPb_13
              case yboPb_13 => (intro w hSw; (try dsimp only at hSw); unfold oPb_12; go_simp; try with_reducible rfl)
              simp only [oPb_12, Act.put, List.setIfInBounds_toArray, List.set_cons_zero, List.set_cons_succ]
              refine wpAnyH_take (i := 13) (oi := oPb_13) (v := ?vboPb_14) rfl (by kernel_rfl) (by kernel_rfl) (by kernel_rfl) (fun _ _ _ h => h) (Or.inl ⟨by rfl, ?yboPb_14⟩) (by assumption) ?rboPb_14
              case yboPb_14 => (intro w hSw; (try dsimp only at hSw); unfold oPb_13; go_simp; try with_reducible rfl)
              simp only [oPb_13, Act.put, List.setIfInBounds_toArray, List.set_cons_zero, List.set_cons_succ]
              refine wpAnyH_done (by kernel_rfl) ?_ _
              refine NoPanic.normal ?_
              clear hHeld
              clear hS2 cn cl
              have u2 := kx.out.cell 2
              try dsimp only at u2
              have hT2 : (T ++ (Un ++ Ul)).size ≤ T.size + 20 := by rw [size_append', size_append']; omega
              have hs3 : Hid (∀ f, f = flagB s2 → (T ++ (Un ++ Ul)) ++ f ++ seatsB (l.drop (i + 1)) = F) := fun f hf => by
                rw [hf, ← hs2.out]
                simp only [app_assoc]
              generalize T ++ (Un ++ Ul) = T2 at *
              clear yn yl
              have yf : ¬ 9223372036854775807 < T2.size + 1 := by omega
              cases s2 with
              | true =>
                have hs4 : Hid ((T2 ++ ⟨#[1]⟩) ++ seatsB (l.drop (i + 1)) = F) := hs3.out _ rfl
                have hT3 : (T2 ++ (⟨#[1]⟩ : ByteArray)).size ≤ 20 + 21 * (i + 1) := by rw [size_append']; show T2.size + 1 ≤ _; omega
                clear hs3 hs2
                go_wp2_with fail
                exact ⟨⟨i + 1, _, rfl, by go_num, by omega, hs4, hT3, x⟩, by simp [intOf]; omega⟩
              | false =>
                have hs4 : Hid ((T2 ++ ⟨#[0]⟩) ++ seatsB (l.drop (i + 1)) = F) := hs3.out _ rfl
                have hT3 : (T2 ++ (⟨#[0]⟩ : ByteArray)).size ≤ 20 + 21 * (i + 1) := by rw [size_append']; show T2.size + 1 ≤ _; omega
                clear hs3 hs2
                go_wp2_with fail
                exact ⟨⟨i + 1, _, rfl, by go_num, by omega, hs4, hT3, x⟩, by simp [intOf]; omega⟩
            exact AllReadyH.nil
          exact AllReadyH.nil
        · have hin : i = l.length := by omega
          have hTF : Hid (T = F) := by
            have h1 := hs.out
            rw [hin, List.drop_length] at h1
            show _ = _
            rw [← h1]
            exact (app_none' T).symm
          go_wp2_with fail
          go_ret
          rw [hTF.out]
          exact ⟨rfl, x5.out.b⟩
    exact AllReadyH.nil
  exact AllReadyH.nil
end Go.Proofs.Ytnagidgffkffhaa.G
