/-
  Layer 11: config's Join and Synced. Condition: chains of at most 2^62 seats.
-/
import Derived.Test.YtnagidgffkffhaaGTurn
set_option linter.unusedVariables false
set_option linter.unusedSimpArgs false
namespace Go.Proofs.Ytnagidgffkffhaa.G
open Go.RowKit Cfg
set_option maxRecDepth 100000
abbrev opJ_0 : Oper := { dst := some 20, op := Go.Op.fieldAddr 24 (Go.Operand.tmp 2) 0, type := 0, pos := "change.go:41", after := #[], guard := none }
abbrev opJ_1 : Oper := { dst := some 21, op := Go.Op.load 3 (Go.Operand.tmp 20), type := 3, pos := "change.go:41", after := #[{ on := 0, ground := Go.Ground.data }], guard := none }
abbrev opJ_2 : Oper := { dst := some 22, op := Go.Op.fieldAddr 24 (Go.Operand.tmp 2) 1, type := 0, pos := "change.go:41", after := #[], guard := none }
abbrev opJ_3 : Oper := { dst := some 23, op := Go.Op.load 22 (Go.Operand.tmp 22), type := 22, pos := "change.go:41", after := #[{ on := 2, ground := Go.Ground.data }], guard := none }
abbrev opJ_4 : Oper := { dst := some 24, op := Go.Op.call { callee := Go.Callee.value (Go.Operand.func 50), args := #[Go.Operand.tmp 23], argTypes := #[22] }, type := 22, pos := "change.go:41", after := #[{ on := 3, ground := Go.Ground.data }], guard := none }
abbrev opJ_5 : Oper := { dst := some 25, op := Go.Op.load 26 (Go.Operand.tmp 3), type := 26, pos := "change.go:41", after := #[], guard := none }
abbrev opJ_6 : Oper := { dst := some 26, op := Go.Op.build 70 #[(0, Go.Operand.tmp 25)], type := 70, pos := "change.go:41", after := #[{ on := 5, ground := Go.Ground.data }], guard := none }
abbrev opJ_7 : Oper := { dst := some 27, op := Go.Op.buildSlice 22 1 #[(0, Go.Operand.tmp 26)], type := 22, pos := "change.go:41", after := #[{ on := 6, ground := Go.Ground.data }], guard := none }
abbrev opJ_8 : Oper := { dst := some 28, op := Go.Op.call { callee := Go.Callee.builtin Go.Builtin.append, args := #[Go.Operand.tmp 24, Go.Operand.tmp 27], argTypes := #[22, 22] }, type := 22, pos := "change.go:41", after := #[{ on := 4, ground := Go.Ground.data }, { on := 7, ground := Go.Ground.data }, { on := 4, ground := Go.Ground.chain }], guard := none }
abbrev opJ_9 : Oper := { dst := some 29, op := Go.Op.call { callee := Go.Callee.value (Go.Operand.func 49), args := #[Go.Operand.tmp 21, Go.Operand.tmp 28], argTypes := #[3, 22] }, type := 30, pos := "change.go:41", after := #[{ on := 1, ground := Go.Ground.data }, { on := 8, ground := Go.Ground.data }, { on := 8, ground := Go.Ground.chain }], guard := none }
abbrev opJ_10 : Oper := { dst := some 30, op := Go.Op.extract (Go.Operand.tmp 29) 0, type := 24, pos := "change.go:41", after := #[{ on := 9, ground := Go.Ground.data }], guard := none }
abbrev opJ_11 : Oper := { dst := some 31, op := Go.Op.extract (Go.Operand.tmp 29) 1, type := 29, pos := "change.go:41", after := #[{ on := 9, ground := Go.Ground.data }], guard := none }
abbrev opJ_12 : Oper := { dst := none, op := Go.Op.store 24 (Go.Operand.tmp 4) (Go.Operand.tmp 30), type := 0, pos := "change.go:41", after := #[{ on := 10, ground := Go.Ground.data }, { on := 9, ground := Go.Ground.chain }, { on := 0, ground := Go.Ground.phase }, { on := 1, ground := Go.Ground.phase }, { on := 2, ground := Go.Ground.phase }, { on := 3, ground := Go.Ground.phase }, { on := 4, ground := Go.Ground.phase }, { on := 5, ground := Go.Ground.phase }, { on := 6, ground := Go.Ground.phase }, { on := 7, ground := Go.Ground.phase }, { on := 8, ground := Go.Ground.phase }, { on := 9, ground := Go.Ground.phase }, { on := 10, ground := Go.Ground.phase }, { on := 11, ground := Go.Ground.phase }], guard := none }
abbrev opJ_13 : Oper := { dst := some 5, op := Go.Op.assign (Go.Operand.tmp 31), type := 29, pos := "change.go:41", after := #[{ on := 11, ground := Go.Ground.data }, { on := 12, ground := Go.Ground.chain }, { on := 0, ground := Go.Ground.phase }, { on := 1, ground := Go.Ground.phase }, { on := 2, ground := Go.Ground.phase }, { on := 3, ground := Go.Ground.phase }, { on := 4, ground := Go.Ground.phase }, { on := 5, ground := Go.Ground.phase }, { on := 6, ground := Go.Ground.phase }, { on := 7, ground := Go.Ground.phase }, { on := 8, ground := Go.Ground.phase }, { on := 9, ground := Go.Ground.phase }, { on := 10, ground := Go.Ground.phase }, { on := 11, ground := Go.Ground.phase }, { on := 12, ground := Go.Ground.phase }], guard := none }

theorem step_append_st {P : Program} {ops : Array Oper} {o : Oper} {a : Act} {w : World} {K : Act → World → Prop} {Q : Exit → Act → World → Prop} {E : Prop}
    (hg : o.guard = none) (d x : Operand) (dT sT : TypeId) (hop : o.op = Op.call { callee := Callee.builtin Builtin.append, args := #[d, x], argTypes := #[dT, sT] })
    (v u : Value) (hd : a.eval d = v) (hx : a.eval x = u) {v' : Value} {w' : World} (hr : (Builtin.append_ #[dT, sT] o.type #[v, u]).run P w = .ok v' w') (hK : K (a.put o.dst v') w') :
    if Region.wanted o (yielded ops a.tmps) = true then Oper.wp P o a w K Q else E := by
  have hw : Region.wanted o (yielded ops a.tmps) = true := by simp [Region.wanted, hg]
  rw [if_pos hw]
  unfold Oper.wp
  simp [execOp, hop, resolve, invoke, builtin, hd, hx, hr, Result.andThen]
  exact hK

set_option maxHeartbeats 8000000 in
theorem join_any (c : CfN) (p : Option Addr) (cap : Nat) (m : MbN) (w : World) (t : Chn w p c.l) (hcap : c.l.length ≤ cap) (hl : c.l.length ≤ 4611686018427387904) :
    Calls Try.prog 27 #[cfV c p cap, mbV m] w fun e w' => AnsC (joinN c m) w e w' := by
  have x := Lib.hid (By.new w c.epoch p c.l.length cap m.node m.life)
  have hR := Lib.hid (right_any c p cap _ (t.below x.out.b) hcap hl)
  have t2 := Lib.hid (t.below x.out.b)
  have hri : Hid (rightN c = true → RightP c) := fun h => right_iff.1 h
  obtain ⟨A, hA⟩ : ∃ A, joinN c m = A := ⟨_, rfl⟩
  rw [hA]
  have hA0 : Hid (rightN c = false → A = (zeroN, 3)) := fun h => by rw [← hA]; unfold joinN; rw [if_pos h]
  have hA1 : Hid (rightN c = true → mayN m = false → A = (zeroN, 1)) := fun h h1 => by rw [← hA]; unfold joinN; rw [if_neg (by rw [h]; decide), if_pos h1]
  have hA2 : Hid (rightN c = true → mayN m = true → sitsN c.l m.node = true → A = (zeroN, 11)) := fun h h1 h2 => by rw [← hA]; unfold joinN; rw [if_neg (by rw [h]; decide), if_neg (by rw [h1]; decide), if_pos h2]
  have hA3 : Hid (rightN c = true → mayN m = true → sitsN c.l m.node = false → A = laterN c.epoch (c.l ++ [⟨m, false⟩])) := fun h h1 h2 => by rw [← hA]; unfold joinN; rw [if_neg (by rw [h]; decide), if_neg (by rw [h1]; decide), if_neg (by rw [h2]; decide)]
  clear hA
  generalize rightN c = r at *
  obtain ⟨e0, l⟩ := c
  obtain ⟨m0, m1⟩ := m
  try dsimp only at hA1 hA2 hA3
  have y0 := x.out.c0
  have y1 := x.out.c1
  have y2 := x.out.d0
  have y3 := x.out.d1
  try dsimp only at y0 y1 y2 y3
  have hmb := fun W => Lib.hid (mayBe_any ⟨m0, m1⟩ W)
  have hst := fun W tW => Lib.hid (sits_any p cap l m0 W tW (by have : l.length ≤ 4611686018427387904 := hl; omega))
  generalize mayN ⟨m0, m1⟩ = rm at *
  generalize sitsN l m0 = rs at *
  replace hmb := Lib.hid hmb
  replace hst := Lib.hid hst
  replace t := Lib.hid t
  replace hl := Lib.hid hl
  replace hcap := Lib.hid hcap
  go_enter Try.func27, Try.ntmps27
  go_wp2_with fail
  refine hR.out.mono ?_
  rintro e w2 ⟨rfl, b2⟩
  have x2 := Lib.hid (x.out.below b2)
  have t3 := Lib.hid (t2.out.below b2)
  try dsimp only at x2 t3
  clear b2 x t2 y0 y1 y2 y3 hR
  cases r with
  | false =>
    have hans := Lib.hid (hA0.out rfl)
    have z0 := x2.out.z.cell 0
    have z1 := x2.out.z.cell 1
    have f0 := x2.out.z.fz 0
    have f1 := x2.out.z.fz 1
    go_wp2_with fail
    refine bodyPost_ret (v := .tuple #[.agg #[.int .i64 0, .slice none 0 0], .int .i64 3]) ?_ rfl ?_
    · rw [results_cell_tmp rfl]
      go_simp
    · rw [hans.out]
      exact AnsC.zero (bset (bset x2.out.b (by omega)) (by omega))
  | true =>
    have hri2 := hri.out rfl
    have hn8 : l.length ≤ 8 := hri2.n2
    have hn1 : 1 ≤ l.length := hri2.n1
    have hl8 : l.length ≤ 1000 := by omega
    have he1 : 1 ≤ e0 := hri2.e1
    replace hri2 := Lib.hid hri2
    clear hri hA0
    have y2 := x2.out.d0
    have y3 := x2.out.d1
    have hmx := hmb.out w2
    go_wp2_with fail
    refine hmx.out.mono ?_
    rintro e w3 ⟨rfl, b3⟩
    have x3 := Lib.hid (x2.out.below b3)
    have t4 := Lib.hid (t3.out.below b3)
    clear b3 hmx y2 y3 x2 t3
    cases rm with
    | false =>
      have hans := Lib.hid (hA1.out (by first | rfl | trivial) (by first | rfl | trivial))
      have z0 := x3.out.z.cell 0
      have z1 := x3.out.z.cell 1
      have f0 := x3.out.z.fz 0
      have f1 := x3.out.z.fz 1
      go_wp2_with fail
      refine bodyPost_ret (v := .tuple #[.agg #[.int .i64 0, .slice none 0 0], .int .i64 1]) ?_ rfl ?_
      · rw [results_cell_tmp rfl]
        go_simp
      · rw [hans.out]
        exact AnsC.zero (bset (bset x3.out.b (by omega)) (by omega))
    | true =>
    have y1 := x3.out.c1
    have y2 := x3.out.d0
    have hsx := hst.out w3 t4.out
    go_wp2_with fail
    refine hsx.out.mono ?_
    rintro e w4 ⟨rfl, b4⟩
    have x4 := Lib.hid (x3.out.below b4)
    have t5 := Lib.hid (t4.out.below b4)
    clear b4 hsx y1 y2 x3 t4
    cases rs with
    | true =>
      have hans := Lib.hid (hA2.out (by first | rfl | trivial) (by first | rfl | trivial) (by first | rfl | trivial))
      have z0 := x4.out.z.cell 0
      have z1 := x4.out.z.cell 1
      have f0 := x4.out.z.fz 0
      have f1 := x4.out.z.fz 1
      go_wp2_with fail
      refine bodyPost_ret (v := .tuple #[.agg #[.int .i64 0, .slice none 0 0], .int .i64 11]) ?_ rfl ?_
      · rw [results_cell_tmp rfl]
        go_simp
      · rw [hans.out]
        exact AnsC.zero (bset (bset x4.out.b (by omega)) (by omega))
    | false =>
      have hans := Lib.hid (hA3.out (by first | rfl | trivial) (by first | rfl | trivial) (by first | rfl | trivial))
      clear hA1 hA2 hA3
      obtain ⟨b, off, rfl, -, -, -⟩ := t5.out 0 (by omega)
      have hcl : Hid (∀ W, Chn W (some ⟨b, off, none⟩) l → Calls Try.prog 50 #[.slice (some ⟨b, off, none⟩) l.length cap] W fun e w' => (∃ v, e = .returned v ∧ SOwn W.heap.size v l w') ∧ Below W.heap.size W w') := fun W tW => clone_any b off cap l W tW hl8
      have hla := Lib.hid (fun pq nq cq W => later_any e0 pq nq cq W he1)
      have hps : Hid (∀ (v : Value) (W : World) (base vb : Nat), SOwn base v l W → base ≤ W.heap.size → Blk W vb #[.int .i64 m0, .int .i64 m1, .bool false] 70 → ∃ v' w', (Builtin.append_ #[22, 22] 22 #[v, .slice (some ⟨vb, 0, none⟩) 1 1]).run Try.prog W = .ok v' w' ∧ SOwn base v' (l ++ [⟨⟨m0, m1⟩, false⟩]) w' ∧ Below base W w' ∧ W.grownBy w' v.ownBlock) := fun v W base vb o hb k => push_seat o hl8 hb ⟨⟨m0, m1⟩, false⟩ k
      generalize l ++ [(⟨⟨m0, m1⟩, false⟩ : StN)] = L at *
      go_upto_region 7 with fail
      have xD := Lib.hid (x4.out.below (Below.refl _ _).drew)
      have tD := Lib.hid (t5.out.below (Below.refl _ _).drew)
      have hS : Hid (∀ W, By w e0 (some ⟨b, off, none⟩) l.length cap m0 m1 W → W.cell? ⟨w.heap.size, 0, none⟩ = some (.int .i64 e0) ∧ W.cell? ⟨w.heap.size, 1, none⟩ = some (.slice (some ⟨b, off, none⟩) l.length cap) ∧ W.cell? ⟨w.heap.size + 1, 0, none⟩ = some (.int .i64 m0) ∧ W.cell? ⟨w.heap.size + 1, 1, none⟩ = some (.int .i64 m1)) := fun W h => ⟨h.c0, h.c1, h.d0, h.d1⟩
      have hS2 : Hid (∀ (W : World) (u v : Value), By w e0 (some ⟨b, off, none⟩) l.length cap m0 m1 W → ((W.setCell ⟨w.heap.size + 1 + 1, 0, none⟩ u).setCell ⟨w.heap.size + 1 + 1, 1, none⟩ v).cell? ⟨w.heap.size, 0, none⟩ = some (.int .i64 e0) ∧ ((W.setCell ⟨w.heap.size + 1 + 1, 0, none⟩ u).setCell ⟨w.heap.size + 1 + 1, 1, none⟩ v).cell? ⟨w.heap.size, 1, none⟩ = some (.slice (some ⟨b, off, none⟩) l.length cap) ∧ ((W.setCell ⟨w.heap.size + 1 + 1, 0, none⟩ u).setCell ⟨w.heap.size + 1 + 1, 1, none⟩ v).cell? ⟨w.heap.size + 1, 0, none⟩ = some (.int .i64 m0) ∧ ((W.setCell ⟨w.heap.size + 1 + 1, 0, none⟩ u).setCell ⟨w.heap.size + 1 + 1, 1, none⟩ v).cell? ⟨w.heap.size + 1, 1, none⟩ = some (.int .i64 m1)) := fun W u v h => by
        have h1 : w.heap.size + 1 + 1 ≠ w.heap.size := by omega
        have h2 : w.heap.size + 1 + 1 ≠ w.heap.size + 1 := by omega
        refine ⟨?_, ?_, ?_, ?_⟩ <;> (rw [World.cell?_setCell_far _ _ _ _ (by first | exact h1 | exact h2), World.cell?_setCell_far _ _ _ _ (by first | exact h1 | exact h2)])
        · exact h.c0
        · exact h.c1
        · exact h.d0
        · exact h.d1
      have hcA := hS.out _ xD.out
      clear x4 t5
      refine wp_region_noPanic ?_
      refine wp_region_held_drew (S := (fun W => W.cell? ⟨w.heap.size, 0, none⟩ = some (.int .i64 e0) ∧ W.cell? ⟨w.heap.size, 1, none⟩ = some (.slice (some ⟨b, off, none⟩) l.length cap) ∧ W.cell? ⟨w.heap.size + 1, 0, none⟩ = some (.int .i64 m0) ∧ W.cell? ⟨w.heap.size + 1, 1, none⟩ = some (.int .i64 m1))) (by kernel_rfl) ?hSopJ_0 (fun hHeld => ?_)
      case hSopJ_0 => ((try dsimp only); exact hcA)
      refine wpAnyH_take (i := 0) (oi := opJ_0) (v := ?vopJ_1) rfl (by kernel_rfl) (by kernel_rfl) (by kernel_rfl) (fun _ _ _ h => h) (Or.inl ⟨by rfl, ?yopJ_1⟩) (by assumption) ?ropJ_1
      case yopJ_1 => (intro w hSw; (try dsimp only at hSw); unfold opJ_0; go_simp; try with_reducible rfl)
      simp only [opJ_0, Act.put, List.setIfInBounds_toArray, List.set_cons_zero, List.set_cons_succ]
      refine wpAnyH_take (i := 2) (oi := opJ_2) (v := ?vopJ_2) rfl (by kernel_rfl) (by kernel_rfl) (by kernel_rfl) (fun _ _ _ h => h) (Or.inl ⟨by rfl, ?yopJ_2⟩) (by assumption) ?ropJ_2
      case yopJ_2 => (intro w hSw; (try dsimp only at hSw); unfold opJ_2; go_simp; try with_reducible rfl)
      simp only [opJ_2, Act.put, List.setIfInBounds_toArray, List.set_cons_zero, List.set_cons_succ]
      refine wpAnyH_take (i := 5) (oi := opJ_5) (v := ?vopJ_3) rfl (by kernel_rfl) (by kernel_rfl) (by kernel_rfl) (fun _ _ _ h => h) (Or.inl ⟨by rfl, ?yopJ_3⟩) (by assumption) ?ropJ_3
      case yopJ_3 => (intro w hSw; (try dsimp only at hSw); unfold opJ_5; go_simp; try with_reducible rfl)
      simp only [opJ_5, Act.put, List.setIfInBounds_toArray, List.set_cons_zero, List.set_cons_succ]
      refine wpAnyH_take (i := 1) (oi := opJ_1) (v := ?vopJ_4) rfl (by kernel_rfl) (by kernel_rfl) (by kernel_rfl) (fun _ _ _ h => h) (Or.inl ⟨by rfl, ?yopJ_4⟩) (by assumption) ?ropJ_4
      case yopJ_4 => (intro w hSw; (try dsimp only at hSw); unfold opJ_1; go_simp; try with_reducible rfl)
      simp only [opJ_1, Act.put, List.setIfInBounds_toArray, List.set_cons_zero, List.set_cons_succ]
      refine wpAnyH_take (i := 3) (oi := opJ_3) (v := ?vopJ_5) rfl (by kernel_rfl) (by kernel_rfl) (by kernel_rfl) (fun _ _ _ h => h) (Or.inl ⟨by rfl, ?yopJ_5⟩) (by assumption) ?ropJ_5
      case yopJ_5 => (intro w hSw; (try dsimp only at hSw); unfold opJ_3; go_simp; try with_reducible rfl)
      simp only [opJ_3, Act.put, List.setIfInBounds_toArray, List.set_cons_zero, List.set_cons_succ]
      refine wpAnyH_take (i := 6) (oi := opJ_6) (v := ?vopJ_6) rfl (by kernel_rfl) (by kernel_rfl) (by kernel_rfl) (fun _ _ _ h => h) (Or.inl ⟨by rfl, ?yopJ_6⟩) (by assumption) ?ropJ_6
      case yopJ_6 => (intro w hSw; (try dsimp only at hSw); unfold opJ_6; go_simp; try with_reducible rfl)
      simp only [opJ_6, Act.put, List.setIfInBounds_toArray, List.set_cons_zero, List.set_cons_succ]
      refine wpAnyH_ready (rs := [4, 7]) (by kernel_rfl) (by simp) ?_
      refine AllReadyH.cons (o := opJ_4) rfl (fun K hK => ?_) ?_
      · clear hHeld
        unfold opJ_4
        go_simp
        go_at_call 50
        refine (hcl.out _ tD.out).mono ?_
        rintro e wa ⟨⟨va, rfl, oa⟩, ka⟩
        have xa := Lib.hid (xD.out.below ka)
        have bb := Lib.hid ka.size
        have bw := Lib.hid xD.out.b.size
        have hA := hS.out _ xa.out
        replace oa := Lib.hid oa
        clear ka
        dsimp only
        refine hK.out _ _ ?hSopJ_7 (fun hHeld => ?_)
        case hSopJ_7 => ((try dsimp only); exact hA)
        clear hK K
        try simp only [Act.put, List.setIfInBounds_toArray, List.set_cons_zero, List.set_cons_succ]
        refine wpAnyH_ready (rs := [7]) (by kernel_rfl) (by simp) ?_
        refine AllReadyH.cons (o := opJ_7) rfl (fun K hK => ?_) ?_
        · clear hHeld
          unfold opJ_7
          go_simp
          have kbb := (Below.refl wa.heap.size wa).alloc (Nat.le_refl _) (.cells #[.int .i64 m0, .int .i64 m1, .bool false] 70)
          have kc := Lib.hid (Blk.new wa #[.int .i64 m0, .int .i64 m1, .bool false] 70)
          have xc := Lib.hid (xa.out.below kbb)
          replace bb := Lib.hid (Nat.le_trans bb.out kbb.size)
          replace oa := Lib.hid (oa.out.below kbb)
          have hC := hS.out _ xc.out
          clear kbb
          refine hK.out _ _ ?hSopJ_8 (fun hHeld => ?_)
          case hSopJ_8 => ((try dsimp only); exact hC)
          clear hK K
          try simp only [Act.put, List.setIfInBounds_toArray, List.set_cons_zero, List.set_cons_succ]
          refine wpAnyH_ready (rs := [8]) (by kernel_rfl) (by simp) ?_
          refine AllReadyH.cons (o := opJ_8) rfl (fun K hK => ?_) ?_
          · clear hHeld
            unfold opJ_8
            obtain ⟨vn, wn, hrun, on, kn, gn⟩ := hps.out _ _ _ _ oa.out bb.out kc.out
            have xn := Lib.hid (xc.out.grownB gn oa.out bb.out bw.out)
            replace on := Lib.hid on
            clear kn gn
            obtain ⟨pn, cn, hvn, hcn, tn⟩ := on.out.chn
            subst hvn
            clear tn
            refine step_append_st (by rfl) _ _ 22 22 (by rfl) _ _ (by rfl) (by rfl) hrun ?_
            clear hrun
            have hN := hS.out _ xn.out
            refine hK.out _ _ ?hSopJ_9 (fun hHeld => ?_)
            case hSopJ_9 => ((try dsimp only); exact hN)
            clear hK K
            try simp only [Act.put, List.setIfInBounds_toArray, List.set_cons_zero, List.set_cons_succ]
            refine wpAnyH_ready (rs := [9]) (by kernel_rfl) (by simp) ?_
            refine AllReadyH.cons (o := opJ_9) rfl (fun K hK => ?_) ?_
            · clear hHeld
              unfold opJ_9
              go_simp
              go_at_call 49
              refine (hla.out pn L.length cn _).mono ?_
              rintro e wl ⟨⟨ee, pp, nn, cc, er, rfl, hlat⟩, kl⟩
              have xl := Lib.hid (xn.out.below kl)
              have ol := Lib.hid (on.out.below kl)
              replace hlat := Lib.hid hlat
              have hL := hS.out _ xl.out
              clear kl
              have z0 := xl.out.z.cell 0
              have z1 := xl.out.z.cell 1
              have f0 := xl.out.z.fz 0
              have f1 := xl.out.z.fz 1
              dsimp only
              refine hK.out _ _ ?hSopJ_10 (fun hHeld => ?_)
              case hSopJ_10 => ((try dsimp only); exact hL)
              clear hK K
              try simp only [Act.put, List.setIfInBounds_toArray, List.set_cons_zero, List.set_cons_succ]
              refine wpAnyH_take (i := 10) (oi := opJ_10) (v := ?vopJ_11) rfl (by kernel_rfl) (by kernel_rfl) (by kernel_rfl) (fun _ _ _ h => h) (Or.inl ⟨by rfl, ?yopJ_11⟩) (by assumption) ?ropJ_11
              case yopJ_11 => (intro w hSw; (try dsimp only at hSw); unfold opJ_10; go_simp; try with_reducible rfl)
              simp only [opJ_10, Act.put, List.setIfInBounds_toArray, List.set_cons_zero, List.set_cons_succ]
              refine wpAnyH_take (i := 11) (oi := opJ_11) (v := ?vopJ_12) rfl (by kernel_rfl) (by kernel_rfl) (by kernel_rfl) (fun _ _ _ h => h) (Or.inl ⟨by rfl, ?yopJ_12⟩) (by assumption) ?ropJ_12
              case yopJ_12 => (intro w hSw; (try dsimp only at hSw); unfold opJ_11; go_simp; try with_reducible rfl)
              simp only [opJ_11, Act.put, List.setIfInBounds_toArray, List.set_cons_zero, List.set_cons_succ]
              refine wpAnyH_ready (rs := [12]) (by kernel_rfl) (by simp) ?_
              refine AllReadyH.cons (o := opJ_12) rfl (fun K hK => ?_) ?_
              · clear hHeld
                unfold opJ_12
                have hM := hS2.out _ (.int .i64 ee) (.slice pp nn cc) xl.out
                go_simp
                refine hK.out _ _ ?hSopJ_13 (fun hHeld => ?_)
                case hSopJ_13 => ((try dsimp only); exact hM)
                clear hK K
                try simp only [Act.put, List.setIfInBounds_toArray, List.set_cons_zero, List.set_cons_succ]
                refine wpAnyH_take (i := 13) (oi := opJ_13) (v := ?vopJ_14) rfl (by kernel_rfl) (by kernel_rfl) (by kernel_rfl) (fun _ _ _ h => h) (Or.inl ⟨by rfl, ?yopJ_14⟩) (by assumption) ?ropJ_14
                case yopJ_14 => (intro w hSw; (try dsimp only at hSw); unfold opJ_13; go_simp; try with_reducible rfl)
                simp only [opJ_13, Act.put, List.setIfInBounds_toArray, List.set_cons_zero, List.set_cons_succ]
                refine wpAnyH_done (by kernel_rfl) ?_ _
                refine NoPanic.normal ?_
                clear hHeld
                go_wp2_with fail
                refine bodyPost_ret (v := .tuple #[.agg #[.int .i64 ee, .slice pp nn cc], .int .i64 er]) ?_ rfl ?_
                · rw [results_cell_tmp rfl]
                  go_simp
                · rw [hans.out]
                  exact hlat.out.ans ((ol.out.setz xl.out.z (by decide)).setz xl.out.z.set (by decide)).chn2.1 hcn (bset (bset xl.out.b (by omega)) (by omega))
              exact AllReadyH.nil
            exact AllReadyH.nil
          exact AllReadyH.nil
        exact AllReadyH.nil
      refine AllReadyH.cons (o := opJ_7) rfl (fun K hK => ?_) ?_
      · clear hHeld
        unfold opJ_7
        go_simp
        have kbb := (Below.refl w4.drew.heap.size w4.drew).alloc (Nat.le_refl _) (.cells #[.int .i64 m0, .int .i64 m1, .bool false] 70)
        have kb := Lib.hid (Blk.new w4.drew #[.int .i64 m0, .int .i64 m1, .bool false] 70)
        have xb := Lib.hid (xD.out.below kbb)
        have tb := Lib.hid (tD.out.below kbb)
        have hB := hS.out _ xb.out
        clear kbb
        refine hK.out _ _ ?hSopJ_15 (fun hHeld => ?_)
        case hSopJ_15 => ((try dsimp only); exact hB)
        clear hK K
        try simp only [Act.put, List.setIfInBounds_toArray, List.set_cons_zero, List.set_cons_succ]
        refine wpAnyH_ready (rs := [4]) (by kernel_rfl) (by simp) ?_
        refine AllReadyH.cons (o := opJ_4) rfl (fun K hK => ?_) ?_
        · clear hHeld
          unfold opJ_4
          go_simp
          go_at_call 50
          refine (hcl.out _ tb.out).mono ?_
          rintro e wa ⟨⟨va, rfl, oa⟩, ka⟩
          have xc := Lib.hid (xb.out.below ka)
          have bb := Lib.hid ka.size
          have bw := Lib.hid xb.out.b.size
          have kc := Lib.hid (kb.out.below ka)
          have hC := hS.out _ xc.out
          replace oa := Lib.hid oa
          clear ka
          dsimp only
          refine hK.out _ _ ?hSopJ_16 (fun hHeld => ?_)
          case hSopJ_16 => ((try dsimp only); exact hC)
          clear hK K
          try simp only [Act.put, List.setIfInBounds_toArray, List.set_cons_zero, List.set_cons_succ]
          refine wpAnyH_ready (rs := [8]) (by kernel_rfl) (by simp) ?_
          refine AllReadyH.cons (o := opJ_8) rfl (fun K hK => ?_) ?_
          · clear hHeld
            unfold opJ_8
            obtain ⟨vn, wn, hrun, on, kn, gn⟩ := hps.out _ _ _ _ oa.out bb.out kc.out
            have xn := Lib.hid (xc.out.grownB gn oa.out bb.out bw.out)
            replace on := Lib.hid on
            clear kn gn
            obtain ⟨pn, cn, hvn, hcn, tn⟩ := on.out.chn
            subst hvn
            clear tn
            refine step_append_st (by rfl) _ _ 22 22 (by rfl) _ _ (by rfl) (by rfl) hrun ?_
            clear hrun
            have hN := hS.out _ xn.out
            refine hK.out _ _ ?hSopJ_17 (fun hHeld => ?_)
            case hSopJ_17 => ((try dsimp only); exact hN)
            clear hK K
            try simp only [Act.put, List.setIfInBounds_toArray, List.set_cons_zero, List.set_cons_succ]
            refine wpAnyH_ready (rs := [9]) (by kernel_rfl) (by simp) ?_
            refine AllReadyH.cons (o := opJ_9) rfl (fun K hK => ?_) ?_
            · clear hHeld
              unfold opJ_9
              go_simp
              go_at_call 49
              refine (hla.out pn L.length cn _).mono ?_
              rintro e wl ⟨⟨ee, pp, nn, cc, er, rfl, hlat⟩, kl⟩
              have xl := Lib.hid (xn.out.below kl)
              have ol := Lib.hid (on.out.below kl)
              replace hlat := Lib.hid hlat
              have hL := hS.out _ xl.out
              clear kl
              have z0 := xl.out.z.cell 0
              have z1 := xl.out.z.cell 1
              have f0 := xl.out.z.fz 0
              have f1 := xl.out.z.fz 1
              dsimp only
              refine hK.out _ _ ?hSopJ_18 (fun hHeld => ?_)
              case hSopJ_18 => ((try dsimp only); exact hL)
              clear hK K
              try simp only [Act.put, List.setIfInBounds_toArray, List.set_cons_zero, List.set_cons_succ]
              refine wpAnyH_take (i := 10) (oi := opJ_10) (v := ?vopJ_19) rfl (by kernel_rfl) (by kernel_rfl) (by kernel_rfl) (fun _ _ _ h => h) (Or.inl ⟨by rfl, ?yopJ_19⟩) (by assumption) ?ropJ_19
              case yopJ_19 => (intro w hSw; (try dsimp only at hSw); unfold opJ_10; go_simp; try with_reducible rfl)
              simp only [opJ_10, Act.put, List.setIfInBounds_toArray, List.set_cons_zero, List.set_cons_succ]
              refine wpAnyH_take (i := 11) (oi := opJ_11) (v := ?vopJ_20) rfl (by kernel_rfl) (by kernel_rfl) (by kernel_rfl) (fun _ _ _ h => h) (Or.inl ⟨by rfl, ?yopJ_20⟩) (by assumption) ?ropJ_20
              case yopJ_20 => (intro w hSw; (try dsimp only at hSw); unfold opJ_11; go_simp; try with_reducible rfl)
              simp only [opJ_11, Act.put, List.setIfInBounds_toArray, List.set_cons_zero, List.set_cons_succ]
              refine wpAnyH_ready (rs := [12]) (by kernel_rfl) (by simp) ?_
              refine AllReadyH.cons (o := opJ_12) rfl (fun K hK => ?_) ?_
              · clear hHeld
                unfold opJ_12
                have hM := hS2.out _ (.int .i64 ee) (.slice pp nn cc) xl.out
                go_simp
                refine hK.out _ _ ?hSopJ_21 (fun hHeld => ?_)
                case hSopJ_21 => ((try dsimp only); exact hM)
                clear hK K
                try simp only [Act.put, List.setIfInBounds_toArray, List.set_cons_zero, List.set_cons_succ]
                refine wpAnyH_take (i := 13) (oi := opJ_13) (v := ?vopJ_22) rfl (by kernel_rfl) (by kernel_rfl) (by kernel_rfl) (fun _ _ _ h => h) (Or.inl ⟨by rfl, ?yopJ_22⟩) (by assumption) ?ropJ_22
                case yopJ_22 => (intro w hSw; (try dsimp only at hSw); unfold opJ_13; go_simp; try with_reducible rfl)
                simp only [opJ_13, Act.put, List.setIfInBounds_toArray, List.set_cons_zero, List.set_cons_succ]
                refine wpAnyH_done (by kernel_rfl) ?_ _
                refine NoPanic.normal ?_
                clear hHeld
                go_wp2_with fail
                refine bodyPost_ret (v := .tuple #[.agg #[.int .i64 ee, .slice pp nn cc], .int .i64 er]) ?_ rfl ?_
                · rw [results_cell_tmp rfl]
                  go_simp
                · rw [hans.out]
                  exact hlat.out.ans ((ol.out.setz xl.out.z (by decide)).setz xl.out.z.set (by decide)).chn2.1 hcn (bset (bset xl.out.b (by omega)) (by omega))
              exact AllReadyH.nil
            exact AllReadyH.nil
          exact AllReadyH.nil
        exact AllReadyH.nil
      exact AllReadyH.nil

end Go.Proofs.Ytnagidgffkffhaa.G
