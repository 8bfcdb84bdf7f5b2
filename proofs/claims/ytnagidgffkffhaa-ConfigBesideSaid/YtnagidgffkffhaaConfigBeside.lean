/-
  The next one of the one ahead of a member is that member; the head has none ahead, the tail none behind. Condition: none.
-/
import Derived.Test.YtnagidgffkffhaaGAwake
import Derived.Test.YtnagidgffkffhaaGOpen
import Derived.Test.YtnagidgffkffhaaGPlain
import Derived.Test.YtnagidgffkffhaaGRRight2
import Derived.Test.YtnagidgffkffhaaRows
namespace Go.Proofs.Ytnagidgffkffhaa.G.configBeside
open Go.ChangeShapes Go.WideShapes Go.ChangeAt Go.RowKit Cod Cfg
open Go.ChangeMaps (open_string shut_string)
set_option linter.unusedVariables false

theorem own : ownKnob Try.prog.godebug = none := by kernel_rfl

set_option maxHeartbeats 8000000 in
set_option maxRecDepth 100000 in
theorem walk (c : CfN) (p : Option Addr) (cap : Nat) (w : World) (t : Chn w p c.l) (hc : c.l.length ≤ cap) (hl : c.l.length ≤ 9223372036854775807) :
    Calls Try.prog 9 #[cfV c p cap] w fun e w' => e = .returned (.bool true) ∧ Below w.heap.size w w' := by
  have x := Lib.hid (Bx1.new w c.epoch p c.l.length cap)
  have haw := Lib.hid (fun W => awake_any W)
  have hR := Lib.hid (fun W tW => refRightB_any c p cap W tW hc hl)
  have hri : Hid (rightN c = true → RightP c) := fun h => right_iff.1 h
  have t2 := Lib.hid (t.below x.out.b)
  replace t := Lib.hid t
  have hah := Lib.hid (fun m W tW hl => ahead_any c p cap m W tW hl)
  have hnx := Lib.hid (fun m W tW hl => next_any c p cap m W tW hl)
  have hpl := Lib.hid (fun m W tW hl => place_any c p cap m W tW hl)
  generalize rightN c = r at *
  obtain ⟨e0, l⟩ := c
  replace hc := Lib.hid hc
  replace hl := Lib.hid hl
  go_enter Try.func9, Try.ntmps9
  go_wp2_with fail
  refine (haw.out _).mono ?_
  rintro e w2 ⟨rfl, b2⟩
  have x2 := Lib.hid (x.out.below b2)
  have t3 := Lib.hid (t2.out.below b2)
  clear x t2 b2
  have y0 := x2.out.c0
  have y1 := x2.out.c1
  have hR2 := Lib.hid (hR.out _ t3.out)
  go_wp2_with fail
  refine hR2.out.mono ?_
  rintro e w3 ⟨rfl, b3⟩
  have x3 := Lib.hid (x2.out.below b3)
  have t4 := Lib.hid (t3.out.below b3)
  clear x2 t3 b3 y0 y1 hR2 hR
  cases r with
  | false =>
    go_wp2_with fail
    refine (haw.out _).mono ?_
    rintro e w4 ⟨rfl, b4⟩
    go_wp2_with fail
    go_ret
    exact ⟨rfl, x3.out.b.trans (b4.mono x3.out.b.size)⟩
  | true =>
    have hr := hri.out (by first | rfl | trivial)
    have hn8 : l.length ≤ 8 := hr.n2
    have hlI : (l.length : Int) ≤ 8 := by omega
    have hl8 : l.length ≤ 4611686018427387904 := by omega
    have hg := Lib.hid hr.good
    clear hri hr
    have hah2 := Lib.hid (fun m W tW => hah.out m W tW hl8)
    have hnx2 := Lib.hid (fun m W tW => hnx.out m W tW hl8)
    have hpl2 := Lib.hid (fun m W tW => hpl.out m W tW (by omega))
    clear hah hnx hpl
    try dsimp only at t4
    have y1 := x3.out.c1
    try dsimp only at y1
    go_wp2_with fail
    clear y1
    go_loopw [24] (fun v wr => ∃ k : Nat, v = .int .i64 k ∧ (k : Int) ≤ l.length ∧ Hid (Bx1 w e0 p l.length cap wr)) (fun v _ => ((l.length : Int) - intOf v).toNat)
    case atStart => exact ⟨0, rfl, by omega, x3⟩
    case round =>
      obtain ⟨k, rfl, hk, x4⟩ := hrel
      clear x3
      by_cases hlt : (k : Int) < l.length
      · have hkl : k < l.length := by omega
        have t5 := t4.out
        clear t4
        have t5 := t.out.below x4.out.b
        obtain ⟨b, off, rfl, c0, c1, c2⟩ := t5 k hkl
        have p1 := Lib.hid (place_self hg.out hkl)
        have p2 := Lib.hid (beside_ahead hg.out hkl).1
        have p3 := Lib.hid (beside_next hg.out hkl).1
        have p4 := Lib.hid (next_of_ahead hg.out hkl)
        have p5 := Lib.hid (ahead_of_next hg.out hkl)
        have ha1 := fun W tW => Lib.hid (hah2.out l[k].m W tW)
        have hn1 := fun W tW => Lib.hid (hnx2.out l[k].m W tW)
        have hp1 := fun W tW => Lib.hid (hpl2.out l[k].m W tW)
        have hn2 := fun W tW => Lib.hid (hnx2.out (besideN l l[k].m (-1)) W tW)
        have ha2 := fun W tW => Lib.hid (hah2.out (besideN l l[k].m 1) W tW)
        try dsimp only at ha1 hn1 hp1 hn2 ha2
        rw [p2.out] at ha1
        rw [p3.out] at hn1
        rw [p1.out] at hp1
        have q4 : Hid (decide ((0 : Int) < k) = true → besideN l (besideN l l[k].m (-1)) 1 = l[k].m) := fun h => p4.out (by have := of_decide_eq_true h; omega)
        have q5 : Hid (decide ((k : Int) < (l.length : Int) - 1) = true → besideN l (besideN l l[k].m 1) (-1) = l[k].m) := fun h => p5.out (by have := of_decide_eq_true h; omega)
        clear p1 p2 p3 p4 p5
        generalize besideB l (besideN l l[k].m (-1)) 1 = z1 at *
        generalize besideB l (besideN l l[k].m 1) (-1) = z2 at *
        generalize besideN l (besideN l l[k].m (-1)) 1 = v1 at *
        generalize besideN l (besideN l l[k].m 1) (-1) = v2 at *
        generalize besideN l l[k].m (-1) = u1 at *
        generalize besideN l l[k].m 1 = u2 at *
        have hw1 : IntKind.i64.wrap ((l.length : Int) - 1) = (l.length : Int) - 1 := IntWalk.i64_in _ (by omega)
        generalize l[k] = s at *
        obtain ⟨⟨s0, s1⟩, s2⟩ := s
        simp only at c0 c1 c2 ha1 hn1 hp1 q4 q5
        have heq1 := mb_eq v1 ⟨s0, s1⟩
        have heq2 := mb_eq v2 ⟨s0, s1⟩
        obtain ⟨v10, v11⟩ := v1
        obtain ⟨v20, v21⟩ := v2
        obtain ⟨u10, u11⟩ := u1
        obtain ⟨u20, u21⟩ := u2
        have q6 : Hid (decide ((0 : Int) < k) = true → decide ((⟨v10, v11⟩ : MbN) = ⟨s0, s1⟩) = true) := fun h => decide_eq_true (q4.out h)
        have q7 : Hid (decide ((k : Int) < (l.length : Int) - 1) = true → decide ((⟨v20, v21⟩ : MbN) = ⟨s0, s1⟩) = true) := fun h => decide_eq_true (q5.out h)
        clear q4 q5
        generalize decide ((⟨v10, v11⟩ : MbN) = ⟨s0, s1⟩) = g1 at *
        generalize decide ((⟨v20, v21⟩ : MbN) = ⟨s0, s1⟩) = g2 at *
        generalize hqa : decide ((0 : Int) < k) = qa at *
        generalize hqb : decide ((k : Int) < (l.length : Int) - 1) = qb at *
        replace ha1 := Lib.hid ha1
        replace hn1 := Lib.hid hn1
        replace hp1 := Lib.hid hp1
        replace ha2 := Lib.hid ha2
        replace hn2 := Lib.hid hn2
        have ba := (Below.refl wr.heap.size wr).alloc (Nat.le_refl _) (.cells #[.int .i64 s0, .int .i64 s1, .bool s2] 70)
        have kb := Lib.hid (Blk.new wr #[.int .i64 s0, .int .i64 s1, .bool s2] 70)
        have x5 := Lib.hid (x4.out.below ba)
        have t6 := Lib.hid (t5.below ba)
        clear ba t5 x4
        replace hqa := Lib.hid hqa
        replace hqb := Lib.hid hqb
        go_upto_region 6 with fail
        clear c0 c1 c2
        generalize wr.alloc _ = w5 at *
        generalize wr.heap.size = q at *
        have y0 := x5.out.c0
        have y1 := x5.out.c1
        have z0 := kb.out.cell 0
        have z1' := kb.out.cell 1
        have hx := ha1.out _ t6.out
        go_wp2_with fail
        refine hx.out.mono ?_
        rintro e w6 ⟨rfl, b6⟩
        have x6 := Lib.hid (x5.out.below b6)
        have t7 := Lib.hid (t6.out.below b6)
        have kb6 := Lib.hid (kb.out.below b6)
        clear b6 x5 t6 kb y0 y1 z0 z1' hx
        have ba := (Below.refl w6.heap.size w6).alloc (Nat.le_refl _) (.cells #[.int .i64 u10, .int .i64 u11] 26)
        have k7 := Lib.hid (Blk.new w6 #[.int .i64 u10, .int .i64 u11] 26)
        have x7 := Lib.hid (x6.out.below ba)
        have t8 := Lib.hid (t7.out.below ba)
        have kb7 := Lib.hid (kb6.out.below ba)
        clear ba x6 t7 kb6
        go_upto_region 7 with fail
        generalize w6.alloc _ = w7 at *
        generalize w6.heap.size = qq at *
        have y0 := x7.out.c0
        have y1 := x7.out.c1
        have z0 := kb7.out.cell 0
        have z1' := kb7.out.cell 1
        have hx := hn1.out _ t8.out
        go_wp2_with fail
        refine hx.out.mono ?_
        rintro e w8 ⟨rfl, b8⟩
        have x8 := Lib.hid (x7.out.below b8)
        have t9 := Lib.hid (t8.out.below b8)
        have kb8 := Lib.hid (kb7.out.below b8)
        have k8 := Lib.hid (k7.out.below b8)
        clear b8 x7 t8 kb7 k7 y0 y1 z0 z1' hx
        have ba := (Below.refl w8.heap.size w8).alloc (Nat.le_refl _) (.cells #[.int .i64 u20, .int .i64 u21] 26)
        have m9 := Lib.hid (Blk.new w8 #[.int .i64 u20, .int .i64 u21] 26)
        have x9 := Lib.hid (x8.out.below ba)
        have ta := Lib.hid (t9.out.below ba)
        have kb9 := Lib.hid (kb8.out.below ba)
        have k9 := Lib.hid (k8.out.below ba)
        clear ba x8 t9 kb8 k8
        go_upto_region 8 with fail
        generalize w8.alloc _ = w9 at *
        generalize w8.heap.size = qr at *
        have y0 := x9.out.c0
        have y1 := x9.out.c1
        have z0 := kb9.out.cell 0
        have z1' := kb9.out.cell 1
        have hx := hp1.out _ ta.out
        have hqa2 : decide (0 < k) = qa := by rw [← hqa.out]; exact decide_eq_decide.2 (by omega)
        have hqb2 : decide ((k : Int) < (l.length : Int) - 1) = qb := hqb.out
        go_wp2_with fail
        refine hx.out.mono ?_
        rintro e wa ⟨rfl, ba⟩
        have xa := Lib.hid (x9.out.below ba)
        have tb := Lib.hid (ta.out.below ba)
        have kba := Lib.hid (kb9.out.below ba)
        have ka := Lib.hid (k9.out.below ba)
        have ma := Lib.hid (m9.out.below ba)
        clear ba x9 ta kb9 k9 m9 y0 y1 z0 z1' hx hqa2 hqb2
        have y0 := xa.out.c0
        have y1 := xa.out.c1
        have z0 := ka.out.cell 0
        have z1' := ka.out.cell 1
        have hx := hn2.out _ tb.out
        go_wp2_with fail
        refine hx.out.mono ?_
        rintro e wb ⟨rfl, bb⟩
        have xb := Lib.hid (xa.out.below bb)
        have tc := Lib.hid (tb.out.below bb)
        have kbb := Lib.hid (kba.out.below bb)
        have mb := Lib.hid (ma.out.below bb)
        clear bb xa tb kba ka ma y0 y1 z0 z1' hx
        have ba := (Below.refl wb.heap.size wb).alloc (Nat.le_refl _) (.cells #[.int .i64 v10, .int .i64 v11] 26)
        have nc := Lib.hid (Blk.new wb #[.int .i64 v10, .int .i64 v11] 26)
        have xc := Lib.hid (xb.out.below ba)
        have td := Lib.hid (tc.out.below ba)
        have kbc := Lib.hid (kbb.out.below ba)
        have mc := Lib.hid (mb.out.below ba)
        clear ba xb tc kbb mb
        go_upto_region 11 with fail
        generalize wb.alloc _ = wc at *
        generalize wb.heap.size = qs at *
        have y0 := xc.out.c0
        have y1 := xc.out.c1
        have z0 := kbc.out.cell 0
        have z1' := kbc.out.cell 1
        have n0 := nc.out.cell 0
        have n1 := nc.out.cell 1
        have m0 := mc.out.cell 0
        have m1 := mc.out.cell 1
        have hx := ha2.out _ td.out
        have hfin : Hid (∀ W, Below wc.heap.size wc W → Bx1 w e0 (some ⟨b, off, none⟩) l.length cap W ∧ Blk W q #[.int .i64 s0, .int .i64 s1, .bool s2] 70) := fun W k => ⟨xc.out.below k, kbc.out.below k⟩
        cases qa
        · go_wp2_with fail
          refine hx.out.mono ?_
          rintro e wd ⟨rfl, bd⟩
          have ba := bd.alloc bd.size (.cells #[.int .i64 v20, .int .i64 v21] 26)
          have n3 := Blk.new wd #[.int .i64 v20, .int .i64 v21] 26
          obtain ⟨xe, ke⟩ := hfin.out _ ba
          have n30 := n3.cell 0
          have n31 := n3.cell 1
          have k30 := ke.cell 0
          have k31 := ke.cell 1
          replace xe := Lib.hid xe
          clear n3 ke ba bd n0 n1 m0 m1 y0 y1 z0 z1' hx
          cases qb
          · go_wp2_with fail
            exact ⟨⟨k + 1, by go_num, by omega, xe⟩, by simp [intOf]; omega⟩
          · have e2 := q7.out rfl
            subst e2
            go_wp2_with fail
            exact ⟨⟨k + 1, by go_num, by omega, xe⟩, by simp [intOf]; omega⟩
        · have e1 := q6.out rfl
          subst e1
          go_wp2_with fail
          refine hx.out.mono ?_
          rintro e wd ⟨rfl, bd⟩
          have ba := bd.alloc bd.size (.cells #[.int .i64 v20, .int .i64 v21] 26)
          have n3 := Blk.new wd #[.int .i64 v20, .int .i64 v21] 26
          obtain ⟨xe, ke⟩ := hfin.out _ ba
          have n30 := n3.cell 0
          have n31 := n3.cell 1
          have k30 := ke.cell 0
          have k31 := ke.cell 1
          replace xe := Lib.hid xe
          clear n3 ke ba bd n0 n1 m0 m1 y0 y1 z0 z1' hx
          cases qb
          · go_wp2_with fail
            exact ⟨⟨k + 1, by go_num, by omega, xe⟩, by simp [intOf]; omega⟩
          · have e2 := q7.out rfl
            subst e2
            go_wp2_with fail
            exact ⟨⟨k + 1, by go_num, by omega, xe⟩, by simp [intOf]; omega⟩
      · obtain rfl : k = l.length := by omega
        go_wp2_with fail
        go_ret
        exact ⟨rfl, x4.out.b⟩

set_option maxRecDepth 100000 in
theorem lifted (os : Os) (started : os.Started) (H : Type) (enc : TypeId × Value → H) :
    ReturnsInHanded {} Try.checked os 9 .any (Rows.configBesideSpec.pre6 enc Try.prog Try.f9 Rows.configBesideRow.domain false) (Rows.configBesideSpec.post enc Try.prog Try.f9 false true false false) := by
  refine returnsInHanded_of_change (C := Try.checked) own started (by kernel_rfl) Try.func9
    (ChangeSpec.witness6 (enc := enc) (C := Try.checked) false ⟨#[], #[.agg #[.int .i64 0, .slice none 0 0]], []⟩ 8 (by kernel_rfl) (by kernel_rfl) (by kernel_rfl) (by kernel_rfl)) ?_
  intro W base args ds gs before hval0 hW _ _
  have hval : ∀ (j : Nat) t v, Try.f9.params[j]? = some t → args[j]? = some v → Value.okWide Try.prog W .any base t v := hval0
  have hW' := hW
  obtain ⟨p, q, hA0, hV, rfl, hfz, hnd⟩ := hW
  have hA : DataW.TrodAll enc Try.prog W 0 (fun _ => true) true Try.f9.params.toList args.toList ds p := hA0
  rw [Try.params9] at hA hval
  obtain ⟨v0, vs0, d0, ds0, p0, q0, hargs, rfl, rfl, h0, r0⟩ := trodAll_cons hA
  obtain ⟨rfl, rfl, rfl⟩ := trodAll_nil r0
  obtain rfl : args = #[v0] := by cases args; simp_all
  obtain ⟨rfl, rfl⟩ := trodVars_none hV
  have k0 := h0
  have lt0 : ∀ x ∈ p0, x.block < W.heap.size := by obtain ⟨m, hm⟩ := k0; exact DataW.trod_lt m _ _ _ hm
  obtain ⟨a0, q0, cap0, rfl, w0, hc0, hl0⟩ := open_cf (hval 0 24 v0 rfl rfl) h0
  clear hA0 hval0
  refine (walk a0 q0 cap0 W w0 hc0 hl0).mono fun e W' ⟨he, bel⟩ => ?_
  subst he
  exact ⟨_, rfl, _, _, _, [], _, [], hW', trodAll_mk1 (shut_bool Try.underlying4 _), (trodAll_cons_mk (Below.trod laidOut11 (by kernel_rfl) (of_decide_eq_true (by kernel_rfl)) k0 bel lt0) trodAll_mk0), rfl, bel.frame _, fun h => by cases h⟩

theorem over : Rows.configBesideRow.holds Try.pinned (OpenSpec.ofChange Rows.configBesideSpec) :=
  OpenClaim.holds_of_wide 9 Try.f9 rfl rfl rfl rfl rfl rfl rfl ⟨rfl, rfl, rfl, rfl, rfl⟩ rfl rfl rfl rfl rfl (by kernel_rfl) Try.func9 (by kernel_rfl)
    (of_decide_eq_true (by kernel_rfl)) (by unfold Func.isWrapper; first | (rw [if_pos (by decide +kernel)]; kernel_rfl) | (rw [if_neg (by decide +kernel)]; exact ⟨rfl, rfl⟩))
    (fun os started H enc _ => lifted os started H enc)

/-- The statement. -/
theorem proved : Rows.ConfigBesideSaid := over
#print axioms proved
end Go.Proofs.Ytnagidgffkffhaa.G.configBeside
