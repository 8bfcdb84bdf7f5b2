/-
  Who goes isn't there, and all others are, in their order; who joins is the last one. Condition: none.
-/
import Derived.Test.YtnagidgffkffhaaGAwake
import Derived.Test.YtnagidgffkffhaaGOpen2
import Derived.Test.YtnagidgffkffhaaGPlain3
import Derived.Test.YtnagidgffkffhaaGMbs
import Derived.Test.YtnagidgffkffhaaRows
namespace Go.Proofs.Ytnagidgffkffhaa.G.configWithout
open Go.ChangeShapes Go.WideShapes Go.ChangeAt Go.RowKit Cod Cfg
open Go.ChangeMaps (open_string shut_string)
set_option linter.unusedVariables false

theorem own : ownKnob Try.prog.godebug = none := by kernel_rfl

set_option linter.unusedSimpArgs false
set_option maxRecDepth 100000
abbrev oW_0 : Oper := { dst := some 37, op := Go.Op.load 24 (Go.Operand.tmp 3), type := 24, pos := "law.go:142", after := #[], guard := none }
abbrev oW_1 : Oper := { dst := some 38, op := Go.Op.buildSlice 42 0 #[], type := 42, pos := "law.go:142", after := #[], guard := none }
abbrev oW_2 : Oper := { dst := some 39, op := Go.Op.move (Go.Operand.tmp 1), type := 42, pos := "law.go:142", after := #[], guard := none }
abbrev oW_3 : Oper := { dst := some 40, op := Go.Op.call { callee := Go.Callee.builtin Go.Builtin.append, args := #[Go.Operand.tmp 38, Go.Operand.tmp 39], argTypes := #[42, 42] }, type := 42, pos := "law.go:142", after := #[{ on := 1, ground := Go.Ground.data }, { on := 2, ground := Go.Ground.data }], guard := none }
abbrev oW_4 : Oper := { dst := some 41, op := Go.Op.call { callee := Go.Callee.value (Go.Operand.func 25), args := #[Go.Operand.tmp 37, Go.Operand.tmp 40], argTypes := #[24, 42] }, type := 30, pos := "law.go:142", after := #[{ on := 0, ground := Go.Ground.data }, { on := 3, ground := Go.Ground.data }, { on := 3, ground := Go.Ground.chain }], guard := none }
abbrev oW_5 : Oper := { dst := some 36, op := Go.Op.move (Go.Operand.tmp 41), type := 30, pos := "law.go:142", after := #[{ on := 4, ground := Go.Ground.data }], guard := none }
abbrev oW_6 : Oper := { dst := some 42, op := Go.Op.extract (Go.Operand.tmp 36) 0, type := 24, pos := "law.go:142", after := #[{ on := 5, ground := Go.Ground.data }], guard := none }
abbrev oW_7 : Oper := { dst := some 43, op := Go.Op.extract (Go.Operand.tmp 36) 1, type := 29, pos := "law.go:142", after := #[{ on := 5, ground := Go.Ground.data }, { on := 9, ground := Go.Ground.gcOnly Go.Departure.lateStores }], guard := none }
abbrev oW_8 : Oper := { dst := some 7, op := Go.Op.alloc 24, type := 0, pos := "law.go:142", after := #[], guard := none }
abbrev oW_9 : Oper := { dst := none, op := Go.Op.store 24 (Go.Operand.tmp 7) (Go.Operand.tmp 42), type := 0, pos := "law.go:142", after := #[{ on := 8, ground := Go.Ground.data }, { on := 6, ground := Go.Ground.data }, { on := 4, ground := Go.Ground.chain }, { on := 0, ground := Go.Ground.phase }, { on := 1, ground := Go.Ground.phase }, { on := 2, ground := Go.Ground.phase }, { on := 3, ground := Go.Ground.phase }, { on := 4, ground := Go.Ground.phase }, { on := 5, ground := Go.Ground.phase }, { on := 6, ground := Go.Ground.phase }, { on := 7, ground := Go.Ground.textOnly Go.Departure.lateStores }, { on := 8, ground := Go.Ground.phase }], guard := none }
abbrev oW_10 : Oper := { dst := some 8, op := Go.Op.assign (Go.Operand.tmp 43), type := 29, pos := "law.go:142", after := #[{ on := 7, ground := Go.Ground.data }, { on := 9, ground := Go.Ground.chain }, { on := 0, ground := Go.Ground.phase }, { on := 1, ground := Go.Ground.phase }, { on := 2, ground := Go.Ground.phase }, { on := 3, ground := Go.Ground.phase }, { on := 4, ground := Go.Ground.phase }, { on := 5, ground := Go.Ground.phase }, { on := 6, ground := Go.Ground.phase }, { on := 7, ground := Go.Ground.phase }, { on := 8, ground := Go.Ground.phase }, { on := 9, ground := Go.Ground.phase }], guard := none }
set_option maxHeartbeats 8000000 in
theorem walk (c : CfN) (p : Option Addr) (cap : Nat) (q : Option Addr) (qc : Nat) (gone : List MbN) (m : MbN) (w : World) (t : Chn w p c.l) (hc : c.l.length ≤ cap) (hl : c.l.length ≤ 9223372036854775807) (tg : Mbs w q gone ∧ (q = none → qc = 0)) (hgc : gone.length ≤ qc) (hgl0 : gone.length ≤ 9223372036854775807) :
    Calls Try.prog 8 #[cfV c p cap, .slice q gone.length qc, mbV m] w fun e w' => e = .returned (.bool true) ∧ Below w.heap.size w w' := by
  obtain ⟨e0, l⟩ := c
  obtain ⟨m0, m1⟩ := m
  have x := Lib.hid (Bt.new w e0 p l.length cap m0 m1)
  have haw := Lib.hid (fun W => awake_any W)
  have hfw : Hid (∀ W g, Blk W g #[.int .i64 e0, .slice p l.length cap] 24 → Calls Try.prog 11 #[.slice (some ⟨g, 0, none⟩) 1 1] W fun e w' => e = .returned (.bool (decide (l.length ≤ 40))) ∧ Below W.heap.size W w') := fun W g k => by
    have h := few_any g [(e0, p, l.length, cap)] W (cfs_one k) (by simp)
    have e : fewN [(e0, p, l.length, cap)] = decide (l.length ≤ 40) := by simp [fewN]
    rw [e] at h
    exact h
  replace t := Lib.hid t
  replace tg := Lib.hid tg
  replace hc := Lib.hid hc
  replace hl := Lib.hid hl
  replace hgc := Lib.hid hgc
  go_enter Try.func8, Try.ntmps8
  go_wp2_with fail
  refine (haw.out _).mono ?_
  rintro e w2 ⟨rfl, b2⟩
  replace x := Lib.hid (x.out.below b2)
  clear b2
  have y0 := x.out.k.cell 0
  have y1 := x.out.k.cell 1
  try dsimp only at y0 y1
  have kf := Blk.new w2 #[.int .i64 e0, .slice p l.length cap] 24
  replace x := Lib.hid (x.out.alloc (.cells #[.int .i64 e0, .slice p l.length cap] 24))
  have hfx := Lib.hid (hfw.out _ _ kf)
  clear kf hfw
  go_wp2_with fail
  refine hfx.out.mono ?_
  rintro e w3 ⟨rfl, b3⟩
  replace x := Lib.hid (x.out.below b3)
  clear b3 y0 y1 hfx
  by_cases h40 : l.length ≤ 40
  · rw [decide_eq_true h40]
    by_cases hg20 : (20 : Int) < gone.length
    · go_wp2_with fail
      refine (haw.out _).mono ?_
      rintro e w4 ⟨rfl, b4⟩
      go_wp2_with fail
      go_ret
      exact ⟨rfl, (x.out.below b4).b⟩
    · have hgI : (gone.length : Int) ≤ 20 := by omega
      have hlI : (l.length : Int) ≤ 40 := by omega
      have hgl : Hid (gone.length ≤ 1000) := by show _ ≤ _; omega
      go_upto_region 3 with fail
      clear hg20
      obtain ⟨d, er, hde⟩ : ∃ d er, withoutN ⟨e0, l⟩ gone = (d, er) := ⟨_, _, rfl⟩
      have hwo : Hid (∀ p9 n9 W, Chn W p l → Mbs W p9 gone → Calls Try.prog 25 #[.agg #[.int .i64 e0, .slice p l.length cap], .slice p9 gone.length n9] W fun e w' => AnsC (d, er) W e w') := fun p9 n9 W h1 h2 => by
        have h := without_any ⟨e0, l⟩ p cap gone p9 n9 W h1 hc.out (by dsimp only; omega) h2 (by omega)
        rw [hde] at h
        exact h
      replace x := Lib.hid (x.out.below (Below.refl _ _).drew)
      have hS : Hid (∀ W, Bt w e0 p l.length cap m0 m1 W → W.cell? ⟨w.heap.size, 0, none⟩ = some (.int .i64 e0) ∧ W.cell? ⟨w.heap.size, 1, none⟩ = some (.slice p l.length cap)) := fun W h => ⟨h.k.cell 0, h.k.cell 1⟩
      go_cut [7, 8] from 36 (fun v7 v8 wx => ∃ (qz : Nat) (p8 : Option Addr) (n8 : Nat), v7 = .pointer (some ⟨qz, 0, none⟩) ∧ v8 = .int .i64 er ∧ Hid (Bt w e0 p l.length cap m0 m1 wx) ∧ Hid (Blk wx qz #[.int .i64 d.epoch, .slice p8 d.l.length n8] 24) ∧ Hid (w.heap.size + 1 < qz) ∧ Hid (Chn wx p8 d.l) ∧ Hid (d.l.length ≤ n8))
      case first =>
        refine wp_region_noPanic ?_
        refine wp_region_held_drew (S := (fun W => W.cell? ⟨w.heap.size, 0, none⟩ = some (.int .i64 e0) ∧ W.cell? ⟨w.heap.size, 1, none⟩ = some (.slice p l.length cap))) (by kernel_rfl) ?hSoW_0 (fun hHeld => ?_)
        case hSoW_0 => ((try dsimp only); exact (hS.out _ x.out))
        generalize w3.drew = wD at *
        refine wpAnyH_take (i := 0) (oi := oW_0) (v := ?voW_1) rfl (by kernel_rfl) (by kernel_rfl) (by kernel_rfl) (fun _ _ _ h => h) (Or.inl ⟨by rfl, ?yoW_1⟩) (by assumption) ?roW_1
        case yoW_1 => (intro w hSw; (try dsimp only at hSw); unfold oW_0; go_simp; try with_reducible rfl)
        simp only [oW_0, Act.put, List.setIfInBounds_toArray, List.set_cons_zero, List.set_cons_succ]
        refine wpAnyH_take (i := 2) (oi := oW_2) (v := ?voW_2) rfl (by kernel_rfl) (by kernel_rfl) (by kernel_rfl) (fun _ _ _ h => h) (Or.inl ⟨by rfl, ?yoW_2⟩) (by assumption) ?roW_2
        case yoW_2 => (intro w hSw; (try dsimp only at hSw); unfold oW_2; go_simp; try with_reducible rfl)
        simp only [oW_2, Act.put, List.setIfInBounds_toArray, List.set_cons_zero, List.set_cons_succ]
        refine wpAnyH_ready (rs := [1, 8]) (by kernel_rfl) (by simp) ?_
        refine AllReadyH.cons (o := oW_1) rfl (fun K hK => ?_) ?_
        · clear hHeld
          unfold oW_1
          go_simp
          refine hK.out _ _ ?hSoW_3 (fun hHeld => ?_)
          case hSoW_3 => ((try dsimp only); exact (hS.out _ (x.out.alloc _)))
          clear hK K
          try simp only [Act.put, List.setIfInBounds_toArray, List.set_cons_zero, List.set_cons_succ]
          have hk0 : Hid (w.heap.size + 1 < wD.heap.size) := x.out.lt
          have k0 := Lib.hid (Blk.new wD #[] 26)
          replace x := Lib.hid (x.out.alloc (.cells #[] 26))
          generalize wD.alloc _ = woW1 at *
          generalize wD.heap.size = iwoW1 at *
          refine wpAnyH_ready (rs := [3, 8]) (by kernel_rfl) (by simp) ?_
          refine AllReadyH.cons (o := oW_3) rfl (fun K hK => ?_) ?_
          · clear hHeld
            unfold oW_3
            obtain ⟨va, woW2, hrun, ⟨p9, n9, hv9, g9⟩, gr9⟩ := mcopy k0.out (tg.out.1.below x.out.b) hgl.out qc tg.out.2
            subst hv9
            replace g9 := Lib.hid g9
            replace x := Lib.hid (x.out.grown gr9 hk0.out)
            clear k0 gr9
            refine step_append_st (by rfl) _ _ 42 42 (by rfl) _ _ (by rfl) (by rfl) hrun ?_
            clear hrun
            refine hK.out _ _ ?hSoW_4 (fun hHeld => ?_)
            case hSoW_4 => ((try dsimp only); exact (hS.out _ x.out))
            clear hK K
            try simp only [Act.put, List.setIfInBounds_toArray, List.set_cons_zero, List.set_cons_succ]
            refine wpAnyH_ready (rs := [4, 8]) (by kernel_rfl) (by simp) ?_
            refine AllReadyH.cons (o := oW_4) rfl (fun K hK => ?_) ?_
            · clear hHeld
              unfold oW_4
              go_simp
              go_at_call 25
              refine (hwo.out _ _ _ (t.out.below x.out.b) g9.out).mono ?_
              rintro e woW3 ⟨⟨p8, n8, rfl, t8, h8⟩, b8⟩
              replace t8 := Lib.hid t8
              replace h8 := Lib.hid h8
              replace x := Lib.hid (x.out.below b8)
              clear b8 g9
              dsimp only
              refine hK.out _ _ ?hSoW_5 (fun hHeld => ?_)
              case hSoW_5 => ((try dsimp only); exact (hS.out _ x.out))
              clear hK K
              try simp only [Act.put, List.setIfInBounds_toArray, List.set_cons_zero, List.set_cons_succ]
              refine wpAnyH_take (i := 5) (oi := oW_5) (v := ?voW_6) rfl (by kernel_rfl) (by kernel_rfl) (by kernel_rfl) (fun _ _ _ h => h) (Or.inl ⟨by rfl, ?yoW_6⟩) (by assumption) ?roW_6
              case yoW_6 => (intro w hSw; (try dsimp only at hSw); unfold oW_5; go_simp; try with_reducible rfl)
              simp only [oW_5, Act.put, List.setIfInBounds_toArray, List.set_cons_zero, List.set_cons_succ]
              refine wpAnyH_take (i := 6) (oi := oW_6) (v := ?voW_7) rfl (by kernel_rfl) (by kernel_rfl) (by kernel_rfl) (fun _ _ _ h => h) (Or.inl ⟨by rfl, ?yoW_7⟩) (by assumption) ?roW_7
              case yoW_7 => (intro w hSw; (try dsimp only at hSw); unfold oW_6; go_simp; try with_reducible rfl)
              simp only [oW_6, Act.put, List.setIfInBounds_toArray, List.set_cons_zero, List.set_cons_succ]
              refine wpAnyH_take (i := 7) (oi := oW_7) (v := ?voW_8) rfl (by kernel_rfl) (by kernel_rfl) (by kernel_rfl) (fun _ _ _ h => h) (Or.inl ⟨by rfl, ?yoW_8⟩) (by assumption) ?roW_8
              case yoW_8 => (intro w hSw; (try dsimp only at hSw); unfold oW_7; go_simp; try with_reducible rfl)
              simp only [oW_7, Act.put, List.setIfInBounds_toArray, List.set_cons_zero, List.set_cons_succ]
              refine wpAnyH_ready (rs := [8]) (by kernel_rfl) (by simp) ?_
              refine AllReadyH.cons (o := oW_8) rfl (fun K hK => ?_) ?_
              · clear hHeld
                unfold oW_8
                go_simp
                refine hK.out _ _ ?hSoW_9 (fun hHeld => ?_)
                case hSoW_9 => ((try dsimp only); exact (hS.out _ (x.out.alloc _)))
                clear hK K
                try simp only [Act.put, List.setIfInBounds_toArray, List.set_cons_zero, List.set_cons_succ]
                have hkz : Hid (w.heap.size + 1 < woW3.heap.size) := x.out.lt
                have kz := Lib.hid (Blk.new woW3 #[.int .i64 0, .slice none 0 0] 24)
                replace x := Lib.hid (x.out.alloc (.cells #[.int .i64 0, .slice none 0 0] 24))
                replace t8 := Lib.hid (t8.out.alloc (.cells #[.int .i64 0, .slice none 0 0] 24))
                generalize woW3.alloc _ = woW4 at *
                generalize woW3.heap.size = iwoW4 at *
                refine wpAnyH_ready (rs := [9]) (by kernel_rfl) (by simp) ?_
                refine AllReadyH.cons (o := oW_9) rfl (fun K hK => ?_) ?_
                · clear hHeld
                  unfold oW_9
                  have f0 := kz.out.fz 0
                  have f1 := kz.out.fz 1
                  have z0 := kz.out.cell 0
                  have z1 := kz.out.cell 1
                  go_simp
                  refine hK.out _ _ ?hSoW_10 (fun hHeld => ?_)
                  case hSoW_10 => ((try dsimp only); exact (hS.out _ ((x.out.setf hkz.out).setf hkz.out)))
                  clear hK K
                  try simp only [Act.put, List.setIfInBounds_toArray, List.set_cons_zero, List.set_cons_succ]
                  replace x := Lib.hid ((x.out.setf (i := 0) (v := .int .i64 d.epoch) hkz.out).setf (i := 1) (v := .slice p8 d.l.length n8) hkz.out)
                  replace t8 := Lib.hid ((t8.out.setz (i := 0) (v := .int .i64 d.epoch) kz.out (Nat.le_refl 2)).setz (i := 1) (v := .slice p8 d.l.length n8) kz.out.set (by simp))
                  replace kz : Hid (Blk _ _ #[.int .i64 d.epoch, .slice p8 d.l.length n8] 24) := (kz.out.set (i := 0) (u := .int .i64 d.epoch)).set (i := 1) (u := .slice p8 d.l.length n8)
                  clear f0 f1 z0 z1
                  generalize ((woW4.setCell _ _).setCell _ _) = woW5 at *
                  refine wpAnyH_take (i := 10) (oi := oW_10) (v := ?voW_11) rfl (by kernel_rfl) (by kernel_rfl) (by kernel_rfl) (fun _ _ _ h => h) (Or.inl ⟨by rfl, ?yoW_11⟩) (by assumption) ?roW_11
                  case yoW_11 => (intro w hSw; (try dsimp only at hSw); unfold oW_10; go_simp; try with_reducible rfl)
                  simp only [oW_10, Act.put, List.setIfInBounds_toArray, List.set_cons_zero, List.set_cons_succ]
                  refine wpAnyH_done (by kernel_rfl) ?_ _
                  refine NoPanic.normal ?_
                  clear hHeld
                  go_wp2_with fail
                  go_meet
                  exact ⟨_, p8, n8, rfl, rfl, x, kz, hkz, t8, h8⟩
                exact AllReadyH.nil
              exact AllReadyH.nil
            refine AllReadyH.cons (o := oW_8) rfl (fun K hK => ?_) ?_
            · clear hHeld
              unfold oW_8
              go_simp
              refine hK.out _ _ ?hSoW_12 (fun hHeld => ?_)
              case hSoW_12 => ((try dsimp only); exact (hS.out _ (x.out.alloc _)))
              clear hK K
              try simp only [Act.put, List.setIfInBounds_toArray, List.set_cons_zero, List.set_cons_succ]
              have hkz : Hid (w.heap.size + 1 < woW2.heap.size) := x.out.lt
              have kz := Lib.hid (Blk.new woW2 #[.int .i64 0, .slice none 0 0] 24)
              replace x := Lib.hid (x.out.alloc (.cells #[.int .i64 0, .slice none 0 0] 24))
              replace g9 := Lib.hid (g9.out.alloc (.cells #[.int .i64 0, .slice none 0 0] 24))
              generalize woW2.alloc _ = woW6 at *
              generalize woW2.heap.size = iwoW6 at *
              refine wpAnyH_ready (rs := [4]) (by kernel_rfl) (by simp) ?_
              refine AllReadyH.cons (o := oW_4) rfl (fun K hK => ?_) ?_
              · clear hHeld
                unfold oW_4
                go_simp
                go_at_call 25
                refine (hwo.out _ _ _ (t.out.below x.out.b) g9.out).mono ?_
                rintro e woW7 ⟨⟨p8, n8, rfl, t8, h8⟩, b8⟩
                replace t8 := Lib.hid t8
                replace h8 := Lib.hid h8
                replace x := Lib.hid (x.out.below b8)
                replace kz := Lib.hid (kz.out.below b8)
                clear b8 g9
                dsimp only
                refine hK.out _ _ ?hSoW_13 (fun hHeld => ?_)
                case hSoW_13 => ((try dsimp only); exact (hS.out _ x.out))
                clear hK K
                try simp only [Act.put, List.setIfInBounds_toArray, List.set_cons_zero, List.set_cons_succ]
                refine wpAnyH_take (i := 5) (oi := oW_5) (v := ?voW_14) rfl (by kernel_rfl) (by kernel_rfl) (by kernel_rfl) (fun _ _ _ h => h) (Or.inl ⟨by rfl, ?yoW_14⟩) (by assumption) ?roW_14
                case yoW_14 => (intro w hSw; (try dsimp only at hSw); unfold oW_5; go_simp; try with_reducible rfl)
                simp only [oW_5, Act.put, List.setIfInBounds_toArray, List.set_cons_zero, List.set_cons_succ]
                refine wpAnyH_take (i := 6) (oi := oW_6) (v := ?voW_15) rfl (by kernel_rfl) (by kernel_rfl) (by kernel_rfl) (fun _ _ _ h => h) (Or.inl ⟨by rfl, ?yoW_15⟩) (by assumption) ?roW_15
                case yoW_15 => (intro w hSw; (try dsimp only at hSw); unfold oW_6; go_simp; try with_reducible rfl)
                simp only [oW_6, Act.put, List.setIfInBounds_toArray, List.set_cons_zero, List.set_cons_succ]
                refine wpAnyH_take (i := 7) (oi := oW_7) (v := ?voW_16) rfl (by kernel_rfl) (by kernel_rfl) (by kernel_rfl) (fun _ _ _ h => h) (Or.inl ⟨by rfl, ?yoW_16⟩) (by assumption) ?roW_16
                case yoW_16 => (intro w hSw; (try dsimp only at hSw); unfold oW_7; go_simp; try with_reducible rfl)
                simp only [oW_7, Act.put, List.setIfInBounds_toArray, List.set_cons_zero, List.set_cons_succ]
                refine wpAnyH_ready (rs := [9]) (by kernel_rfl) (by simp) ?_
                refine AllReadyH.cons (o := oW_9) rfl (fun K hK => ?_) ?_
                · clear hHeld
                  unfold oW_9
                  have f0 := kz.out.fz 0
                  have f1 := kz.out.fz 1
                  have z0 := kz.out.cell 0
                  have z1 := kz.out.cell 1
                  go_simp
                  refine hK.out _ _ ?hSoW_17 (fun hHeld => ?_)
                  case hSoW_17 => ((try dsimp only); exact (hS.out _ ((x.out.setf hkz.out).setf hkz.out)))
                  clear hK K
                  try simp only [Act.put, List.setIfInBounds_toArray, List.set_cons_zero, List.set_cons_succ]
                  replace x := Lib.hid ((x.out.setf (i := 0) (v := .int .i64 d.epoch) hkz.out).setf (i := 1) (v := .slice p8 d.l.length n8) hkz.out)
                  replace t8 := Lib.hid ((t8.out.setz (i := 0) (v := .int .i64 d.epoch) kz.out (Nat.le_refl 2)).setz (i := 1) (v := .slice p8 d.l.length n8) kz.out.set (by simp))
                  replace kz : Hid (Blk _ _ #[.int .i64 d.epoch, .slice p8 d.l.length n8] 24) := (kz.out.set (i := 0) (u := .int .i64 d.epoch)).set (i := 1) (u := .slice p8 d.l.length n8)
                  clear f0 f1 z0 z1
                  generalize ((woW7.setCell _ _).setCell _ _) = woW8 at *
                  refine wpAnyH_take (i := 10) (oi := oW_10) (v := ?voW_18) rfl (by kernel_rfl) (by kernel_rfl) (by kernel_rfl) (fun _ _ _ h => h) (Or.inl ⟨by rfl, ?yoW_18⟩) (by assumption) ?roW_18
                  case yoW_18 => (intro w hSw; (try dsimp only at hSw); unfold oW_10; go_simp; try with_reducible rfl)
                  simp only [oW_10, Act.put, List.setIfInBounds_toArray, List.set_cons_zero, List.set_cons_succ]
                  refine wpAnyH_done (by kernel_rfl) ?_ _
                  refine NoPanic.normal ?_
                  clear hHeld
                  go_wp2_with fail
                  go_meet
                  exact ⟨_, p8, n8, rfl, rfl, x, kz, hkz, t8, h8⟩
                exact AllReadyH.nil
              exact AllReadyH.nil
            exact AllReadyH.nil
          refine AllReadyH.cons (o := oW_8) rfl (fun K hK => ?_) ?_
          · clear hHeld
            unfold oW_8
            go_simp
            refine hK.out _ _ ?hSoW_19 (fun hHeld => ?_)
            case hSoW_19 => ((try dsimp only); exact (hS.out _ (x.out.alloc _)))
            clear hK K
            try simp only [Act.put, List.setIfInBounds_toArray, List.set_cons_zero, List.set_cons_succ]
            have hkz : Hid (w.heap.size + 1 < woW1.heap.size) := x.out.lt
            have kz := Lib.hid (Blk.new woW1 #[.int .i64 0, .slice none 0 0] 24)
            replace x := Lib.hid (x.out.alloc (.cells #[.int .i64 0, .slice none 0 0] 24))
            replace k0 := Lib.hid (k0.out.alloc (.cells #[.int .i64 0, .slice none 0 0] 24))
            generalize woW1.alloc _ = woW9 at *
            generalize woW1.heap.size = iwoW9 at *
            refine wpAnyH_ready (rs := [3]) (by kernel_rfl) (by simp) ?_
            refine AllReadyH.cons (o := oW_3) rfl (fun K hK => ?_) ?_
            · clear hHeld
              unfold oW_3
              obtain ⟨va, woW10, hrun, ⟨p9, n9, hv9, g9⟩, gr9⟩ := mcopy k0.out (tg.out.1.below x.out.b) hgl.out qc tg.out.2
              subst hv9
              replace g9 := Lib.hid g9
              replace x := Lib.hid (x.out.grown gr9 hk0.out)
              replace kz := Lib.hid (kz.out.grown gr9 fun e => (Blk.ne k0.out kz.out (by decide)) (by injection e))
              clear k0 gr9
              refine step_append_st (by rfl) _ _ 42 42 (by rfl) _ _ (by rfl) (by rfl) hrun ?_
              clear hrun
              refine hK.out _ _ ?hSoW_20 (fun hHeld => ?_)
              case hSoW_20 => ((try dsimp only); exact (hS.out _ x.out))
              clear hK K
              try simp only [Act.put, List.setIfInBounds_toArray, List.set_cons_zero, List.set_cons_succ]
              refine wpAnyH_ready (rs := [4]) (by kernel_rfl) (by simp) ?_
              refine AllReadyH.cons (o := oW_4) rfl (fun K hK => ?_) ?_
              · clear hHeld
                unfold oW_4
                go_simp
                go_at_call 25
                refine (hwo.out _ _ _ (t.out.below x.out.b) g9.out).mono ?_
                rintro e woW11 ⟨⟨p8, n8, rfl, t8, h8⟩, b8⟩
                replace t8 := Lib.hid t8
                replace h8 := Lib.hid h8
                replace x := Lib.hid (x.out.below b8)
                replace kz := Lib.hid (kz.out.below b8)
                clear b8 g9
                dsimp only
                refine hK.out _ _ ?hSoW_21 (fun hHeld => ?_)
                case hSoW_21 => ((try dsimp only); exact (hS.out _ x.out))
                clear hK K
                try simp only [Act.put, List.setIfInBounds_toArray, List.set_cons_zero, List.set_cons_succ]
                refine wpAnyH_take (i := 5) (oi := oW_5) (v := ?voW_22) rfl (by kernel_rfl) (by kernel_rfl) (by kernel_rfl) (fun _ _ _ h => h) (Or.inl ⟨by rfl, ?yoW_22⟩) (by assumption) ?roW_22
                case yoW_22 => (intro w hSw; (try dsimp only at hSw); unfold oW_5; go_simp; try with_reducible rfl)
                simp only [oW_5, Act.put, List.setIfInBounds_toArray, List.set_cons_zero, List.set_cons_succ]
                refine wpAnyH_take (i := 6) (oi := oW_6) (v := ?voW_23) rfl (by kernel_rfl) (by kernel_rfl) (by kernel_rfl) (fun _ _ _ h => h) (Or.inl ⟨by rfl, ?yoW_23⟩) (by assumption) ?roW_23
                case yoW_23 => (intro w hSw; (try dsimp only at hSw); unfold oW_6; go_simp; try with_reducible rfl)
                simp only [oW_6, Act.put, List.setIfInBounds_toArray, List.set_cons_zero, List.set_cons_succ]
                refine wpAnyH_take (i := 7) (oi := oW_7) (v := ?voW_24) rfl (by kernel_rfl) (by kernel_rfl) (by kernel_rfl) (fun _ _ _ h => h) (Or.inl ⟨by rfl, ?yoW_24⟩) (by assumption) ?roW_24
                case yoW_24 => (intro w hSw; (try dsimp only at hSw); unfold oW_7; go_simp; try with_reducible rfl)
                simp only [oW_7, Act.put, List.setIfInBounds_toArray, List.set_cons_zero, List.set_cons_succ]
                refine wpAnyH_ready (rs := [9]) (by kernel_rfl) (by simp) ?_
                refine AllReadyH.cons (o := oW_9) rfl (fun K hK => ?_) ?_
                · clear hHeld
                  unfold oW_9
                  have f0 := kz.out.fz 0
                  have f1 := kz.out.fz 1
                  have z0 := kz.out.cell 0
                  have z1 := kz.out.cell 1
                  go_simp
                  refine hK.out _ _ ?hSoW_25 (fun hHeld => ?_)
                  case hSoW_25 => ((try dsimp only); exact (hS.out _ ((x.out.setf hkz.out).setf hkz.out)))
                  clear hK K
                  try simp only [Act.put, List.setIfInBounds_toArray, List.set_cons_zero, List.set_cons_succ]
                  replace x := Lib.hid ((x.out.setf (i := 0) (v := .int .i64 d.epoch) hkz.out).setf (i := 1) (v := .slice p8 d.l.length n8) hkz.out)
                  replace t8 := Lib.hid ((t8.out.setz (i := 0) (v := .int .i64 d.epoch) kz.out (Nat.le_refl 2)).setz (i := 1) (v := .slice p8 d.l.length n8) kz.out.set (by simp))
                  replace kz : Hid (Blk _ _ #[.int .i64 d.epoch, .slice p8 d.l.length n8] 24) := (kz.out.set (i := 0) (u := .int .i64 d.epoch)).set (i := 1) (u := .slice p8 d.l.length n8)
                  clear f0 f1 z0 z1
                  generalize ((woW11.setCell _ _).setCell _ _) = woW12 at *
                  refine wpAnyH_take (i := 10) (oi := oW_10) (v := ?voW_26) rfl (by kernel_rfl) (by kernel_rfl) (by kernel_rfl) (fun _ _ _ h => h) (Or.inl ⟨by rfl, ?yoW_26⟩) (by assumption) ?roW_26
                  case yoW_26 => (intro w hSw; (try dsimp only at hSw); unfold oW_10; go_simp; try with_reducible rfl)
                  simp only [oW_10, Act.put, List.setIfInBounds_toArray, List.set_cons_zero, List.set_cons_succ]
                  refine wpAnyH_done (by kernel_rfl) ?_ _
                  refine NoPanic.normal ?_
                  clear hHeld
                  go_wp2_with fail
                  go_meet
                  exact ⟨_, p8, n8, rfl, rfl, x, kz, hkz, t8, h8⟩
                exact AllReadyH.nil
              exact AllReadyH.nil
            exact AllReadyH.nil
          exact AllReadyH.nil
        refine AllReadyH.cons (o := oW_8) rfl (fun K hK => ?_) ?_
        · clear hHeld
          unfold oW_8
          go_simp
          refine hK.out _ _ ?hSoW_27 (fun hHeld => ?_)
          case hSoW_27 => ((try dsimp only); exact (hS.out _ (x.out.alloc _)))
          clear hK K
          try simp only [Act.put, List.setIfInBounds_toArray, List.set_cons_zero, List.set_cons_succ]
          have hkz : Hid (w.heap.size + 1 < wD.heap.size) := x.out.lt
          have kz := Lib.hid (Blk.new wD #[.int .i64 0, .slice none 0 0] 24)
          replace x := Lib.hid (x.out.alloc (.cells #[.int .i64 0, .slice none 0 0] 24))
          generalize wD.alloc _ = woW13 at *
          generalize wD.heap.size = iwoW13 at *
          refine wpAnyH_ready (rs := [1]) (by kernel_rfl) (by simp) ?_
          refine AllReadyH.cons (o := oW_1) rfl (fun K hK => ?_) ?_
          · clear hHeld
            unfold oW_1
            go_simp
            refine hK.out _ _ ?hSoW_28 (fun hHeld => ?_)
            case hSoW_28 => ((try dsimp only); exact (hS.out _ (x.out.alloc _)))
            clear hK K
            try simp only [Act.put, List.setIfInBounds_toArray, List.set_cons_zero, List.set_cons_succ]
            have hk0 : Hid (w.heap.size + 1 < woW13.heap.size) := x.out.lt
            have k0 := Lib.hid (Blk.new woW13 #[] 26)
            replace x := Lib.hid (x.out.alloc (.cells #[] 26))
            replace kz := Lib.hid (kz.out.alloc (.cells #[] 26))
            generalize woW13.alloc _ = woW14 at *
            generalize woW13.heap.size = iwoW14 at *
            refine wpAnyH_ready (rs := [3]) (by kernel_rfl) (by simp) ?_
            refine AllReadyH.cons (o := oW_3) rfl (fun K hK => ?_) ?_
            · clear hHeld
              unfold oW_3
              obtain ⟨va, woW15, hrun, ⟨p9, n9, hv9, g9⟩, gr9⟩ := mcopy k0.out (tg.out.1.below x.out.b) hgl.out qc tg.out.2
              subst hv9
              replace g9 := Lib.hid g9
              replace x := Lib.hid (x.out.grown gr9 hk0.out)
              replace kz := Lib.hid (kz.out.grown gr9 fun e => (Blk.ne k0.out kz.out (by decide)) (by injection e))
              clear k0 gr9
              refine step_append_st (by rfl) _ _ 42 42 (by rfl) _ _ (by rfl) (by rfl) hrun ?_
              clear hrun
              refine hK.out _ _ ?hSoW_29 (fun hHeld => ?_)
              case hSoW_29 => ((try dsimp only); exact (hS.out _ x.out))
              clear hK K
              try simp only [Act.put, List.setIfInBounds_toArray, List.set_cons_zero, List.set_cons_succ]
              refine wpAnyH_ready (rs := [4]) (by kernel_rfl) (by simp) ?_
              refine AllReadyH.cons (o := oW_4) rfl (fun K hK => ?_) ?_
              · clear hHeld
                unfold oW_4
                go_simp
                go_at_call 25
                refine (hwo.out _ _ _ (t.out.below x.out.b) g9.out).mono ?_
                rintro e woW16 ⟨⟨p8, n8, rfl, t8, h8⟩, b8⟩
                replace t8 := Lib.hid t8
                replace h8 := Lib.hid h8
                replace x := Lib.hid (x.out.below b8)
                replace kz := Lib.hid (kz.out.below b8)
                clear b8 g9
                dsimp only
                refine hK.out _ _ ?hSoW_30 (fun hHeld => ?_)
                case hSoW_30 => ((try dsimp only); exact (hS.out _ x.out))
                clear hK K
                try simp only [Act.put, List.setIfInBounds_toArray, List.set_cons_zero, List.set_cons_succ]
                refine wpAnyH_take (i := 5) (oi := oW_5) (v := ?voW_31) rfl (by kernel_rfl) (by kernel_rfl) (by kernel_rfl) (fun _ _ _ h => h) (Or.inl ⟨by rfl, ?yoW_31⟩) (by assumption) ?roW_31
                case yoW_31 => (intro w hSw; (try dsimp only at hSw); unfold oW_5; go_simp; try with_reducible rfl)
                simp only [oW_5, Act.put, List.setIfInBounds_toArray, List.set_cons_zero, List.set_cons_succ]
                refine wpAnyH_take (i := 6) (oi := oW_6) (v := ?voW_32) rfl (by kernel_rfl) (by kernel_rfl) (by kernel_rfl) (fun _ _ _ h => h) (Or.inl ⟨by rfl, ?yoW_32⟩) (by assumption) ?roW_32
                case yoW_32 => (intro w hSw; (try dsimp only at hSw); unfold oW_6; go_simp; try with_reducible rfl)
                simp only [oW_6, Act.put, List.setIfInBounds_toArray, List.set_cons_zero, List.set_cons_succ]
                refine wpAnyH_take (i := 7) (oi := oW_7) (v := ?voW_33) rfl (by kernel_rfl) (by kernel_rfl) (by kernel_rfl) (fun _ _ _ h => h) (Or.inl ⟨by rfl, ?yoW_33⟩) (by assumption) ?roW_33
                case yoW_33 => (intro w hSw; (try dsimp only at hSw); unfold oW_7; go_simp; try with_reducible rfl)
                simp only [oW_7, Act.put, List.setIfInBounds_toArray, List.set_cons_zero, List.set_cons_succ]
                refine wpAnyH_ready (rs := [9]) (by kernel_rfl) (by simp) ?_
                refine AllReadyH.cons (o := oW_9) rfl (fun K hK => ?_) ?_
                · clear hHeld
                  unfold oW_9
                  have f0 := kz.out.fz 0
                  have f1 := kz.out.fz 1
                  have z0 := kz.out.cell 0
                  have z1 := kz.out.cell 1
                  go_simp
                  refine hK.out _ _ ?hSoW_34 (fun hHeld => ?_)
                  case hSoW_34 => ((try dsimp only); exact (hS.out _ ((x.out.setf hkz.out).setf hkz.out)))
                  clear hK K
                  try simp only [Act.put, List.setIfInBounds_toArray, List.set_cons_zero, List.set_cons_succ]
                  replace x := Lib.hid ((x.out.setf (i := 0) (v := .int .i64 d.epoch) hkz.out).setf (i := 1) (v := .slice p8 d.l.length n8) hkz.out)
                  replace t8 := Lib.hid ((t8.out.setz (i := 0) (v := .int .i64 d.epoch) kz.out (Nat.le_refl 2)).setz (i := 1) (v := .slice p8 d.l.length n8) kz.out.set (by simp))
                  replace kz : Hid (Blk _ _ #[.int .i64 d.epoch, .slice p8 d.l.length n8] 24) := (kz.out.set (i := 0) (u := .int .i64 d.epoch)).set (i := 1) (u := .slice p8 d.l.length n8)
                  clear f0 f1 z0 z1
                  generalize ((woW16.setCell _ _).setCell _ _) = woW17 at *
                  refine wpAnyH_take (i := 10) (oi := oW_10) (v := ?voW_35) rfl (by kernel_rfl) (by kernel_rfl) (by kernel_rfl) (fun _ _ _ h => h) (Or.inl ⟨by rfl, ?yoW_35⟩) (by assumption) ?roW_35
                  case yoW_35 => (intro w hSw; (try dsimp only at hSw); unfold oW_10; go_simp; try with_reducible rfl)
                  simp only [oW_10, Act.put, List.setIfInBounds_toArray, List.set_cons_zero, List.set_cons_succ]
                  refine wpAnyH_done (by kernel_rfl) ?_ _
                  refine NoPanic.normal ?_
                  clear hHeld
                  go_wp2_with fail
                  go_meet
                  exact ⟨_, p8, n8, rfl, rfl, x, kz, hkz, t8, h8⟩
                exact AllReadyH.nil
              exact AllReadyH.nil
            exact AllReadyH.nil
          exact AllReadyH.nil
        exact AllReadyH.nil
      case rest =>
        obtain ⟨qz, p8, n8, rfl, rfl, x4, kz, hkz, t8, h8⟩ := hcut
        clear x hS hwo
        obtain ⟨w4, hw4⟩ : ∃ y, y = wc := ⟨_, rfl⟩
        subst hw4
        go_upto_if 45 with fail
        go_cut [] (fun wx => Hid (Bt w e0 p l.length cap m0 m1 wx))
        case first =>
          by_cases her : er = 0
          · subst her
            have hL := left_ok hde
            obtain ⟨hr, hdeq, hce, hrise, hat0, hnone, hd8⟩ := hL
            try dsimp only at hdeq hce hrise hat0
            have hg := hr.good
            try dsimp only at hg
            have he1 : 1 ≤ e0 := hr.e1
            have hdl : d.l = outN l gone := by rw [hdeq]
            have hde2 : d.epoch = e0 + 1 := by rw [hdeq]
            have hl8 : l.length ≤ 8 := hr.n2
            have hdI : (d.l.length : Int) ≤ 8 := by omega
            have hpl : Hid (∀ mm W, Chn W p l → Calls Try.prog 23 #[.agg #[.int .i64 e0, .slice p l.length cap], mbV mm] W fun e w' => e = .returned (.int .i64 (placeN l mm)) ∧ Below W.heap.size W w') := fun mm W tW => place_any ⟨e0, l⟩ p cap mm W tW (by dsimp only; omega)
            have hpd : Hid (∀ mm W, Chn W p8 d.l → Calls Try.prog 23 #[.agg #[.int .i64 d.epoch, .slice p8 d.l.length n8], mbV mm] W fun e w' => e = .returned (.int .i64 (placeN d.l mm)) ∧ Below W.heap.size W w') := fun mm W tW => place_any d p8 n8 mm W tW (by omega)
            have hin := Lib.hid (fun s hs => place_in (gone := gone) hg (s := s) hs)
            rw [← hdl] at hin
            replace hr := Lib.hid hr
            replace hg := Lib.hid hg
            replace hdeq := Lib.hid hdeq
            replace hde := Lib.hid hde
            replace hnone := Lib.hid hnone
            replace hrise := Lib.hid hrise
            replace hat0 := Lib.hid hat0
            replace hdl := Lib.hid hdl
            replace hde2 := Lib.hid hde2
            have z1 := kz.out.cell 1
            try dsimp only at z1
            go_wp2_with fail
            clear z1
            go_loopw [9, 49] (fun vl vi wr => ∃ (i : Nat) (last : Int), vi = .int .i64 i ∧ (i : Int) ≤ d.l.length ∧ vl = .int .i64 last ∧ Hid (∀ j (hj : j < d.l.length), i ≤ j → last < placeN l d.l[j].m) ∧ Hid (Bt w e0 p l.length cap m0 m1 wr) ∧ Hid (Blk wr qz #[.int .i64 d.epoch, .slice p8 d.l.length n8] 24) ∧ Hid (Chn wr p8 d.l)) (fun _ vi _ => ((d.l.length : Int) - intOf vi).toNat)
            case atStart => exact ⟨0, -1, rfl, by omega, rfl, Lib.hid fun j hj _ => by have := hat0.out j hj; omega, x4, kz, t8⟩
            case round =>
              obtain ⟨i, last, rfl, hi, rfl, hlast, x5, k5, t5⟩ := hrel
              clear x4 kz t8
              by_cases hlt : (i : Int) < d.l.length
              · have hid : i < d.l.length := by omega
                obtain ⟨b, off, rfl, c0, c1, c2⟩ := t5.out i hid
                have hP := Lib.hid (hlast.out i hid (Nat.le_refl _))
                have hP2 : Hid (∀ j (hj : j < d.l.length), i + 1 ≤ j → placeN l d.l[i].m < placeN l d.l[j].m) := fun j hj h => hrise.out i j hid hj (by omega)
                have hN : Hid (∀ g ∈ gone, g ≠ d.l[i].m) := hnone.out i hid
                have hp1 := Lib.hid (fun W tW => hpl.out d.l[i].m W tW)
                generalize placeN l d.l[i].m = P at *
                generalize d.l[i] = s at *
                obtain ⟨⟨s0, s1⟩, s2⟩ := s
                simp only at c0 c1 c2 hN hp1
                have ba := (Below.refl wr.heap.size wr).alloc (Nat.le_refl _) (.cells #[.int .i64 s0, .int .i64 s1, .bool s2] 70)
                have kb := Lib.hid (Blk.new wr #[.int .i64 s0, .int .i64 s1, .bool s2] 70)
                have x6 := Lib.hid (x5.out.below ba)
                have k6 := Lib.hid (k5.out.below ba)
                have t6 := Lib.hid (t5.out.below ba)
                clear ba x5 k5 t5
                go_upto_region 9 with fail
                clear c0 c1 c2
                generalize wr.alloc _ = w6 at *
                generalize wr.heap.size = iq at *
                have y0 := x6.out.k.cell 0
                have y1 := x6.out.k.cell 1
                have u0 := kb.out.cell 0
                have u1 := kb.out.cell 1
                have hpx := Lib.hid (hp1.out w6 (t.out.below x6.out.b))
                go_wp2_with fail
                refine hpx.out.mono ?_
                rintro e w7 ⟨rfl, b7⟩
                have x7 := Lib.hid (x6.out.below b7)
                have k7 := Lib.hid (k6.out.below b7)
                have t7 := Lib.hid (t6.out.below b7)
                have kb7 := Lib.hid (kb.out.below b7)
                clear b7 x6 k6 t6 kb y0 y1 u0 u1 hpx hp1
                go_wp2_with fail
                go_loopw [59] (fun vj wr => ∃ j : Nat, vj = .int .i64 j ∧ (j : Int) ≤ gone.length ∧ Hid (Bt w e0 p l.length cap m0 m1 wr) ∧ Hid (Blk wr qz #[.int .i64 d.epoch, .slice (some ⟨b, off, none⟩) d.l.length n8] 24) ∧ Hid (Chn wr (some ⟨b, off, none⟩) d.l) ∧ Hid (Blk wr iq #[.int .i64 s0, .int .i64 s1, .bool s2] 70)) (fun vj _ => ((gone.length : Int) - intOf vj).toNat)
                case atStart => exact ⟨0, rfl, by omega, x7, k7, t7, kb7⟩
                case round =>
                  obtain ⟨j, rfl, hj, x8, k8, t8, kb8⟩ := hrel
                  clear x7 k7 t7 kb7
                  by_cases hjt : (j : Int) < gone.length
                  · have hjg : j < gone.length := by omega
                    obtain ⟨gb, goff, rfl, g0, g1⟩ := (tg.out.1.below x8.out.b) j hjg
                    have hne := hN.out gone[j] (List.getElem_mem hjg)
                    generalize gone[j] = gm at *
                    obtain ⟨r0, r1⟩ := gm
                    simp only at g0 g1
                    have hq := mb_eq ⟨r0, r1⟩ ⟨s0, s1⟩
                    rw [decide_eq_false hne] at hq
                    replace hne := Lib.hid hne
                    have ba := (Below.refl wr.heap.size wr).alloc (Nat.le_refl _) (.cells #[.int .i64 r0, .int .i64 r1] 26)
                    have x9 := Lib.hid (x8.out.below ba)
                    have k9 := Lib.hid (k8.out.below ba)
                    have t9 := Lib.hid (t8.out.below ba)
                    have kb9 := Lib.hid (kb8.out.below ba)
                    have u0 := kb9.out.cell 0
                    have u1 := kb9.out.cell 1
                    clear ba x8 k8 t8 kb8
                    go_wp2_with fail
                    exact ⟨⟨j + 1, by go_num, by omega, x9, k9, t9, kb9⟩, by simp [intOf]; omega⟩
                  · have hP3 : ¬ P ≤ last := by have := hP.out; omega
                    go_wp2_with fail
                    exact ⟨⟨_, _, _, _, _, _, ⟨i + 1, by go_num, by omega, P, rfl, hP2⟩, rfl, rfl, rfl, rfl, rfl, rfl⟩, by simp [intOf]; omega⟩
              · have hie : i = d.l.length := by omega
                have y1 := x5.out.k.cell 1
                try dsimp only at y1
                go_wp2_with fail
                clear y1
                have hcnt := Lib.hid (fun k hk => @outN_take l gone k hk)
                have hcle := Lib.hid (fun k => Nat.le_trans (outN_le (l.take k) gone) (List.length_take_le k l))
                go_loopw [15, 76] (fun vc vj wr => ∃ (j n : Nat), vj = .int .i64 j ∧ (j : Int) ≤ l.length ∧ vc = .int .i64 n ∧ (n : Int) ≤ j ∧ Hid (n = (outN (l.take j) gone).length) ∧ Hid (Bt w e0 p l.length cap m0 m1 wr) ∧ Hid (Blk wr qz #[.int .i64 d.epoch, .slice p8 d.l.length n8] 24) ∧ Hid (Chn wr p8 d.l)) (fun _ vj _ => ((l.length : Int) - intOf vj).toNat)
                case atStart => exact ⟨0, 0, rfl, by omega, rfl, by omega, rfl, x5, k5, t5⟩
                case round =>
                  obtain ⟨j, n, rfl, hj, rfl, hnj, hn, x8, k8, t8⟩ := hrel
                  clear x5 k5 t5
                  by_cases hjt : (j : Int) < l.length
                  · have hjl : j < l.length := by omega
                    obtain ⟨b, off, rfl, c0, c1, c2⟩ := (t.out.below x8.out.b) j hjl
                    have hq := Lib.hid (hin.out l[j] (List.getElem_mem hjl))
                    have hst := Lib.hid (hcnt.out j hjl)
                    have hp1 := Lib.hid (fun W tW => hpd.out l[j].m W tW)
                    generalize l[j] = s at *
                    obtain ⟨⟨s0, s1⟩, s2⟩ := s
                    simp only at c0 c1 c2 hq hst hp1
                    generalize placeN d.l ⟨s0, s1⟩ = P at *
                    have ba := (Below.refl wr.heap.size wr).alloc (Nat.le_refl _) (.cells #[.int .i64 s0, .int .i64 s1, .bool s2] 70)
                    have kb := Lib.hid (Blk.new wr #[.int .i64 s0, .int .i64 s1, .bool s2] 70)
                    have x9 := Lib.hid (x8.out.below ba)
                    have k9 := Lib.hid (k8.out.below ba)
                    have t9 := Lib.hid (t8.out.below ba)
                    clear ba x8 k8 t8
                    go_upto_region 24 with fail
                    clear c0 c1 c2
                    generalize wr.alloc _ = w6 at *
                    generalize wr.heap.size = iq at *
                    have y0 := k9.out.cell 0
                    have y1 := k9.out.cell 1
                    have u0 := kb.out.cell 0
                    have u1 := kb.out.cell 1
                    try dsimp only at y0 y1
                    have hpx := Lib.hid (hp1.out w6 t9.out)
                    go_wp2_with fail
                    refine hpx.out.mono ?_
                    rintro e w7 ⟨rfl, b7⟩
                    have xa := Lib.hid (x9.out.below b7)
                    have ka := Lib.hid (k9.out.below b7)
                    have ta := Lib.hid (t9.out.below b7)
                    clear b7 x9 k9 t9 kb y0 y1 u0 u1 hpx hp1
                    cases hgo : goneN gone ⟨s0, s1⟩ with
                    | true =>
                      rw [hgo] at hq hst
                      have hP : ¬ 0 ≤ P := of_decide_eq_false hq.out
                      have hn2 : Hid (n = (outN (l.take (j + 1)) gone).length) := Lib.hid (show n = _ by rw [hst.out, hn.out]; simp)
                      go_wp2_with fail
                      exact ⟨⟨j + 1, n, by go_num, by omega, rfl, by omega, hn2, xa, ka, ta⟩, by simp [intOf]; omega⟩
                    | false =>
                      rw [hgo] at hq hst
                      have hP : 0 ≤ P := of_decide_eq_true hq.out
                      have hn2 : Hid (n + 1 = (outN (l.take (j + 1)) gone).length) := Lib.hid (show n + 1 = _ by rw [hst.out, hn.out]; simp)
                      go_wp2_with fail
                      exact ⟨⟨j + 1, n + 1, by go_num, by omega, by go_num, by omega, hn2, xa, ka, ta⟩, by simp [intOf]; omega⟩
                  · have hje : j = l.length := by omega
                    have hnd : n = d.l.length := by rw [hn.out, hje, List.take_length, hdl.out]
                    have hndI : (n : Int) = d.l.length := by omega
                    have hnb : ((n : Int) != (d.l.length : Int)) = false := by rw [bne_eq_false_iff_eq]; exact hndI
                    have hw1 : IntKind.i64.wrap (e0 + 1) = e0 + 1 := IntWalk.i64_in _ (by omega)
                    have heb : (d.epoch != e0 + 1) = false := by rw [bne_eq_false_iff_eq]; exact hde2.out
                    have y0 := x8.out.k.cell 0
                    have z0 := k8.out.cell 0
                    have z1 := k8.out.cell 1
                    try dsimp only at y0 z0 z1
                    replace hnd := Lib.hid hnd
                    replace hndI := Lib.hid hndI
                    go_wp2_with fail
                    go_meet
                    exact x8
          · have hne : (er == 0) = false := by rw [beq_eq_false_iff_ne]; exact her
            replace her := Lib.hid her
            go_wp2_with fail
            go_meet
            exact x4
        case rest =>
          obtain ⟨w5, hw5⟩ : ∃ y, y = wc := ⟨_, rfl⟩
          subst hw5
          clear x4 kz t8 h8 hde
          have x5 := hcut
          obtain ⟨d2, f2, hjo⟩ : ∃ d2 f2, joinN ⟨e0, l⟩ ⟨m0, m1⟩ = (d2, f2) := ⟨_, _, rfl⟩
          have hj1 := join_any ⟨e0, l⟩ p cap ⟨m0, m1⟩ w5 (t.out.below x5.out.b) hc.out (by dsimp only; omega)
          rw [hjo] at hj1
          have hj2 : d2.l.length ≤ 41 := by
            have := join_le ⟨e0, l⟩ ⟨m0, m1⟩
            rw [hjo] at this
            dsimp only at this
            omega
          have hjt : Hid (f2 = 0 → _) := fun e => join_tail (c := ⟨e0, l⟩) (m := ⟨m0, m1⟩) (d := d2) (by rw [hjo, e])
          replace hj1 := Lib.hid hj1
          replace hjo := Lib.hid hjo
          have y0 := x5.out.k.cell 0
          have y1 := x5.out.k.cell 1
          have u0 := x5.out.d.cell 0
          have u1 := x5.out.d.cell 1
          try dsimp only at y0 y1
          go_wp2_with fail
          refine hj1.out.mono ?_
          rintro e w6 ⟨⟨p6, n6, rfl, t6, h6⟩, b6⟩
          have ba := b6.alloc b6.size (.cells #[.int .i64 d2.epoch, .slice p6 d2.l.length n6] 24)
          have kx := Lib.hid (Blk.new w6 #[.int .i64 d2.epoch, .slice p6 d2.l.length n6] 24)
          have x7 := Lib.hid (x5.out.below ba)
          have t7 := Lib.hid (t6.alloc (.cells #[.int .i64 d2.epoch, .slice p6 d2.l.length n6] 24))
          clear ba b6 t6 y0 y1 u0 u1 x5 hj1
          go_upto_region 30 with fail
          generalize w6.alloc _ = w7 at *
          generalize w6.heap.size = ix at *
          have z0 := kx.out.cell 0
          have z1 := kx.out.cell 1
          try dsimp only at z0 z1
          have hta := tail_any d2 p6 n6 w7 t7.out (by omega)
          have hpd : Hid (∀ W, Chn W p6 d2.l → Calls Try.prog 23 #[.agg #[.int .i64 d2.epoch, .slice p6 d2.l.length n6], .agg #[.int .i64 m0, .int .i64 m1]] W fun e w' => e = .returned (.int .i64 (placeN d2.l ⟨m0, m1⟩)) ∧ Below W.heap.size W w') := fun W tW => place_any d2 p6 n6 ⟨m0, m1⟩ W tW (by omega)
          generalize atN d2.l ((d2.l.length : Int) - 1) = tm at *
          generalize isN d2.l ((d2.l.length : Int) - 1) = ti at *
          generalize placeN d2.l ⟨m0, m1⟩ = P at *
          obtain ⟨v0, v1⟩ := tm
          replace hta := Lib.hid hta
          go_wp2_with fail
          refine hta.out.mono ?_
          rintro e w8 ⟨rfl, b8⟩
          have ba := b8.alloc b8.size (.cells #[.int .i64 v0, .int .i64 v1] 26)
          have kv := Lib.hid (Blk.new w8 #[.int .i64 v0, .int .i64 v1] 26)
          have x8 := Lib.hid (x7.out.below ba)
          have k8 := Lib.hid (kx.out.below ba)
          have t8 := Lib.hid (t7.out.below ba)
          clear ba b8 z0 z1 x7 kx t7 hta
          go_upto_region 31 with fail
          generalize w8.alloc _ = w9 at *
          generalize w8.heap.size = iv at *
          by_cases hf : f2 = 0
          · subst hf
            obtain ⟨q1, q2, q3, q4, q5⟩ := hjt.out rfl
            injection q2 with q21 q22
            subst q21 q22 q3
            try dsimp only at q1 q4 q5
            subst q4
            have hlen : (d2.l.length : Int) = (l.length : Int) + 1 := by omega
            have heq := mb_eq ⟨v0, v1⟩ ⟨v0, v1⟩
            rw [decide_eq_true rfl] at heq
            have hS : Hid (∀ W, Bt w e0 p l.length cap v0 v1 W → Blk W ix #[.int .i64 d2.epoch, .slice p6 d2.l.length n6] 24 → Blk W iv #[.int .i64 v0, .int .i64 v1] 26 → W.cell? ⟨iv, 0, none⟩ = some (.int .i64 v0) ∧ W.cell? ⟨iv, 1, none⟩ = some (.int .i64 v1) ∧ W.cell? ⟨w.heap.size + 1, 0, none⟩ = some (.int .i64 v0) ∧ W.cell? ⟨w.heap.size + 1, 1, none⟩ = some (.int .i64 v1) ∧ W.cell? ⟨ix, 0, none⟩ = some (.int .i64 d2.epoch) ∧ W.cell? ⟨ix, 1, none⟩ = some (.slice p6 d2.l.length n6) ∧ W.cell? ⟨w.heap.size, 1, none⟩ = some (.slice p l.length cap)) := fun W h1 h2 h3 => ⟨h3.cell 0, h3.cell 1, h1.d.cell 0, h1.d.cell 1, h2.cell 0, h2.cell 1, h1.k.cell 1⟩
            have xd := Lib.hid (x8.out.below (Below.refl _ _).drew)
            have kd := Lib.hid (k8.out.below (Below.refl _ _).drew)
            have td := Lib.hid (t8.out.below (Below.refl _ _).drew)
            have vd := Lib.hid (kv.out.below (Below.refl _ _).drew)
            have hcA := hS.out _ xd.out kd.out vd.out
            have hw1 : IntKind.i64.wrap ((l.length : Int) + 1) = (d2.l.length : Int) := by rw [IntWalk.i64_in _ (by omega)]; omega
            replace hlen := Lib.hid hlen
            replace q5 := Lib.hid q5
            replace q1 := Lib.hid q1
            go_region_held3 (fun W => W.cell? ⟨iv, 0, none⟩ = some (.int .i64 v0) ∧ W.cell? ⟨iv, 1, none⟩ = some (.int .i64 v1) ∧ W.cell? ⟨w.heap.size + 1, 0, none⟩ = some (.int .i64 v0) ∧ W.cell? ⟨w.heap.size + 1, 1, none⟩ = some (.int .i64 v1) ∧ W.cell? ⟨ix, 0, none⟩ = some (.int .i64 d2.epoch) ∧ W.cell? ⟨ix, 1, none⟩ = some (.slice p6 d2.l.length n6) ∧ W.cell? ⟨w.heap.size, 1, none⟩ = some (.slice p l.length cap)) (first | (with_reducible exact hcB) | (with_reducible exact hcA) | go_keep)
              (first
                | (go_at_call 23; (with_reducible refine (hpd.out _ td.out).mono ?_); rintro e wa ⟨rfl, ka⟩; have xe := Lib.hid (xd.out.below ka); have ke := Lib.hid (kd.out.below ka); have ve := Lib.hid (vd.out.below ka); have hcB := hS.out _ xe.out ke.out ve.out; clear ka))
            go_wp2_with fail
            go_ret
            exact ⟨rfl, xe.out.b⟩
          · have hne : (f2 != 0) = true := by rw [bne_iff_ne]; exact hf
            replace hf := Lib.hid hf
            go_quiet (fail)
            go_wp2_with fail
            go_ret
            exact ⟨rfl, x8.out.b.trans ((belowN nq).mono x8.out.b.size)⟩
  · rw [decide_eq_false h40]
    go_wp2_with fail
    refine (haw.out _).mono ?_
    rintro e w4 ⟨rfl, b4⟩
    go_wp2_with fail
    go_ret
    exact ⟨rfl, (x.out.below b4).b⟩

set_option maxRecDepth 100000 in
theorem lifted (os : Os) (started : os.Started) (H : Type) (enc : TypeId × Value → H) :
    ReturnsInHanded {} Try.checked os 8 .any (Rows.configWithoutSpec.pre6 enc Try.prog Try.f8 Rows.configWithoutRow.domain false) (Rows.configWithoutSpec.post enc Try.prog Try.f8 false true false false) := by
  refine returnsInHanded_of_change (C := Try.checked) own started (by kernel_rfl) Try.func8
    (ChangeSpec.witness6 (enc := enc) (C := Try.checked) false ⟨#[], #[.agg #[.int .i64 0, .slice none 0 0], .slice none 0 0, .agg #[.int .i64 0, .int .i64 0]], []⟩ 8 (by kernel_rfl) (by kernel_rfl) (by kernel_rfl) (by kernel_rfl)) ?_
  intro W base args ds gs before hval0 hW _ _
  have hval : ∀ (j : Nat) t v, Try.f8.params[j]? = some t → args[j]? = some v → Value.okWide Try.prog W .any base t v := hval0
  have hW' := hW
  obtain ⟨p, q, hA0, hV, rfl, hfz, hnd⟩ := hW
  have hA : DataW.TrodAll enc Try.prog W 0 (fun _ => true) true Try.f8.params.toList args.toList ds p := hA0
  rw [Try.params8] at hA hval
  obtain ⟨v0, vs0, d0, ds0, p0, q0, hargs, rfl, rfl, h0, r0⟩ := trodAll_cons hA
  obtain ⟨v1, vs1, d1, ds1, p1, q1, rfl, rfl, rfl, h1, r1⟩ := trodAll_cons r0
  obtain ⟨v2, vs2, d2, ds2, p2, q2, rfl, rfl, rfl, h2, r2⟩ := trodAll_cons r1
  obtain ⟨rfl, rfl, rfl⟩ := trodAll_nil r2
  obtain rfl : args = #[v0, v1, v2] := by cases args; simp_all
  obtain ⟨rfl, rfl⟩ := trodVars_none hV
  have k0 := h0
  have lt0 : ∀ x ∈ p0, x.block < W.heap.size := by obtain ⟨m, hm⟩ := k0; exact DataW.trod_lt m _ _ _ hm
  obtain ⟨a0, q0, cap0, rfl, w0, hc0, hl0⟩ := open_cf (hval 0 24 v0 rfl rfl) h0
  have k1 := h1
  have lt1 : ∀ x ∈ p1, x.block < W.heap.size := by obtain ⟨m, hm⟩ := k1; exact DataW.trod_lt m _ _ _ hm
  obtain ⟨a1, len1, cap1, rfl⟩ := okWide_slice Try.underlying42 (hval 1 42 v1 rfl rfl)
  obtain ⟨f1, rfl, w1, hc1, ln1⟩ : ∃ f : List MbN, f.length = len1 ∧ (Mbs W a1 f ∧ (a1 = none → cap1 = 0)) ∧ len1 ≤ cap1 ∧ len1 ≤ 9223372036854775807 := by
    obtain ⟨fuel, hf⟩ := h1
    exact mbs_of hf
  have k2 := h2
  have lt2 : ∀ x ∈ p2, x.block < W.heap.size := by obtain ⟨m, hm⟩ := k2; exact DataW.trod_lt m _ _ _ hm
  obtain ⟨a2, rfl⟩ := open_mb (hval 2 26 v2 rfl rfl) h2
  clear hA0 hval0
  refine (walk a0 q0 cap0 a1 cap1 f1 a2 W w0 hc0 hl0 w1 hc1 ln1).mono fun e W' ⟨he, bel⟩ => ?_
  subst he
  exact ⟨_, rfl, _, _, _, [], _, [], hW', trodAll_mk1 (shut_bool Try.underlying4 _), (trodAll_cons_mk (Below.trod laidOut11 (by kernel_rfl) (of_decide_eq_true (by kernel_rfl)) k0 bel lt0) (trodAll_cons_mk (Below.trod laidOut11 (by kernel_rfl) (of_decide_eq_true (by kernel_rfl)) k1 bel lt1) (trodAll_cons_mk (Below.trod laidOut11 (by kernel_rfl) (of_decide_eq_true (by kernel_rfl)) k2 bel lt2) trodAll_mk0))), rfl, bel.frame _, fun h => by cases h⟩

theorem over : Rows.configWithoutRow.holds Try.pinned (OpenSpec.ofChange Rows.configWithoutSpec) :=
  OpenClaim.holds_of_wide 8 Try.f8 rfl rfl rfl rfl rfl rfl rfl ⟨rfl, rfl, rfl, rfl, rfl⟩ rfl rfl rfl rfl rfl (by kernel_rfl) Try.func8 (by kernel_rfl)
    (of_decide_eq_true (by kernel_rfl)) (by unfold Func.isWrapper; first | (rw [if_pos (by decide +kernel)]; kernel_rfl) | (rw [if_neg (by decide +kernel)]; exact ⟨rfl, rfl⟩))
    (fun os started H enc _ => lifted os started H enc)

/-- The statement. -/
theorem proved : Rows.ConfigWithoutSaid := over
#print axioms proved
end Go.Proofs.Ytnagidgffkffhaa.G.configWithout
