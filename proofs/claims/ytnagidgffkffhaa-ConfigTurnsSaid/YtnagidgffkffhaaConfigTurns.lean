/-
  What any chain becomes without some, with one more, or with one that is synced, is the document's, or its error. Condition: none.
-/
import Derived.Test.YtnagidgffkffhaaGAwake
import Derived.Test.YtnagidgffkffhaaGOpen2
import Derived.Test.YtnagidgffkffhaaGPlain3
import Derived.Test.YtnagidgffkffhaaGMbs
import Derived.Test.YtnagidgffkffhaaGRef3
import Derived.Test.YtnagidgffkffhaaRows
namespace Go.Proofs.Ytnagidgffkffhaa.G.configTurns
open Go.ChangeShapes Go.WideShapes Go.ChangeAt Go.RowKit Cod Cfg
open Go.ChangeMaps (open_string shut_string)
set_option linter.unusedVariables false

theorem own : ownKnob Try.prog.godebug = none := by kernel_rfl

set_option linter.unusedSimpArgs false
set_option maxRecDepth 100000
theorem without_le (c : CfN) (g : List MbN) : (withoutN c g).1.l.length ≤ c.l.length := by
  have h := outN_le c.l g
  unfold withoutN laterN zeroN
  split
  · simp
  split
  · simp
  split
  · simp
  split
  · simp
  · exact h
theorem sync_le (c : CfN) (m : MbN) : (syncN c m).1.l.length ≤ c.l.length := by
  unfold syncN zeroN
  split
  · simp
  split
  · simp
  split
  · simp
  · simp [setN]
abbrev oV_0 : Oper := { dst := some 34, op := Go.Op.load 24 (Go.Operand.tmp 3), type := 24, pos := "law.go:58", after := #[], guard := none }
abbrev oV_1 : Oper := { dst := some 35, op := Go.Op.buildSlice 42 0 #[], type := 42, pos := "law.go:58", after := #[], guard := none }
abbrev oV_2 : Oper := { dst := some 36, op := Go.Op.move (Go.Operand.tmp 1), type := 42, pos := "law.go:58", after := #[], guard := none }
abbrev oV_3 : Oper := { dst := some 37, op := Go.Op.call { callee := Go.Callee.builtin Go.Builtin.append, args := #[Go.Operand.tmp 35, Go.Operand.tmp 36], argTypes := #[42, 42] }, type := 42, pos := "law.go:58", after := #[{ on := 1, ground := Go.Ground.data }, { on := 2, ground := Go.Ground.data }], guard := none }
abbrev oV_4 : Oper := { dst := some 38, op := Go.Op.call { callee := Go.Callee.value (Go.Operand.func 25), args := #[Go.Operand.tmp 34, Go.Operand.tmp 37], argTypes := #[24, 42] }, type := 30, pos := "law.go:58", after := #[{ on := 0, ground := Go.Ground.data }, { on := 3, ground := Go.Ground.data }, { on := 3, ground := Go.Ground.chain }], guard := none }
abbrev oV_5 : Oper := { dst := some 33, op := Go.Op.move (Go.Operand.tmp 38), type := 30, pos := "law.go:58", after := #[{ on := 4, ground := Go.Ground.data }], guard := none }
abbrev oV_6 : Oper := { dst := some 39, op := Go.Op.extract (Go.Operand.tmp 33) 0, type := 24, pos := "law.go:58", after := #[{ on := 5, ground := Go.Ground.data }], guard := none }
abbrev oV_7 : Oper := { dst := some 40, op := Go.Op.extract (Go.Operand.tmp 33) 1, type := 29, pos := "law.go:58", after := #[{ on := 5, ground := Go.Ground.data }, { on := 9, ground := Go.Ground.gcOnly Go.Departure.lateStores }], guard := none }
abbrev oV_8 : Oper := { dst := some 7, op := Go.Op.alloc 24, type := 0, pos := "law.go:58", after := #[], guard := none }
abbrev oV_9 : Oper := { dst := none, op := Go.Op.store 24 (Go.Operand.tmp 7) (Go.Operand.tmp 39), type := 0, pos := "law.go:58", after := #[{ on := 8, ground := Go.Ground.data }, { on := 6, ground := Go.Ground.data }, { on := 4, ground := Go.Ground.chain }, { on := 0, ground := Go.Ground.phase }, { on := 1, ground := Go.Ground.phase }, { on := 2, ground := Go.Ground.phase }, { on := 3, ground := Go.Ground.phase }, { on := 4, ground := Go.Ground.phase }, { on := 5, ground := Go.Ground.phase }, { on := 6, ground := Go.Ground.phase }, { on := 7, ground := Go.Ground.textOnly Go.Departure.lateStores }, { on := 8, ground := Go.Ground.phase }], guard := none }
abbrev oV_10 : Oper := { dst := some 8, op := Go.Op.assign (Go.Operand.tmp 40), type := 29, pos := "law.go:58", after := #[{ on := 7, ground := Go.Ground.data }, { on := 9, ground := Go.Ground.chain }, { on := 0, ground := Go.Ground.phase }, { on := 1, ground := Go.Ground.phase }, { on := 2, ground := Go.Ground.phase }, { on := 3, ground := Go.Ground.phase }, { on := 4, ground := Go.Ground.phase }, { on := 5, ground := Go.Ground.phase }, { on := 6, ground := Go.Ground.phase }, { on := 7, ground := Go.Ground.phase }, { on := 8, ground := Go.Ground.phase }, { on := 9, ground := Go.Ground.phase }], guard := none }
set_option maxHeartbeats 8000000 in
theorem walk (c : CfN) (p : Option Addr) (cap : Nat) (q : Option Addr) (qc : Nat) (gone : List MbN) (m : MbN) (w : World) (t : Chn w p c.l) (hc : c.l.length ≤ cap) (hl : c.l.length ≤ 9223372036854775807) (tg : Mbs w q gone ∧ (q = none → qc = 0)) (hgc : gone.length ≤ qc) (hgl0 : gone.length ≤ 9223372036854775807) :
    Calls Try.prog 4 #[cfV c p cap, .slice q gone.length qc, mbV m] w fun e w' => e = .returned (.bool true) ∧ Below w.heap.size w w' := by
  obtain ⟨e0, l⟩ := c
  obtain ⟨m0, m1⟩ := m
  have x := Lib.hid (Bt.new w e0 p l.length cap m0 m1)
  have haw := Lib.hid (fun W => awake_any W)
  have hfw : Hid (∀ W g, Blk W g #[.int .i64 e0, .slice p l.length cap] 24 → Calls Try.prog 11 #[.slice (some ⟨g, 0, none⟩) 1 1] W fun e w' => e = .returned (.bool (decide (l.length ≤ 40))) ∧ Below W.heap.size W w') := fun W g k => by
    have h := few_any g [(e0, p, l.length, cap)] W (cfs_one k) (by simp)
    have e : fewN [(e0, p, l.length, cap)] = decide (l.length ≤ 40) := by simp [fewN]
    rw [e] at h
    exact h
  replace t := Lib.hid t
  replace tg := Lib.hid tg
  replace hc := Lib.hid hc
  replace hl := Lib.hid hl
  replace hgc := Lib.hid hgc
  go_enter Try.func4, Try.ntmps4
  go_wp2_with fail
  refine (haw.out _).mono ?_
  rintro e w2 ⟨rfl, b2⟩
  replace x := Lib.hid (x.out.below b2)
  clear b2
  have y0 := x.out.k.cell 0
  have y1 := x.out.k.cell 1
  try dsimp only at y0 y1
  have kf := Blk.new w2 #[.int .i64 e0, .slice p l.length cap] 24
  replace x := Lib.hid (x.out.alloc (.cells #[.int .i64 e0, .slice p l.length cap] 24))
  have hfx := Lib.hid (hfw.out _ _ kf)
  clear kf hfw
  go_wp2_with fail
  refine hfx.out.mono ?_
  rintro e w3 ⟨rfl, b3⟩
  replace x := Lib.hid (x.out.below b3)
  clear b3 y0 y1 hfx
  by_cases h40 : l.length ≤ 40
  · rw [decide_eq_true h40]
    by_cases hg40 : (40 : Int) < gone.length
    · go_wp2_with fail
      refine (haw.out _).mono ?_
      rintro e w4 ⟨rfl, b4⟩
      go_wp2_with fail
      go_ret
      exact ⟨rfl, (x.out.below b4).b⟩
    · have hgI : (gone.length : Int) ≤ 40 := by omega
      have hlI : (l.length : Int) ≤ 40 := by omega
      have hgl : Hid (gone.length ≤ 1000) := by show _ ≤ _; omega
      go_upto_region 3 with fail
      clear hg40
      obtain ⟨d, er, hde⟩ : ∃ d er, withoutN ⟨e0, l⟩ gone = (d, er) := ⟨_, _, rfl⟩
      have hwo : Hid (∀ p9 n9 W, Chn W p l → Mbs W p9 gone → Calls Try.prog 25 #[.agg #[.int .i64 e0, .slice p l.length cap], .slice p9 gone.length n9] W fun e w' => AnsC (d, er) W e w') := fun p9 n9 W h1 h2 => by
        have h := without_any ⟨e0, l⟩ p cap gone p9 n9 W h1 hc.out (by dsimp only; omega) h2 (by omega)
        rw [hde] at h
        exact h
      replace x := Lib.hid (x.out.below (Below.refl _ _).drew)
      have hS : Hid (∀ W, Bt w e0 p l.length cap m0 m1 W → W.cell? ⟨w.heap.size, 0, none⟩ = some (.int .i64 e0) ∧ W.cell? ⟨w.heap.size, 1, none⟩ = some (.slice p l.length cap)) := fun W h => ⟨h.k.cell 0, h.k.cell 1⟩
      go_cut [7, 8] from 33 (fun v7 v8 wx => ∃ (qz : Nat) (p8 : Option Addr) (n8 : Nat), v7 = .pointer (some ⟨qz, 0, none⟩) ∧ v8 = .int .i64 er ∧ Hid (Bt w e0 p l.length cap m0 m1 wx) ∧ Hid (Blk wx qz #[.int .i64 d.epoch, .slice p8 d.l.length n8] 24) ∧ Hid (w.heap.size + 1 < qz) ∧ Hid (Chn wx p8 d.l) ∧ Hid (d.l.length ≤ n8))
      case first =>
        refine wp_region_noPanic ?_
        refine wp_region_held_drew (S := (fun W => W.cell? ⟨w.heap.size, 0, none⟩ = some (.int .i64 e0) ∧ W.cell? ⟨w.heap.size, 1, none⟩ = some (.slice p l.length cap))) (by kernel_rfl) ?hSoV_0 (fun hHeld => ?_)
        case hSoV_0 => ((try dsimp only); exact (hS.out _ x.out))
        generalize w3.drew = wD at *
        refine wpAnyH_take (i := 0) (oi := oV_0) (v := ?voV_1) rfl (by kernel_rfl) (by kernel_rfl) (by kernel_rfl) (fun _ _ _ h => h) (Or.inl ⟨by rfl, ?yoV_1⟩) (by assumption) ?roV_1
        case yoV_1 => (intro w hSw; (try dsimp only at hSw); unfold oV_0; go_simp; try with_reducible rfl)
        simp only [oV_0, Act.put, List.setIfInBounds_toArray, List.set_cons_zero, List.set_cons_succ]
        refine wpAnyH_take (i := 2) (oi := oV_2) (v := ?voV_2) rfl (by kernel_rfl) (by kernel_rfl) (by kernel_rfl) (fun _ _ _ h => h) (Or.inl ⟨by rfl, ?yoV_2⟩) (by assumption) ?roV_2
        case yoV_2 => (intro w hSw; (try dsimp only at hSw); unfold oV_2; go_simp; try with_reducible rfl)
        simp only [oV_2, Act.put, List.setIfInBounds_toArray, List.set_cons_zero, List.set_cons_succ]
        refine wpAnyH_ready (rs := [1, 8]) (by kernel_rfl) (by simp) ?_
        refine AllReadyH.cons (o := oV_1) rfl (fun K hK => ?_) ?_
        · clear hHeld
          unfold oV_1
          go_simp
          refine hK.out _ _ ?hSoV_3 (fun hHeld => ?_)
          case hSoV_3 => ((try dsimp only); exact (hS.out _ (x.out.alloc _)))
          clear hK K
          try simp only [Act.put, List.setIfInBounds_toArray, List.set_cons_zero, List.set_cons_succ]
          have hk0 : Hid (w.heap.size + 1 < wD.heap.size) := x.out.lt
          have k0 := Lib.hid (Blk.new wD #[] 26)
          replace x := Lib.hid (x.out.alloc (.cells #[] 26))
          generalize wD.alloc _ = woV1 at *
          generalize wD.heap.size = iwoV1 at *
          refine wpAnyH_ready (rs := [3, 8]) (by kernel_rfl) (by simp) ?_
          refine AllReadyH.cons (o := oV_3) rfl (fun K hK => ?_) ?_
          · clear hHeld
            unfold oV_3
            obtain ⟨va, woV2, hrun, ⟨p9, n9, hv9, g9⟩, gr9⟩ := mcopy k0.out (tg.out.1.below x.out.b) hgl.out qc tg.out.2
            subst hv9
            replace g9 := Lib.hid g9
            replace x := Lib.hid (x.out.grown gr9 hk0.out)
            clear k0 gr9
            refine step_append_st (by rfl) _ _ 42 42 (by rfl) _ _ (by rfl) (by rfl) hrun ?_
            clear hrun
            refine hK.out _ _ ?hSoV_4 (fun hHeld => ?_)
            case hSoV_4 => ((try dsimp only); exact (hS.out _ x.out))
            clear hK K
            try simp only [Act.put, List.setIfInBounds_toArray, List.set_cons_zero, List.set_cons_succ]
            refine wpAnyH_ready (rs := [4, 8]) (by kernel_rfl) (by simp) ?_
            refine AllReadyH.cons (o := oV_4) rfl (fun K hK => ?_) ?_
            · clear hHeld
              unfold oV_4
              go_simp
              go_at_call 25
              refine (hwo.out _ _ _ (t.out.below x.out.b) g9.out).mono ?_
              rintro e woV3 ⟨⟨p8, n8, rfl, t8, h8⟩, b8⟩
              replace t8 := Lib.hid t8
              replace h8 := Lib.hid h8
              replace x := Lib.hid (x.out.below b8)
              clear b8 g9
              dsimp only
              refine hK.out _ _ ?hSoV_5 (fun hHeld => ?_)
              case hSoV_5 => ((try dsimp only); exact (hS.out _ x.out))
              clear hK K
              try simp only [Act.put, List.setIfInBounds_toArray, List.set_cons_zero, List.set_cons_succ]
              refine wpAnyH_take (i := 5) (oi := oV_5) (v := ?voV_6) rfl (by kernel_rfl) (by kernel_rfl) (by kernel_rfl) (fun _ _ _ h => h) (Or.inl ⟨by rfl, ?yoV_6⟩) (by assumption) ?roV_6
              case yoV_6 => (intro w hSw; (try dsimp only at hSw); unfold oV_5; go_simp; try with_reducible rfl)
              simp only [oV_5, Act.put, List.setIfInBounds_toArray, List.set_cons_zero, List.set_cons_succ]
              refine wpAnyH_take (i := 6) (oi := oV_6) (v := ?voV_7) rfl (by kernel_rfl) (by kernel_rfl) (by kernel_rfl) (fun _ _ _ h => h) (Or.inl ⟨by rfl, ?yoV_7⟩) (by assumption) ?roV_7
              case yoV_7 => (intro w hSw; (try dsimp only at hSw); unfold oV_6; go_simp; try with_reducible rfl)
              simp only [oV_6, Act.put, List.setIfInBounds_toArray, List.set_cons_zero, List.set_cons_succ]
              refine wpAnyH_take (i := 7) (oi := oV_7) (v := ?voV_8) rfl (by kernel_rfl) (by kernel_rfl) (by kernel_rfl) (fun _ _ _ h => h) (Or.inl ⟨by rfl, ?yoV_8⟩) (by assumption) ?roV_8
              case yoV_8 => (intro w hSw; (try dsimp only at hSw); unfold oV_7; go_simp; try with_reducible rfl)
              simp only [oV_7, Act.put, List.setIfInBounds_toArray, List.set_cons_zero, List.set_cons_succ]
              refine wpAnyH_ready (rs := [8]) (by kernel_rfl) (by simp) ?_
              refine AllReadyH.cons (o := oV_8) rfl (fun K hK => ?_) ?_
              · clear hHeld
                unfold oV_8
                go_simp
                refine hK.out _ _ ?hSoV_9 (fun hHeld => ?_)
                case hSoV_9 => ((try dsimp only); exact (hS.out _ (x.out.alloc _)))
                clear hK K
                try simp only [Act.put, List.setIfInBounds_toArray, List.set_cons_zero, List.set_cons_succ]
                have hkz : Hid (w.heap.size + 1 < woV3.heap.size) := x.out.lt
                have kz := Lib.hid (Blk.new woV3 #[.int .i64 0, .slice none 0 0] 24)
                replace x := Lib.hid (x.out.alloc (.cells #[.int .i64 0, .slice none 0 0] 24))
                replace t8 := Lib.hid (t8.out.alloc (.cells #[.int .i64 0, .slice none 0 0] 24))
                generalize woV3.alloc _ = woV4 at *
                generalize woV3.heap.size = iwoV4 at *
                refine wpAnyH_ready (rs := [9]) (by kernel_rfl) (by simp) ?_
                refine AllReadyH.cons (o := oV_9) rfl (fun K hK => ?_) ?_
                · clear hHeld
                  unfold oV_9
                  have f0 := kz.out.fz 0
                  have f1 := kz.out.fz 1
                  have z0 := kz.out.cell 0
                  have z1 := kz.out.cell 1
                  go_simp
                  refine hK.out _ _ ?hSoV_10 (fun hHeld => ?_)
                  case hSoV_10 => ((try dsimp only); exact (hS.out _ ((x.out.setf hkz.out).setf hkz.out)))
                  clear hK K
                  try simp only [Act.put, List.setIfInBounds_toArray, List.set_cons_zero, List.set_cons_succ]
                  replace x := Lib.hid ((x.out.setf (i := 0) (v := .int .i64 d.epoch) hkz.out).setf (i := 1) (v := .slice p8 d.l.length n8) hkz.out)
                  replace t8 := Lib.hid ((t8.out.setz (i := 0) (v := .int .i64 d.epoch) kz.out (Nat.le_refl 2)).setz (i := 1) (v := .slice p8 d.l.length n8) kz.out.set (by simp))
                  replace kz : Hid (Blk _ _ #[.int .i64 d.epoch, .slice p8 d.l.length n8] 24) := (kz.out.set (i := 0) (u := .int .i64 d.epoch)).set (i := 1) (u := .slice p8 d.l.length n8)
                  clear f0 f1 z0 z1
                  generalize ((woV4.setCell _ _).setCell _ _) = woV5 at *
                  refine wpAnyH_take (i := 10) (oi := oV_10) (v := ?voV_11) rfl (by kernel_rfl) (by kernel_rfl) (by kernel_rfl) (fun _ _ _ h => h) (Or.inl ⟨by rfl, ?yoV_11⟩) (by assumption) ?roV_11
                  case yoV_11 => (intro w hSw; (try dsimp only at hSw); unfold oV_10; go_simp; try with_reducible rfl)
                  simp only [oV_10, Act.put, List.setIfInBounds_toArray, List.set_cons_zero, List.set_cons_succ]
                  refine wpAnyH_done (by kernel_rfl) ?_ _
                  refine NoPanic.normal ?_
                  clear hHeld
                  go_wp2_with fail
                  go_meet
                  exact ⟨_, p8, n8, rfl, rfl, x, kz, hkz, t8, h8⟩
                exact AllReadyH.nil
              exact AllReadyH.nil
            refine AllReadyH.cons (o := oV_8) rfl (fun K hK => ?_) ?_
            · clear hHeld
              unfold oV_8
              go_simp
              refine hK.out _ _ ?hSoV_12 (fun hHeld => ?_)
              case hSoV_12 => ((try dsimp only); exact (hS.out _ (x.out.alloc _)))
              clear hK K
              try simp only [Act.put, List.setIfInBounds_toArray, List.set_cons_zero, List.set_cons_succ]
              have hkz : Hid (w.heap.size + 1 < woV2.heap.size) := x.out.lt
              have kz := Lib.hid (Blk.new woV2 #[.int .i64 0, .slice none 0 0] 24)
              replace x := Lib.hid (x.out.alloc (.cells #[.int .i64 0, .slice none 0 0] 24))
              replace g9 := Lib.hid (g9.out.alloc (.cells #[.int .i64 0, .slice none 0 0] 24))
              generalize woV2.alloc _ = woV6 at *
              generalize woV2.heap.size = iwoV6 at *
              refine wpAnyH_ready (rs := [4]) (by kernel_rfl) (by simp) ?_
              refine AllReadyH.cons (o := oV_4) rfl (fun K hK => ?_) ?_
              · clear hHeld
                unfold oV_4
                go_simp
                go_at_call 25
                refine (hwo.out _ _ _ (t.out.below x.out.b) g9.out).mono ?_
                rintro e woV7 ⟨⟨p8, n8, rfl, t8, h8⟩, b8⟩
                replace t8 := Lib.hid t8
                replace h8 := Lib.hid h8
                replace x := Lib.hid (x.out.below b8)
                replace kz := Lib.hid (kz.out.below b8)
                clear b8 g9
                dsimp only
                refine hK.out _ _ ?hSoV_13 (fun hHeld => ?_)
                case hSoV_13 => ((try dsimp only); exact (hS.out _ x.out))
                clear hK K
                try simp only [Act.put, List.setIfInBounds_toArray, List.set_cons_zero, List.set_cons_succ]
                refine wpAnyH_take (i := 5) (oi := oV_5) (v := ?voV_14) rfl (by kernel_rfl) (by kernel_rfl) (by kernel_rfl) (fun _ _ _ h => h) (Or.inl ⟨by rfl, ?yoV_14⟩) (by assumption) ?roV_14
                case yoV_14 => (intro w hSw; (try dsimp only at hSw); unfold oV_5; go_simp; try with_reducible rfl)
                simp only [oV_5, Act.put, List.setIfInBounds_toArray, List.set_cons_zero, List.set_cons_succ]
                refine wpAnyH_take (i := 6) (oi := oV_6) (v := ?voV_15) rfl (by kernel_rfl) (by kernel_rfl) (by kernel_rfl) (fun _ _ _ h => h) (Or.inl ⟨by rfl, ?yoV_15⟩) (by assumption) ?roV_15
                case yoV_15 => (intro w hSw; (try dsimp only at hSw); unfold oV_6; go_simp; try with_reducible rfl)
                simp only [oV_6, Act.put, List.setIfInBounds_toArray, List.set_cons_zero, List.set_cons_succ]
                refine wpAnyH_take (i := 7) (oi := oV_7) (v := ?voV_16) rfl (by kernel_rfl) (by kernel_rfl) (by kernel_rfl) (fun _ _ _ h => h) (Or.inl ⟨by rfl, ?yoV_16⟩) (by assumption) ?roV_16
                case yoV_16 => (intro w hSw; (try dsimp only at hSw); unfold oV_7; go_simp; try with_reducible rfl)
                simp only [oV_7, Act.put, List.setIfInBounds_toArray, List.set_cons_zero, List.set_cons_succ]
                refine wpAnyH_ready (rs := [9]) (by kernel_rfl) (by simp) ?_
                refine AllReadyH.cons (o := oV_9) rfl (fun K hK => ?_) ?_
                · clear hHeld
                  unfold oV_9
                  have f0 := kz.out.fz 0
                  have f1 := kz.out.fz 1
                  have z0 := kz.out.cell 0
                  have z1 := kz.out.cell 1
                  go_simp
                  refine hK.out _ _ ?hSoV_17 (fun hHeld => ?_)
                  case hSoV_17 => ((try dsimp only); exact (hS.out _ ((x.out.setf hkz.out).setf hkz.out)))
                  clear hK K
                  try simp only [Act.put, List.setIfInBounds_toArray, List.set_cons_zero, List.set_cons_succ]
                  replace x := Lib.hid ((x.out.setf (i := 0) (v := .int .i64 d.epoch) hkz.out).setf (i := 1) (v := .slice p8 d.l.length n8) hkz.out)
                  replace t8 := Lib.hid ((t8.out.setz (i := 0) (v := .int .i64 d.epoch) kz.out (Nat.le_refl 2)).setz (i := 1) (v := .slice p8 d.l.length n8) kz.out.set (by simp))
                  replace kz : Hid (Blk _ _ #[.int .i64 d.epoch, .slice p8 d.l.length n8] 24) := (kz.out.set (i := 0) (u := .int .i64 d.epoch)).set (i := 1) (u := .slice p8 d.l.length n8)
                  clear f0 f1 z0 z1
                  generalize ((woV7.setCell _ _).setCell _ _) = woV8 at *
                  refine wpAnyH_take (i := 10) (oi := oV_10) (v := ?voV_18) rfl (by kernel_rfl) (by kernel_rfl) (by kernel_rfl) (fun _ _ _ h => h) (Or.inl ⟨by rfl, ?yoV_18⟩) (by assumption) ?roV_18
                  case yoV_18 => (intro w hSw; (try dsimp only at hSw); unfold oV_10; go_simp; try with_reducible rfl)
                  simp only [oV_10, Act.put, List.setIfInBounds_toArray, List.set_cons_zero, List.set_cons_succ]
                  refine wpAnyH_done (by kernel_rfl) ?_ _
                  refine NoPanic.normal ?_
                  clear hHeld
                  go_wp2_with fail
                  go_meet
                  exact ⟨_, p8, n8, rfl, rfl, x, kz, hkz, t8, h8⟩
                exact AllReadyH.nil
              exact AllReadyH.nil
            exact AllReadyH.nil
          refine AllReadyH.cons (o := oV_8) rfl (fun K hK => ?_) ?_
          · clear hHeld
            unfold oV_8
            go_simp
            refine hK.out _ _ ?hSoV_19 (fun hHeld => ?_)
            case hSoV_19 => ((try dsimp only); exact (hS.out _ (x.out.alloc _)))
            clear hK K
            try simp only [Act.put, List.setIfInBounds_toArray, List.set_cons_zero, List.set_cons_succ]
            have hkz : Hid (w.heap.size + 1 < woV1.heap.size) := x.out.lt
            have kz := Lib.hid (Blk.new woV1 #[.int .i64 0, .slice none 0 0] 24)
            replace x := Lib.hid (x.out.alloc (.cells #[.int .i64 0, .slice none 0 0] 24))
            replace k0 := Lib.hid (k0.out.alloc (.cells #[.int .i64 0, .slice none 0 0] 24))
            generalize woV1.alloc _ = woV9 at *
            generalize woV1.heap.size = iwoV9 at *
            refine wpAnyH_ready (rs := [3]) (by kernel_rfl) (by simp) ?_
            refine AllReadyH.cons (o := oV_3) rfl (fun K hK => ?_) ?_
            · clear hHeld
              unfold oV_3
              obtain ⟨va, woV10, hrun, ⟨p9, n9, hv9, g9⟩, gr9⟩ := mcopy k0.out (tg.out.1.below x.out.b) hgl.out qc tg.out.2
              subst hv9
              replace g9 := Lib.hid g9
              replace x := Lib.hid (x.out.grown gr9 hk0.out)
              replace kz := Lib.hid (kz.out.grown gr9 fun e => (Blk.ne k0.out kz.out (by decide)) (by injection e))
              clear k0 gr9
              refine step_append_st (by rfl) _ _ 42 42 (by rfl) _ _ (by rfl) (by rfl) hrun ?_
              clear hrun
              refine hK.out _ _ ?hSoV_20 (fun hHeld => ?_)
              case hSoV_20 => ((try dsimp only); exact (hS.out _ x.out))
              clear hK K
              try simp only [Act.put, List.setIfInBounds_toArray, List.set_cons_zero, List.set_cons_succ]
              refine wpAnyH_ready (rs := [4]) (by kernel_rfl) (by simp) ?_
              refine AllReadyH.cons (o := oV_4) rfl (fun K hK => ?_) ?_
              · clear hHeld
                unfold oV_4
                go_simp
                go_at_call 25
                refine (hwo.out _ _ _ (t.out.below x.out.b) g9.out).mono ?_
                rintro e woV11 ⟨⟨p8, n8, rfl, t8, h8⟩, b8⟩
                replace t8 := Lib.hid t8
                replace h8 := Lib.hid h8
                replace x := Lib.hid (x.out.below b8)
                replace kz := Lib.hid (kz.out.below b8)
                clear b8 g9
                dsimp only
                refine hK.out _ _ ?hSoV_21 (fun hHeld => ?_)
                case hSoV_21 => ((try dsimp only); exact (hS.out _ x.out))
                clear hK K
                try simp only [Act.put, List.setIfInBounds_toArray, List.set_cons_zero, List.set_cons_succ]
                refine wpAnyH_take (i := 5) (oi := oV_5) (v := ?voV_22) rfl (by kernel_rfl) (by kernel_rfl) (by kernel_rfl) (fun _ _ _ h => h) (Or.inl ⟨by rfl, ?yoV_22⟩) (by assumption) ?roV_22
                case yoV_22 => (intro w hSw; (try dsimp only at hSw); unfold oV_5; go_simp; try with_reducible rfl)
                simp only [oV_5, Act.put, List.setIfInBounds_toArray, List.set_cons_zero, List.set_cons_succ]
                refine wpAnyH_take (i := 6) (oi := oV_6) (v := ?voV_23) rfl (by kernel_rfl) (by kernel_rfl) (by kernel_rfl) (fun _ _ _ h => h) (Or.inl ⟨by rfl, ?yoV_23⟩) (by assumption) ?roV_23
                case yoV_23 => (intro w hSw; (try dsimp only at hSw); unfold oV_6; go_simp; try with_reducible rfl)
                simp only [oV_6, Act.put, List.setIfInBounds_toArray, List.set_cons_zero, List.set_cons_succ]
                refine wpAnyH_take (i := 7) (oi := oV_7) (v := ?voV_24) rfl (by kernel_rfl) (by kernel_rfl) (by kernel_rfl) (fun _ _ _ h => h) (Or.inl ⟨by rfl, ?yoV_24⟩) (by assumption) ?roV_24
                case yoV_24 => (intro w hSw; (try dsimp only at hSw); unfold oV_7; go_simp; try with_reducible rfl)
                simp only [oV_7, Act.put, List.setIfInBounds_toArray, List.set_cons_zero, List.set_cons_succ]
                refine wpAnyH_ready (rs := [9]) (by kernel_rfl) (by simp) ?_
                refine AllReadyH.cons (o := oV_9) rfl (fun K hK => ?_) ?_
                · clear hHeld
                  unfold oV_9
                  have f0 := kz.out.fz 0
                  have f1 := kz.out.fz 1
                  have z0 := kz.out.cell 0
                  have z1 := kz.out.cell 1
                  go_simp
                  refine hK.out _ _ ?hSoV_25 (fun hHeld => ?_)
                  case hSoV_25 => ((try dsimp only); exact (hS.out _ ((x.out.setf hkz.out).setf hkz.out)))
                  clear hK K
                  try simp only [Act.put, List.setIfInBounds_toArray, List.set_cons_zero, List.set_cons_succ]
                  replace x := Lib.hid ((x.out.setf (i := 0) (v := .int .i64 d.epoch) hkz.out).setf (i := 1) (v := .slice p8 d.l.length n8) hkz.out)
                  replace t8 := Lib.hid ((t8.out.setz (i := 0) (v := .int .i64 d.epoch) kz.out (Nat.le_refl 2)).setz (i := 1) (v := .slice p8 d.l.length n8) kz.out.set (by simp))
                  replace kz : Hid (Blk _ _ #[.int .i64 d.epoch, .slice p8 d.l.length n8] 24) := (kz.out.set (i := 0) (u := .int .i64 d.epoch)).set (i := 1) (u := .slice p8 d.l.length n8)
                  clear f0 f1 z0 z1
                  generalize ((woV11.setCell _ _).setCell _ _) = woV12 at *
                  refine wpAnyH_take (i := 10) (oi := oV_10) (v := ?voV_26) rfl (by kernel_rfl) (by kernel_rfl) (by kernel_rfl) (fun _ _ _ h => h) (Or.inl ⟨by rfl, ?yoV_26⟩) (by assumption) ?roV_26
                  case yoV_26 => (intro w hSw; (try dsimp only at hSw); unfold oV_10; go_simp; try with_reducible rfl)
                  simp only [oV_10, Act.put, List.setIfInBounds_toArray, List.set_cons_zero, List.set_cons_succ]
                  refine wpAnyH_done (by kernel_rfl) ?_ _
                  refine NoPanic.normal ?_
                  clear hHeld
                  go_wp2_with fail
                  go_meet
                  exact ⟨_, p8, n8, rfl, rfl, x, kz, hkz, t8, h8⟩
                exact AllReadyH.nil
              exact AllReadyH.nil
            exact AllReadyH.nil
          exact AllReadyH.nil
        refine AllReadyH.cons (o := oV_8) rfl (fun K hK => ?_) ?_
        · clear hHeld
          unfold oV_8
          go_simp
          refine hK.out _ _ ?hSoV_27 (fun hHeld => ?_)
          case hSoV_27 => ((try dsimp only); exact (hS.out _ (x.out.alloc _)))
          clear hK K
          try simp only [Act.put, List.setIfInBounds_toArray, List.set_cons_zero, List.set_cons_succ]
          have hkz : Hid (w.heap.size + 1 < wD.heap.size) := x.out.lt
          have kz := Lib.hid (Blk.new wD #[.int .i64 0, .slice none 0 0] 24)
          replace x := Lib.hid (x.out.alloc (.cells #[.int .i64 0, .slice none 0 0] 24))
          generalize wD.alloc _ = woV13 at *
          generalize wD.heap.size = iwoV13 at *
          refine wpAnyH_ready (rs := [1]) (by kernel_rfl) (by simp) ?_
          refine AllReadyH.cons (o := oV_1) rfl (fun K hK => ?_) ?_
          · clear hHeld
            unfold oV_1
            go_simp
            refine hK.out _ _ ?hSoV_28 (fun hHeld => ?_)
            case hSoV_28 => ((try dsimp only); exact (hS.out _ (x.out.alloc _)))
            clear hK K
            try simp only [Act.put, List.setIfInBounds_toArray, List.set_cons_zero, List.set_cons_succ]
            have hk0 : Hid (w.heap.size + 1 < woV13.heap.size) := x.out.lt
            have k0 := Lib.hid (Blk.new woV13 #[] 26)
            replace x := Lib.hid (x.out.alloc (.cells #[] 26))
            replace kz := Lib.hid (kz.out.alloc (.cells #[] 26))
            generalize woV13.alloc _ = woV14 at *
            generalize woV13.heap.size = iwoV14 at *
            refine wpAnyH_ready (rs := [3]) (by kernel_rfl) (by simp) ?_
            refine AllReadyH.cons (o := oV_3) rfl (fun K hK => ?_) ?_
            · clear hHeld
              unfold oV_3
              obtain ⟨va, woV15, hrun, ⟨p9, n9, hv9, g9⟩, gr9⟩ := mcopy k0.out (tg.out.1.below x.out.b) hgl.out qc tg.out.2
              subst hv9
              replace g9 := Lib.hid g9
              replace x := Lib.hid (x.out.grown gr9 hk0.out)
              replace kz := Lib.hid (kz.out.grown gr9 fun e => (Blk.ne k0.out kz.out (by decide)) (by injection e))
              clear k0 gr9
              refine step_append_st (by rfl) _ _ 42 42 (by rfl) _ _ (by rfl) (by rfl) hrun ?_
              clear hrun
              refine hK.out _ _ ?hSoV_29 (fun hHeld => ?_)
              case hSoV_29 => ((try dsimp only); exact (hS.out _ x.out))
              clear hK K
              try simp only [Act.put, List.setIfInBounds_toArray, List.set_cons_zero, List.set_cons_succ]
              refine wpAnyH_ready (rs := [4]) (by kernel_rfl) (by simp) ?_
              refine AllReadyH.cons (o := oV_4) rfl (fun K hK => ?_) ?_
              · clear hHeld
                unfold oV_4
                go_simp
                go_at_call 25
                refine (hwo.out _ _ _ (t.out.below x.out.b) g9.out).mono ?_
                rintro e woV16 ⟨⟨p8, n8, rfl, t8, h8⟩, b8⟩
                replace t8 := Lib.hid t8
                replace h8 := Lib.hid h8
                replace x := Lib.hid (x.out.below b8)
                replace kz := Lib.hid (kz.out.below b8)
                clear b8 g9
                dsimp only
                refine hK.out _ _ ?hSoV_30 (fun hHeld => ?_)
                case hSoV_30 => ((try dsimp only); exact (hS.out _ x.out))
                clear hK K
                try simp only [Act.put, List.setIfInBounds_toArray, List.set_cons_zero, List.set_cons_succ]
                refine wpAnyH_take (i := 5) (oi := oV_5) (v := ?voV_31) rfl (by kernel_rfl) (by kernel_rfl) (by kernel_rfl) (fun _ _ _ h => h) (Or.inl ⟨by rfl, ?yoV_31⟩) (by assumption) ?roV_31
                case yoV_31 => (intro w hSw; (try dsimp only at hSw); unfold oV_5; go_simp; try with_reducible rfl)
                simp only [oV_5, Act.put, List.setIfInBounds_toArray, List.set_cons_zero, List.set_cons_succ]
                refine wpAnyH_take (i := 6) (oi := oV_6) (v := ?voV_32) rfl (by kernel_rfl) (by kernel_rfl) (by kernel_rfl) (fun _ _ _ h => h) (Or.inl ⟨by rfl, ?yoV_32⟩) (by assumption) ?roV_32
                case yoV_32 => (intro w hSw; (try dsimp only at hSw); unfold oV_6; go_simp; try with_reducible rfl)
                simp only [oV_6, Act.put, List.setIfInBounds_toArray, List.set_cons_zero, List.set_cons_succ]
                refine wpAnyH_take (i := 7) (oi := oV_7) (v := ?voV_33) rfl (by kernel_rfl) (by kernel_rfl) (by kernel_rfl) (fun _ _ _ h => h) (Or.inl ⟨by rfl, ?yoV_33⟩) (by assumption) ?roV_33
                case yoV_33 => (intro w hSw; (try dsimp only at hSw); unfold oV_7; go_simp; try with_reducible rfl)
                simp only [oV_7, Act.put, List.setIfInBounds_toArray, List.set_cons_zero, List.set_cons_succ]
                refine wpAnyH_ready (rs := [9]) (by kernel_rfl) (by simp) ?_
                refine AllReadyH.cons (o := oV_9) rfl (fun K hK => ?_) ?_
                · clear hHeld
                  unfold oV_9
                  have f0 := kz.out.fz 0
                  have f1 := kz.out.fz 1
                  have z0 := kz.out.cell 0
                  have z1 := kz.out.cell 1
                  go_simp
                  refine hK.out _ _ ?hSoV_34 (fun hHeld => ?_)
                  case hSoV_34 => ((try dsimp only); exact (hS.out _ ((x.out.setf hkz.out).setf hkz.out)))
                  clear hK K
                  try simp only [Act.put, List.setIfInBounds_toArray, List.set_cons_zero, List.set_cons_succ]
                  replace x := Lib.hid ((x.out.setf (i := 0) (v := .int .i64 d.epoch) hkz.out).setf (i := 1) (v := .slice p8 d.l.length n8) hkz.out)
                  replace t8 := Lib.hid ((t8.out.setz (i := 0) (v := .int .i64 d.epoch) kz.out (Nat.le_refl 2)).setz (i := 1) (v := .slice p8 d.l.length n8) kz.out.set (by simp))
                  replace kz : Hid (Blk _ _ #[.int .i64 d.epoch, .slice p8 d.l.length n8] 24) := (kz.out.set (i := 0) (u := .int .i64 d.epoch)).set (i := 1) (u := .slice p8 d.l.length n8)
                  clear f0 f1 z0 z1
                  generalize ((woV16.setCell _ _).setCell _ _) = woV17 at *
                  refine wpAnyH_take (i := 10) (oi := oV_10) (v := ?voV_35) rfl (by kernel_rfl) (by kernel_rfl) (by kernel_rfl) (fun _ _ _ h => h) (Or.inl ⟨by rfl, ?yoV_35⟩) (by assumption) ?roV_35
                  case yoV_35 => (intro w hSw; (try dsimp only at hSw); unfold oV_10; go_simp; try with_reducible rfl)
                  simp only [oV_10, Act.put, List.setIfInBounds_toArray, List.set_cons_zero, List.set_cons_succ]
                  refine wpAnyH_done (by kernel_rfl) ?_ _
                  refine NoPanic.normal ?_
                  clear hHeld
                  go_wp2_with fail
                  go_meet
                  exact ⟨_, p8, n8, rfl, rfl, x, kz, hkz, t8, h8⟩
                exact AllReadyH.nil
              exact AllReadyH.nil
            exact AllReadyH.nil
          exact AllReadyH.nil
        exact AllReadyH.nil
      case rest =>
        obtain ⟨qz, p7, n7, rfl, rfl, x4, k7, hkz, t7, h7⟩ := hcut
        clear x hS hwo
        obtain ⟨w4, hw4⟩ : ∃ y, y = wc := ⟨_, rfl⟩
        subst hw4
        obtain ⟨dj, ej, hje⟩ : ∃ d er, joinN ⟨e0, l⟩ ⟨m0, m1⟩ = (d, er) := ⟨_, _, rfl⟩
        obtain ⟨ds, es, hse⟩ : ∃ d er, syncN ⟨e0, l⟩ ⟨m0, m1⟩ = (d, er) := ⟨_, _, rfl⟩
        have hd1 : d.l.length ≤ 4611686018427387904 := by have h := without_le ⟨e0, l⟩ gone; rw [hde] at h; dsimp only at h; omega
        have hd2 : dj.l.length ≤ 4611686018427387904 := by have h := join_le ⟨e0, l⟩ ⟨m0, m1⟩; rw [hje] at h; dsimp only at h; omega
        have hd3 : ds.l.length ≤ 4611686018427387904 := by have h := sync_le ⟨e0, l⟩ ⟨m0, m1⟩; rw [hse] at h; dsimp only at h; omega
        have hl62 : l.length ≤ 4611686018427387904 := by omega
        have hc0 : Hid (∀ W, Chn W p l → Mbs W q gone → Calls Try.prog 26 #[.agg #[.int .i64 e0, .slice p l.length cap], .slice q gone.length qc] W fun e w' => AnsC (d, er) W e w') := fun W tW gW => by
          have h := refWithout_any ⟨e0, l⟩ p cap gone q qc W tW hc.out hl62 gW hgl.out
          rw [hde] at h
          exact h
        have hc1 : Hid (∀ W, Chn W p l → Calls Try.prog 27 #[.agg #[.int .i64 e0, .slice p l.length cap], .agg #[.int .i64 m0, .int .i64 m1]] W fun e w' => AnsC (dj, ej) W e w') := fun W tW => by
          have h := join_any ⟨e0, l⟩ p cap ⟨m0, m1⟩ W tW hc.out hl62
          rw [hje] at h
          exact h
        have hc2 : Hid (∀ W, Chn W p l → Calls Try.prog 28 #[.agg #[.int .i64 e0, .slice p l.length cap], .agg #[.int .i64 m0, .int .i64 m1]] W fun e w' => AnsC (dj, ej) W e w') := fun W tW => by
          have h := refJoin_any ⟨e0, l⟩ p cap ⟨m0, m1⟩ W tW hc.out hl62
          rw [hje] at h
          exact h
        have hc3 : Hid (∀ W, Chn W p l → Calls Try.prog 29 #[.agg #[.int .i64 e0, .slice p l.length cap], .agg #[.int .i64 m0, .int .i64 m1]] W fun e w' => AnsC (ds, es) W e w') := fun W tW => by
          have h := synced_any ⟨e0, l⟩ p cap ⟨m0, m1⟩ W tW hc.out hl62
          rw [hse] at h
          exact h
        have hc4 : Hid (∀ W, Chn W p l → Calls Try.prog 30 #[.agg #[.int .i64 e0, .slice p l.length cap], .agg #[.int .i64 m0, .int .i64 m1]] W fun e w' => AnsC (ds, es) W e w') := fun W tW => by
          have h := refSynced_any ⟨e0, l⟩ p cap ⟨m0, m1⟩ W tW hc.out hl62
          rw [hse] at h
          exact h
        replace hde := Lib.hid hde
        replace hje := Lib.hid hje
        replace hse := Lib.hid hse
        have y0 := x4.out.k.cell 0
        have y1 := x4.out.k.cell 1
        have hx := Lib.hid (hc0.out _ (t.out.below x4.out.b) (tg.out.1.below x4.out.b))
        go_wp2_with fail
        refine hx.out.mono ?_
        rintro e u0 ⟨⟨p9, n9, rfl, tt, hh⟩, bb⟩
        have ba := bb.alloc bb.size (.cells #[.int .i64 d.epoch, .slice p9 d.l.length n9] 24)
        have k9 := Lib.hid (Blk.new u0 #[.int .i64 d.epoch, .slice p9 d.l.length n9] 24)
        have t9 := Lib.hid (tt.alloc (.cells #[.int .i64 d.epoch, .slice p9 d.l.length n9] 24))
        replace x4 := Lib.hid (x4.out.below ba)
        replace k7 := Lib.hid (k7.out.below ba)
        replace t7 := Lib.hid (t7.out.below ba)
        clear ba bb tt hh y0 y1 hx hc0
        go_upto_region 5 with fail
        generalize u0.alloc _ = v0 at *
        generalize u0.heap.size = i9 at *
        have y0 := x4.out.k.cell 0
        have y1 := x4.out.k.cell 1
        have y2 := x4.out.d.cell 0
        have y3 := x4.out.d.cell 1
        have hx := Lib.hid (hc1.out _ (t.out.below x4.out.b))
        go_wp2_with fail
        refine hx.out.mono ?_
        rintro e u1 ⟨⟨p11, n11, rfl, tt, hh⟩, bb⟩
        have ba := bb.alloc bb.size (.cells #[.int .i64 dj.epoch, .slice p11 dj.l.length n11] 24)
        have k11 := Lib.hid (Blk.new u1 #[.int .i64 dj.epoch, .slice p11 dj.l.length n11] 24)
        have t11 := Lib.hid (tt.alloc (.cells #[.int .i64 dj.epoch, .slice p11 dj.l.length n11] 24))
        replace x4 := Lib.hid (x4.out.below ba)
        replace k7 := Lib.hid (k7.out.below ba)
        replace t7 := Lib.hid (t7.out.below ba)
        replace k9 := Lib.hid (k9.out.below ba)
        replace t9 := Lib.hid (t9.out.below ba)
        clear ba bb tt hh y0 y1 y2 y3 hx hc1
        go_upto_region 6 with fail
        generalize u1.alloc _ = v1 at *
        generalize u1.heap.size = i11 at *
        have y0 := x4.out.k.cell 0
        have y1 := x4.out.k.cell 1
        have y2 := x4.out.d.cell 0
        have y3 := x4.out.d.cell 1
        have hx := Lib.hid (hc2.out _ (t.out.below x4.out.b))
        go_wp2_with fail
        refine hx.out.mono ?_
        rintro e u2 ⟨⟨p13, n13, rfl, tt, hh⟩, bb⟩
        have ba := bb.alloc bb.size (.cells #[.int .i64 dj.epoch, .slice p13 dj.l.length n13] 24)
        have k13 := Lib.hid (Blk.new u2 #[.int .i64 dj.epoch, .slice p13 dj.l.length n13] 24)
        have t13 := Lib.hid (tt.alloc (.cells #[.int .i64 dj.epoch, .slice p13 dj.l.length n13] 24))
        replace x4 := Lib.hid (x4.out.below ba)
        replace k7 := Lib.hid (k7.out.below ba)
        replace t7 := Lib.hid (t7.out.below ba)
        replace k9 := Lib.hid (k9.out.below ba)
        replace t9 := Lib.hid (t9.out.below ba)
        replace k11 := Lib.hid (k11.out.below ba)
        replace t11 := Lib.hid (t11.out.below ba)
        clear ba bb tt hh y0 y1 y2 y3 hx hc2
        go_upto_region 7 with fail
        generalize u2.alloc _ = v2 at *
        generalize u2.heap.size = i13 at *
        have y0 := x4.out.k.cell 0
        have y1 := x4.out.k.cell 1
        have y2 := x4.out.d.cell 0
        have y3 := x4.out.d.cell 1
        have hx := Lib.hid (hc3.out _ (t.out.below x4.out.b))
        go_wp2_with fail
        refine hx.out.mono ?_
        rintro e u3 ⟨⟨p15, n15, rfl, tt, hh⟩, bb⟩
        have ba := bb.alloc bb.size (.cells #[.int .i64 ds.epoch, .slice p15 ds.l.length n15] 24)
        have k15 := Lib.hid (Blk.new u3 #[.int .i64 ds.epoch, .slice p15 ds.l.length n15] 24)
        have t15 := Lib.hid (tt.alloc (.cells #[.int .i64 ds.epoch, .slice p15 ds.l.length n15] 24))
        replace x4 := Lib.hid (x4.out.below ba)
        replace k7 := Lib.hid (k7.out.below ba)
        replace t7 := Lib.hid (t7.out.below ba)
        replace k9 := Lib.hid (k9.out.below ba)
        replace t9 := Lib.hid (t9.out.below ba)
        replace k11 := Lib.hid (k11.out.below ba)
        replace t11 := Lib.hid (t11.out.below ba)
        replace k13 := Lib.hid (k13.out.below ba)
        replace t13 := Lib.hid (t13.out.below ba)
        clear ba bb tt hh y0 y1 y2 y3 hx hc3
        go_upto_region 8 with fail
        generalize u3.alloc _ = v3 at *
        generalize u3.heap.size = i15 at *
        have y0 := x4.out.k.cell 0
        have y1 := x4.out.k.cell 1
        have y2 := x4.out.d.cell 0
        have y3 := x4.out.d.cell 1
        have hx := Lib.hid (hc4.out _ (t.out.below x4.out.b))
        go_wp2_with fail
        refine hx.out.mono ?_
        rintro e u4 ⟨⟨p17, n17, rfl, tt, hh⟩, bb⟩
        have ba := bb.alloc bb.size (.cells #[.int .i64 ds.epoch, .slice p17 ds.l.length n17] 24)
        have k17 := Lib.hid (Blk.new u4 #[.int .i64 ds.epoch, .slice p17 ds.l.length n17] 24)
        have t17 := Lib.hid (tt.alloc (.cells #[.int .i64 ds.epoch, .slice p17 ds.l.length n17] 24))
        replace x4 := Lib.hid (x4.out.below ba)
        replace k7 := Lib.hid (k7.out.below ba)
        replace t7 := Lib.hid (t7.out.below ba)
        replace k9 := Lib.hid (k9.out.below ba)
        replace t9 := Lib.hid (t9.out.below ba)
        replace k11 := Lib.hid (k11.out.below ba)
        replace t11 := Lib.hid (t11.out.below ba)
        replace k13 := Lib.hid (k13.out.below ba)
        replace t13 := Lib.hid (t13.out.below ba)
        replace k15 := Lib.hid (k15.out.below ba)
        replace t15 := Lib.hid (t15.out.below ba)
        clear ba bb tt hh y0 y1 y2 y3 hx hc4
        go_upto_region 9 with fail
        generalize u4.alloc _ = v4 at *
        generalize u4.heap.size = i17 at *
        have c70 := k7.out.cell 0
        have c71 := k7.out.cell 1
        try dsimp only at c70 c71
        have c90 := k9.out.cell 0
        have c91 := k9.out.cell 1
        try dsimp only at c90 c91
        have hs := same_any d d p7 p9 n7 n9 _ t7.out t9.out hd1 hd1
        rw [decide_eq_true rfl] at hs
        replace hs := Lib.hid hs
        go_wp2_with fail
        refine hs.out.mono ?_
        rintro e z0 ⟨rfl, bb⟩
        replace x4 := Lib.hid (x4.out.below bb)
        replace k7 := Lib.hid (k7.out.below bb)
        replace t7 := Lib.hid (t7.out.below bb)
        replace k9 := Lib.hid (k9.out.below bb)
        replace t9 := Lib.hid (t9.out.below bb)
        replace k11 := Lib.hid (k11.out.below bb)
        replace t11 := Lib.hid (t11.out.below bb)
        replace k13 := Lib.hid (k13.out.below bb)
        replace t13 := Lib.hid (t13.out.below bb)
        replace k15 := Lib.hid (k15.out.below bb)
        replace t15 := Lib.hid (t15.out.below bb)
        replace k17 := Lib.hid (k17.out.below bb)
        replace t17 := Lib.hid (t17.out.below bb)
        clear bb hs c70 c71 c90 c91
        have c110 := k11.out.cell 0
        have c111 := k11.out.cell 1
        try dsimp only at c110 c111
        have c130 := k13.out.cell 0
        have c131 := k13.out.cell 1
        try dsimp only at c130 c131
        have hs := same_any dj dj p11 p13 n11 n13 _ t11.out t13.out hd2 hd2
        rw [decide_eq_true rfl] at hs
        replace hs := Lib.hid hs
        go_wp2_with fail
        refine hs.out.mono ?_
        rintro e z1 ⟨rfl, bb⟩
        replace x4 := Lib.hid (x4.out.below bb)
        replace k7 := Lib.hid (k7.out.below bb)
        replace t7 := Lib.hid (t7.out.below bb)
        replace k9 := Lib.hid (k9.out.below bb)
        replace t9 := Lib.hid (t9.out.below bb)
        replace k11 := Lib.hid (k11.out.below bb)
        replace t11 := Lib.hid (t11.out.below bb)
        replace k13 := Lib.hid (k13.out.below bb)
        replace t13 := Lib.hid (t13.out.below bb)
        replace k15 := Lib.hid (k15.out.below bb)
        replace t15 := Lib.hid (t15.out.below bb)
        replace k17 := Lib.hid (k17.out.below bb)
        replace t17 := Lib.hid (t17.out.below bb)
        clear bb hs c110 c111 c130 c131
        have c150 := k15.out.cell 0
        have c151 := k15.out.cell 1
        try dsimp only at c150 c151
        have c170 := k17.out.cell 0
        have c171 := k17.out.cell 1
        try dsimp only at c170 c171
        have hs := same_any ds ds p15 p17 n15 n17 _ t15.out t17.out hd3 hd3
        rw [decide_eq_true rfl] at hs
        replace hs := Lib.hid hs
        go_wp2_with fail
        refine hs.out.mono ?_
        rintro e z2 ⟨rfl, bb⟩
        replace x4 := Lib.hid (x4.out.below bb)
        replace k7 := Lib.hid (k7.out.below bb)
        replace t7 := Lib.hid (t7.out.below bb)
        replace k9 := Lib.hid (k9.out.below bb)
        replace t9 := Lib.hid (t9.out.below bb)
        replace k11 := Lib.hid (k11.out.below bb)
        replace t11 := Lib.hid (t11.out.below bb)
        replace k13 := Lib.hid (k13.out.below bb)
        replace t13 := Lib.hid (t13.out.below bb)
        replace k15 := Lib.hid (k15.out.below bb)
        replace t15 := Lib.hid (t15.out.below bb)
        replace k17 := Lib.hid (k17.out.below bb)
        replace t17 := Lib.hid (t17.out.below bb)
        clear bb hs c150 c151 c170 c171
        go_wp2_with fail
        go_ret
        exact ⟨rfl, x4.out.b⟩
  · rw [decide_eq_false h40]
    go_wp2_with fail
    refine (haw.out _).mono ?_
    rintro e w4 ⟨rfl, b4⟩
    go_wp2_with fail
    go_ret
    exact ⟨rfl, (x.out.below b4).b⟩

set_option maxRecDepth 100000 in
theorem lifted (os : Os) (started : os.Started) (H : Type) (enc : TypeId × Value → H) :
    ReturnsInHanded {} Try.checked os 4 .any (Rows.configTurnsSpec.pre6 enc Try.prog Try.f4 Rows.configTurnsRow.domain false) (Rows.configTurnsSpec.post enc Try.prog Try.f4 false true false false) := by
  refine returnsInHanded_of_change (C := Try.checked) own started (by kernel_rfl) Try.func4
    (ChangeSpec.witness6 (enc := enc) (C := Try.checked) false ⟨#[], #[.agg #[.int .i64 0, .slice none 0 0], .slice none 0 0, .agg #[.int .i64 0, .int .i64 0]], []⟩ 8 (by kernel_rfl) (by kernel_rfl) (by kernel_rfl) (by kernel_rfl)) ?_
  intro W base args ds gs before hval0 hW _ _
  have hval : ∀ (j : Nat) t v, Try.f4.params[j]? = some t → args[j]? = some v → Value.okWide Try.prog W .any base t v := hval0
  have hW' := hW
  obtain ⟨p, q, hA0, hV, rfl, hfz, hnd⟩ := hW
  have hA : DataW.TrodAll enc Try.prog W 0 (fun _ => true) true Try.f4.params.toList args.toList ds p := hA0
  rw [Try.params4] at hA hval
  obtain ⟨v0, vs0, d0, ds0, p0, q0, hargs, rfl, rfl, h0, r0⟩ := trodAll_cons hA
  obtain ⟨v1, vs1, d1, ds1, p1, q1, rfl, rfl, rfl, h1, r1⟩ := trodAll_cons r0
  obtain ⟨v2, vs2, d2, ds2, p2, q2, rfl, rfl, rfl, h2, r2⟩ := trodAll_cons r1
  obtain ⟨rfl, rfl, rfl⟩ := trodAll_nil r2
  obtain rfl : args = #[v0, v1, v2] := by cases args; simp_all
  obtain ⟨rfl, rfl⟩ := trodVars_none hV
  have k0 := h0
  have lt0 : ∀ x ∈ p0, x.block < W.heap.size := by obtain ⟨m, hm⟩ := k0; exact DataW.trod_lt m _ _ _ hm
  obtain ⟨a0, q0, cap0, rfl, w0, hc0, hl0⟩ := open_cf (hval 0 24 v0 rfl rfl) h0
  have k1 := h1
  have lt1 : ∀ x ∈ p1, x.block < W.heap.size := by obtain ⟨m, hm⟩ := k1; exact DataW.trod_lt m _ _ _ hm
  obtain ⟨a1, len1, cap1, rfl⟩ := okWide_slice Try.underlying42 (hval 1 42 v1 rfl rfl)
  obtain ⟨f1, rfl, w1, hc1, ln1⟩ : ∃ f : List MbN, f.length = len1 ∧ (Mbs W a1 f ∧ (a1 = none → cap1 = 0)) ∧ len1 ≤ cap1 ∧ len1 ≤ 9223372036854775807 := by
    obtain ⟨fuel, hf⟩ := h1
    exact mbs_of hf
  have k2 := h2
  have lt2 : ∀ x ∈ p2, x.block < W.heap.size := by obtain ⟨m, hm⟩ := k2; exact DataW.trod_lt m _ _ _ hm
  obtain ⟨a2, rfl⟩ := open_mb (hval 2 26 v2 rfl rfl) h2
  clear hA0 hval0
  refine (walk a0 q0 cap0 a1 cap1 f1 a2 W w0 hc0 hl0 w1 hc1 ln1).mono fun e W' ⟨he, bel⟩ => ?_
  subst he
  exact ⟨_, rfl, _, _, _, [], _, [], hW', trodAll_mk1 (shut_bool Try.underlying4 _), (trodAll_cons_mk (Below.trod laidOut11 (by kernel_rfl) (of_decide_eq_true (by kernel_rfl)) k0 bel lt0) (trodAll_cons_mk (Below.trod laidOut11 (by kernel_rfl) (of_decide_eq_true (by kernel_rfl)) k1 bel lt1) (trodAll_cons_mk (Below.trod laidOut11 (by kernel_rfl) (of_decide_eq_true (by kernel_rfl)) k2 bel lt2) trodAll_mk0))), rfl, bel.frame _, fun h => by cases h⟩

theorem over : Rows.configTurnsRow.holds Try.pinned (OpenSpec.ofChange Rows.configTurnsSpec) :=
  OpenClaim.holds_of_wide 4 Try.f4 rfl rfl rfl rfl rfl rfl rfl ⟨rfl, rfl, rfl, rfl, rfl⟩ rfl rfl rfl rfl rfl (by kernel_rfl) Try.func4 (by kernel_rfl)
    (of_decide_eq_true (by kernel_rfl)) (by unfold Func.isWrapper; first | (rw [if_pos (by decide +kernel)]; kernel_rfl) | (rw [if_neg (by decide +kernel)]; exact ⟨rfl, rfl⟩))
    (fun os started H enc _ => lifted os started H enc)

/-- The statement. -/
theorem proved : Rows.ConfigTurnsSaid := over
#print axioms proved
end Go.Proofs.Ytnagidgffkffhaa.G.configTurns
