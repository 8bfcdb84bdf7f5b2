/-
  Layer 11: what a chain becomes with one that is synced: the document's Synced. Condition: chains of at most 2^62 seats.
-/
import Derived.Test.YtnagidgffkffhaaGRef2
set_option linter.unusedVariables false
set_option linter.unusedSimpArgs false
namespace Go.Proofs.Ytnagidgffkffhaa.G
open Go.RowKit Cfg
set_option maxRecDepth 100000
abbrev oZ_0 : Oper := { dst := some 25, op := Go.Op.fieldAddr 24 (Go.Operand.tmp 2) 0, type := 0, pos := "ref.go:129", after := #[], guard := none }
abbrev oZ_1 : Oper := { dst := some 26, op := Go.Op.load 3 (Go.Operand.tmp 25), type := 3, pos := "ref.go:129", after := #[{ on := 0, ground := Go.Ground.data }], guard := none }
abbrev oZ_2 : Oper := { dst := some 27, op := Go.Op.buildSlice 22 0 #[], type := 22, pos := "ref.go:129", after := #[], guard := none }
abbrev oZ_3 : Oper := { dst := some 28, op := Go.Op.fieldAddr 24 (Go.Operand.tmp 2) 1, type := 0, pos := "ref.go:129", after := #[], guard := none }
abbrev oZ_4 : Oper := { dst := some 29, op := Go.Op.load 22 (Go.Operand.tmp 28), type := 22, pos := "ref.go:129", after := #[{ on := 3, ground := Go.Ground.data }], guard := none }
abbrev oZ_5 : Oper := { dst := some 30, op := Go.Op.call { callee := Go.Callee.builtin Go.Builtin.append, args := #[Go.Operand.tmp 27, Go.Operand.tmp 29], argTypes := #[22, 22] }, type := 22, pos := "ref.go:129", after := #[{ on := 2, ground := Go.Ground.data }, { on := 4, ground := Go.Ground.data }], guard := none }
abbrev oZ_6 : Oper := { dst := some 31, op := Go.Op.build 24 #[(0, Go.Operand.tmp 26), (1, Go.Operand.tmp 30)], type := 24, pos := "ref.go:129", after := #[{ on := 1, ground := Go.Ground.data }, { on := 5, ground := Go.Ground.data }], guard := none }
abbrev oZ_7 : Oper := { dst := some 7, op := Go.Op.alloc 24, type := 0, pos := "ref.go:129", after := #[], guard := none }
abbrev oZ_8 : Oper := { dst := none, op := Go.Op.store 24 (Go.Operand.tmp 7) (Go.Operand.tmp 31), type := 0, pos := "ref.go:129", after := #[{ on := 7, ground := Go.Ground.data }, { on := 6, ground := Go.Ground.data }, { on := 5, ground := Go.Ground.chain }, { on := 0, ground := Go.Ground.phase }, { on := 1, ground := Go.Ground.phase }, { on := 2, ground := Go.Ground.phase }, { on := 3, ground := Go.Ground.phase }, { on := 4, ground := Go.Ground.phase }, { on := 5, ground := Go.Ground.phase }, { on := 6, ground := Go.Ground.phase }, { on := 7, ground := Go.Ground.phase }], guard := none }
section
variable {w w3 w4 : World} {e0 : Int} {p : Option Addr} {n cap : Nat} {m0 m1 : Int}
theorem By.alloc (h : By w e0 p n cap m0 m1 w3) (o : Obj) : By w e0 p n cap m0 m1 (w3.alloc o) := h.below ((Below.refl _ _).alloc (Nat.le_refl _) _)
theorem By.setf (h : By w e0 p n cap m0 m1 w3) {q i : Nat} {v : Value} (hq : w.heap.size + 1 + 1 < q) : By w e0 p n cap m0 m1 (w3.setCell ⟨q, i, none⟩ v) := ⟨h.k.setf (by omega), h.d.setf (by omega), h.z.setf (by omega), bset h.b (by omega)⟩
end
set_option maxHeartbeats 8000000 in
theorem refSynced_any (c : CfN) (p : Option Addr) (cap : Nat) (m : MbN) (w : World) (t : Chn w p c.l) (hcap : c.l.length ≤ cap) (hl : c.l.length ≤ 4611686018427387904) :
    Calls Try.prog 30 #[cfV c p cap, mbV m] w fun e w' => AnsC (syncN c m) w e w' := by
  have x := Lib.hid (By.new w c.epoch p c.l.length cap m.node m.life)
  have hR := Lib.hid (refRight_any c p cap _ (t.below x.out.b) hcap hl)
  have hri : Hid (rightN c = true → RightP c) := fun h => right_iff.1 h
  have hpr := placeN_range c.l m
  obtain ⟨A, hA⟩ : ∃ A, syncN c m = A := ⟨_, rfl⟩
  rw [hA]
  have hA0 : Hid (rightN c = false → A = (zeroN, 3)) := fun h => by rw [← hA]; unfold syncN; rw [if_pos h]
  have hA1 : Hid (rightN c = true → placeN c.l m < 0 → A = (zeroN, 10)) := fun h h1 => by rw [← hA]; unfold syncN; rw [if_neg (by rw [h]; decide), if_pos h1]
  have hA2 : Hid (rightN c = true → ∀ k (hk : k < c.l.length), placeN c.l m = k → c.l[k].syn = true → A = (zeroN, 11)) := fun h k hk h1 h2 => by rw [← hA]; unfold syncN; rw [if_neg (by rw [h]; decide), if_neg (by omega), h1, Int.toNat_natCast, getD_eq hk, if_pos h2]
  have hA3 : Hid (rightN c = true → ∀ k (hk : k < c.l.length), placeN c.l m = k → c.l[k].syn = false → A = (⟨c.epoch, setN c.l k⟩, 0)) := fun h k hk h1 h2 => by rw [← hA]; unfold syncN; rw [if_neg (by rw [h]; decide), if_neg (by omega), h1, Int.toNat_natCast, getD_eq hk, if_neg (by rw [h2]; decide)]
  clear hA
  generalize rightN c = r at *
  have hpl := fun W tW => Lib.hid (refPlace_any c p cap m W tW hl)
  generalize placeN c.l m = R at *
  obtain ⟨e0, l⟩ := c
  obtain ⟨m0, m1⟩ := m
  try dsimp only at hA1 hA2 hA3 hpr
  have y0 := x.out.c0
  have y1 := x.out.c1
  try dsimp only at y0 y1
  replace hpl := Lib.hid hpl
  replace t : Hid (Chn w p l) := t
  replace hl := Lib.hid hl
  replace hcap := Lib.hid hcap
  go_enter Try.func30, Try.ntmps30
  go_wp2_with fail
  refine hR.out.mono ?_
  rintro e w2 ⟨rfl, b2⟩
  have x2 := Lib.hid (x.out.below b2)
  try dsimp only at x2
  clear b2 x y0 y1 hR
  cases r with
  | false =>
    have hans := Lib.hid (hA0.out rfl)
    have z0 := x2.out.z.cell 0
    have z1 := x2.out.z.cell 1
    have f0 := x2.out.z.fz 0
    have f1 := x2.out.z.fz 1
    go_wp2_with fail
    refine bodyPost_ret (v := .tuple #[.agg #[.int .i64 0, .slice none 0 0], .int .i64 3]) ?_ rfl ?_
    · rw [results_cell_tmp rfl]
      go_simp
    · rw [hans.out]
      exact AnsC.zero (bset (bset x2.out.b (by omega)) (by omega))
  | true =>
    have hri2 := hri.out rfl
    have hn8 : l.length ≤ 8 := hri2.n2
    have hl8 : l.length ≤ 1000 := by omega
    replace hri2 := Lib.hid hri2
    clear hri hA0
    have y0 := x2.out.c0
    have y1 := x2.out.c1
    have y2 := x2.out.d0
    have y3 := x2.out.d1
    have hpx := hpl.out w2 (t.out.below x2.out.b)
    go_wp2_with fail
    refine hpx.out.mono ?_
    rintro e w3 ⟨rfl, b3⟩
    have x := Lib.hid (x2.out.below b3)
    clear b3 hpx y0 y1 y2 y3 x2
    by_cases hR0 : R < 0
    · have hans := Lib.hid (hA1.out (by first | rfl | trivial) hR0)
      have z0 := x.out.z.cell 0
      have z1 := x.out.z.cell 1
      have f0 := x.out.z.fz 0
      have f1 := x.out.z.fz 1
      go_wp2_with fail
      refine bodyPost_ret (v := .tuple #[.agg #[.int .i64 0, .slice none 0 0], .int .i64 10]) ?_ rfl ?_
      · rw [results_cell_tmp rfl]
        go_simp
      · rw [hans.out]
        exact AnsC.zero (bset (bset x.out.b (by omega)) (by omega))
    obtain ⟨k, rfl⟩ : ∃ k : Nat, R = k := ⟨R.toNat, by omega⟩
    have hk : k < l.length := by omega
    have hkI : (k : Int) < l.length := by omega
    have hkn : (0 : Int) ≤ k := by omega
    obtain ⟨b, off, hpo, c0, c1, c2⟩ := (t.out.below x.out.b) k hk
    subst hpo
    have hA22 := Lib.hid (hA2.out (by first | rfl | trivial) k hk rfl)
    have hA32 := Lib.hid (hA3.out (by first | rfl | trivial) k hk rfl)
    have y1 := x.out.c1
    clear c0 c1 hA1 hA2 hA3 hpr
    generalize hsy : l[k].syn = sy at *
    replace hsy := Lib.hid hsy
    cases sy with
    | true =>
      have hans := Lib.hid (hA22.out rfl)
      have z0 := x.out.z.cell 0
      have z1 := x.out.z.cell 1
      have f0 := x.out.z.fz 0
      have f1 := x.out.z.fz 1
      go_wp2_with fail
      refine bodyPost_ret (v := .tuple #[.agg #[.int .i64 0, .slice none 0 0], .int .i64 11]) ?_ rfl ?_
      · rw [results_cell_tmp rfl]
        go_simp
      · rw [hans.out]
        exact AnsC.zero (bset (bset x.out.b (by omega)) (by omega))
    | false =>
      have hans := Lib.hid (hA32.out rfl)
      go_upto_region 8 with fail
      clear c2 y1
      replace x := Lib.hid (x.out.below (Below.refl _ _).drew)
      have hS : Hid (∀ W, By w e0 (some ⟨b, off, none⟩) l.length cap m0 m1 W → W.cell? ⟨w.heap.size, 0, none⟩ = some (.int .i64 e0) ∧ W.cell? ⟨w.heap.size, 1, none⟩ = some (.slice (some ⟨b, off, none⟩) l.length cap)) := fun W h => ⟨h.c0, h.c1⟩
      go_cut [7] from 25 (fun v wx => ∃ (qc : Nat) (pv : Option Addr) (cv : Nat), v = .pointer (some ⟨qc, 0, none⟩) ∧ Hid (By w e0 (some ⟨b, off, none⟩) l.length cap m0 m1 wx) ∧ Hid (Blk wx qc #[.int .i64 e0, .slice pv l.length cv] 24) ∧ Hid (SOwn w.heap.size (.slice pv l.length cv) l wx) ∧ Hid (w.heap.size + 1 + 1 < qc))
      case first =>
        refine wp_region_noPanic ?_
        refine wp_region_held_drew (S := (fun W => W.cell? ⟨w.heap.size, 0, none⟩ = some (.int .i64 e0) ∧ W.cell? ⟨w.heap.size, 1, none⟩ = some (.slice (some ⟨b, off, none⟩) l.length cap))) (by kernel_rfl) ?hSoZ_0 (fun hHeld => ?_)
        case hSoZ_0 => ((try dsimp only); exact (hS.out _ x.out))
        generalize w3.drew = wD at *
        refine wpAnyH_take (i := 0) (oi := oZ_0) (v := ?voZ_1) rfl (by kernel_rfl) (by kernel_rfl) (by kernel_rfl) (fun _ _ _ h => h) (Or.inl ⟨by rfl, ?yoZ_1⟩) (by assumption) ?roZ_1
        case yoZ_1 => (intro w hSw; (try dsimp only at hSw); unfold oZ_0; go_simp; try with_reducible rfl)
        simp only [oZ_0, Act.put, List.setIfInBounds_toArray, List.set_cons_zero, List.set_cons_succ]
        refine wpAnyH_take (i := 3) (oi := oZ_3) (v := ?voZ_2) rfl (by kernel_rfl) (by kernel_rfl) (by kernel_rfl) (fun _ _ _ h => h) (Or.inl ⟨by rfl, ?yoZ_2⟩) (by assumption) ?roZ_2
        case yoZ_2 => (intro w hSw; (try dsimp only at hSw); unfold oZ_3; go_simp; try with_reducible rfl)
        simp only [oZ_3, Act.put, List.setIfInBounds_toArray, List.set_cons_zero, List.set_cons_succ]
        refine wpAnyH_take (i := 1) (oi := oZ_1) (v := ?voZ_3) rfl (by kernel_rfl) (by kernel_rfl) (by kernel_rfl) (fun _ _ _ h => h) (Or.inl ⟨by rfl, ?yoZ_3⟩) (by assumption) ?roZ_3
        case yoZ_3 => (intro w hSw; (try dsimp only at hSw); unfold oZ_1; go_simp; try with_reducible rfl)
        simp only [oZ_1, Act.put, List.setIfInBounds_toArray, List.set_cons_zero, List.set_cons_succ]
        refine wpAnyH_take (i := 4) (oi := oZ_4) (v := ?voZ_4) rfl (by kernel_rfl) (by kernel_rfl) (by kernel_rfl) (fun _ _ _ h => h) (Or.inl ⟨by rfl, ?yoZ_4⟩) (by assumption) ?roZ_4
        case yoZ_4 => (intro w hSw; (try dsimp only at hSw); unfold oZ_4; go_simp; try with_reducible rfl)
        simp only [oZ_4, Act.put, List.setIfInBounds_toArray, List.set_cons_zero, List.set_cons_succ]
        refine wpAnyH_ready (rs := [2, 7]) (by kernel_rfl) (by simp) ?_
        refine AllReadyH.cons (o := oZ_2) rfl (fun K hK => ?_) ?_
        · clear hHeld
          unfold oZ_2
          go_simp
          refine hK.out _ _ ?hSoZ_5 (fun hHeld => ?_)
          case hSoZ_5 => ((try dsimp only); exact (hS.out _ (x.out.alloc _)))
          clear hK K
          try simp only [Act.put, List.setIfInBounds_toArray, List.set_cons_zero, List.set_cons_succ]
          have ke : Hid (SOwn w.heap.size (.slice (some ⟨wD.heap.size, 0, none⟩) 0 0) [] (wD.alloc (.cells #[] 70))) := World.ownsRow_lit wD #[] 0 x.out.b.size (by unfold maxLen; omega) rfl
          replace x := Lib.hid (x.out.alloc (.cells #[] 70))
          generalize wD.alloc _ = woZ1 at *
          generalize wD.heap.size = iwoZ1 at *
          refine wpAnyH_ready (rs := [5, 7]) (by kernel_rfl) (by simp) ?_
          refine AllReadyH.cons (o := oZ_5) rfl (fun K hK => ?_) ?_
          · clear hHeld
            unfold oZ_5
            obtain ⟨va, woZ2, hrun, own, -, ga⟩ := copy_seats (cap := cap) ke.out x.out.b.size (t.out.below x.out.b) hl8
            replace x := Lib.hid (x.out.grownB ga ke.out x.out.b.size (Nat.le_refl _))
            replace own := Lib.hid own
            obtain ⟨pv, cv, hva, hcv, -⟩ := own.out.chn
            subst hva
            clear ga ke
            refine step_append_st (by rfl) _ _ 22 22 (by rfl) _ _ (by rfl) (by rfl) hrun ?_
            clear hrun
            refine hK.out _ _ ?hSoZ_6 (fun hHeld => ?_)
            case hSoZ_6 => ((try dsimp only); exact (hS.out _ x.out))
            clear hK K
            try simp only [Act.put, List.setIfInBounds_toArray, List.set_cons_zero, List.set_cons_succ]
            refine wpAnyH_take (i := 6) (oi := oZ_6) (v := ?voZ_7) rfl (by kernel_rfl) (by kernel_rfl) (by kernel_rfl) (fun _ _ _ h => h) (Or.inl ⟨by rfl, ?yoZ_7⟩) (by assumption) ?roZ_7
            case yoZ_7 => (intro w hSw; (try dsimp only at hSw); unfold oZ_6; go_simp; try with_reducible rfl)
            simp only [oZ_6, Act.put, List.setIfInBounds_toArray, List.set_cons_zero, List.set_cons_succ]
            refine wpAnyH_ready (rs := [7]) (by kernel_rfl) (by simp) ?_
            refine AllReadyH.cons (o := oZ_7) rfl (fun K hK => ?_) ?_
            · clear hHeld
              unfold oZ_7
              go_simp
              refine hK.out _ _ ?hSoZ_8 (fun hHeld => ?_)
              case hSoZ_8 => ((try dsimp only); exact (hS.out _ (x.out.alloc _)))
              clear hK K
              try simp only [Act.put, List.setIfInBounds_toArray, List.set_cons_zero, List.set_cons_succ]
              have hkc : Hid (w.heap.size + 1 + 1 < woZ2.heap.size) := x.out.z.lt
              have kc := Lib.hid (Blk.new woZ2 #[.int .i64 0, .slice none 0 0] 24)
              replace x := Lib.hid (x.out.alloc (.cells #[.int .i64 0, .slice none 0 0] 24))
              replace own : Hid (SOwn _ _ l _) := World.ownsRow.alloc own.out (.cells #[.int .i64 0, .slice none 0 0] 24)
              generalize woZ2.alloc _ = woZ3 at *
              generalize woZ2.heap.size = iwoZ3 at *
              refine wpAnyH_ready (rs := [8]) (by kernel_rfl) (by simp) ?_
              refine AllReadyH.cons (o := oZ_8) rfl (fun K hK => ?_) ?_
              · clear hHeld
                unfold oZ_8
                have f0 := kc.out.fz 0
                have f1 := kc.out.fz 1
                have z0 := kc.out.cell 0
                have z1 := kc.out.cell 1
                go_simp
                refine hK.out _ _ ?hSoZ_9 (fun hHeld => ?_)
                case hSoZ_9 => ((try dsimp only); exact (hS.out _ ((x.out.setf hkc.out).setf hkc.out)))
                clear hK K
                try simp only [Act.put, List.setIfInBounds_toArray, List.set_cons_zero, List.set_cons_succ]
                replace x := Lib.hid ((x.out.setf (i := 0) (v := .int .i64 e0) hkc.out).setf (i := 1) (v := .slice pv l.length cv) hkc.out)
                replace own := Lib.hid ((own.out.setz (i := 0) (u := .int .i64 e0) kc.out (by decide)).setz (i := 1) (u := .slice pv l.length cv) kc.out.set (by decide))
                replace kc : Hid (Blk _ _ #[.int .i64 e0, .slice pv l.length cv] 24) := (kc.out.set (i := 0) (u := .int .i64 e0)).set (i := 1) (u := .slice pv l.length cv)
                clear f0 f1 z0 z1
                generalize ((woZ3.setCell _ _).setCell _ _) = woZ4 at *
                refine wpAnyH_done (by kernel_rfl) ?_ _
                refine NoPanic.normal ?_
                clear hHeld
                go_wp2_with fail
                go_meet
                exact ⟨_, pv, cv, rfl, x, kc, own, hkc⟩
              exact AllReadyH.nil
            exact AllReadyH.nil
          refine AllReadyH.cons (o := oZ_7) rfl (fun K hK => ?_) ?_
          · clear hHeld
            unfold oZ_7
            go_simp
            refine hK.out _ _ ?hSoZ_10 (fun hHeld => ?_)
            case hSoZ_10 => ((try dsimp only); exact (hS.out _ (x.out.alloc _)))
            clear hK K
            try simp only [Act.put, List.setIfInBounds_toArray, List.set_cons_zero, List.set_cons_succ]
            have hkc : Hid (w.heap.size + 1 + 1 < woZ1.heap.size) := x.out.z.lt
            have kc := Lib.hid (Blk.new woZ1 #[.int .i64 0, .slice none 0 0] 24)
            replace x := Lib.hid (x.out.alloc (.cells #[.int .i64 0, .slice none 0 0] 24))
            replace ke : Hid (SOwn _ _ [] _) := World.ownsRow.alloc ke.out (.cells #[.int .i64 0, .slice none 0 0] 24)
            generalize woZ1.alloc _ = woZ5 at *
            generalize woZ1.heap.size = iwoZ5 at *
            refine wpAnyH_ready (rs := [5]) (by kernel_rfl) (by simp) ?_
            refine AllReadyH.cons (o := oZ_5) rfl (fun K hK => ?_) ?_
            · clear hHeld
              unfold oZ_5
              obtain ⟨va, woZ6, hrun, own, -, ga⟩ := copy_seats (cap := cap) ke.out x.out.b.size (t.out.below x.out.b) hl8
              replace kc := Lib.hid (kc.out.grown ga (own_apart ke.out kc.out (by decide)))
              replace x := Lib.hid (x.out.grownB ga ke.out x.out.b.size (Nat.le_refl _))
              replace own := Lib.hid own
              obtain ⟨pv, cv, hva, hcv, -⟩ := own.out.chn
              subst hva
              clear ga ke
              refine step_append_st (by rfl) _ _ 22 22 (by rfl) _ _ (by rfl) (by rfl) hrun ?_
              clear hrun
              refine hK.out _ _ ?hSoZ_11 (fun hHeld => ?_)
              case hSoZ_11 => ((try dsimp only); exact (hS.out _ x.out))
              clear hK K
              try simp only [Act.put, List.setIfInBounds_toArray, List.set_cons_zero, List.set_cons_succ]
              refine wpAnyH_take (i := 6) (oi := oZ_6) (v := ?voZ_12) rfl (by kernel_rfl) (by kernel_rfl) (by kernel_rfl) (fun _ _ _ h => h) (Or.inl ⟨by rfl, ?yoZ_12⟩) (by assumption) ?roZ_12
              case yoZ_12 => (intro w hSw; (try dsimp only at hSw); unfold oZ_6; go_simp; try with_reducible rfl)
              simp only [oZ_6, Act.put, List.setIfInBounds_toArray, List.set_cons_zero, List.set_cons_succ]
              refine wpAnyH_ready (rs := [8]) (by kernel_rfl) (by simp) ?_
              refine AllReadyH.cons (o := oZ_8) rfl (fun K hK => ?_) ?_
              · clear hHeld
                unfold oZ_8
                have f0 := kc.out.fz 0
                have f1 := kc.out.fz 1
                have z0 := kc.out.cell 0
                have z1 := kc.out.cell 1
                go_simp
                refine hK.out _ _ ?hSoZ_13 (fun hHeld => ?_)
                case hSoZ_13 => ((try dsimp only); exact (hS.out _ ((x.out.setf hkc.out).setf hkc.out)))
                clear hK K
                try simp only [Act.put, List.setIfInBounds_toArray, List.set_cons_zero, List.set_cons_succ]
                replace x := Lib.hid ((x.out.setf (i := 0) (v := .int .i64 e0) hkc.out).setf (i := 1) (v := .slice pv l.length cv) hkc.out)
                replace own := Lib.hid ((own.out.setz (i := 0) (u := .int .i64 e0) kc.out (by decide)).setz (i := 1) (u := .slice pv l.length cv) kc.out.set (by decide))
                replace kc : Hid (Blk _ _ #[.int .i64 e0, .slice pv l.length cv] 24) := (kc.out.set (i := 0) (u := .int .i64 e0)).set (i := 1) (u := .slice pv l.length cv)
                clear f0 f1 z0 z1
                generalize ((woZ6.setCell _ _).setCell _ _) = woZ7 at *
                refine wpAnyH_done (by kernel_rfl) ?_ _
                refine NoPanic.normal ?_
                clear hHeld
                go_wp2_with fail
                go_meet
                exact ⟨_, pv, cv, rfl, x, kc, own, hkc⟩
              exact AllReadyH.nil
            exact AllReadyH.nil
          exact AllReadyH.nil
        refine AllReadyH.cons (o := oZ_7) rfl (fun K hK => ?_) ?_
        · clear hHeld
          unfold oZ_7
          go_simp
          refine hK.out _ _ ?hSoZ_14 (fun hHeld => ?_)
          case hSoZ_14 => ((try dsimp only); exact (hS.out _ (x.out.alloc _)))
          clear hK K
          try simp only [Act.put, List.setIfInBounds_toArray, List.set_cons_zero, List.set_cons_succ]
          have hkc : Hid (w.heap.size + 1 + 1 < wD.heap.size) := x.out.z.lt
          have kc := Lib.hid (Blk.new wD #[.int .i64 0, .slice none 0 0] 24)
          replace x := Lib.hid (x.out.alloc (.cells #[.int .i64 0, .slice none 0 0] 24))
          generalize wD.alloc _ = woZ8 at *
          generalize wD.heap.size = iwoZ8 at *
          refine wpAnyH_ready (rs := [2]) (by kernel_rfl) (by simp) ?_
          refine AllReadyH.cons (o := oZ_2) rfl (fun K hK => ?_) ?_
          · clear hHeld
            unfold oZ_2
            go_simp
            refine hK.out _ _ ?hSoZ_15 (fun hHeld => ?_)
            case hSoZ_15 => ((try dsimp only); exact (hS.out _ (x.out.alloc _)))
            clear hK K
            try simp only [Act.put, List.setIfInBounds_toArray, List.set_cons_zero, List.set_cons_succ]
            have ke : Hid (SOwn w.heap.size (.slice (some ⟨woZ8.heap.size, 0, none⟩) 0 0) [] (woZ8.alloc (.cells #[] 70))) := World.ownsRow_lit woZ8 #[] 0 x.out.b.size (by unfold maxLen; omega) rfl
            replace x := Lib.hid (x.out.alloc (.cells #[] 70))
            replace kc := Lib.hid (kc.out.alloc (.cells #[] 70))
            generalize woZ8.alloc _ = woZ9 at *
            generalize woZ8.heap.size = iwoZ9 at *
            refine wpAnyH_ready (rs := [5]) (by kernel_rfl) (by simp) ?_
            refine AllReadyH.cons (o := oZ_5) rfl (fun K hK => ?_) ?_
            · clear hHeld
              unfold oZ_5
              obtain ⟨va, woZ10, hrun, own, -, ga⟩ := copy_seats (cap := cap) ke.out x.out.b.size (t.out.below x.out.b) hl8
              replace kc := Lib.hid (kc.out.grown ga (own_apart ke.out kc.out (by decide)))
              replace x := Lib.hid (x.out.grownB ga ke.out x.out.b.size (Nat.le_refl _))
              replace own := Lib.hid own
              obtain ⟨pv, cv, hva, hcv, -⟩ := own.out.chn
              subst hva
              clear ga ke
              refine step_append_st (by rfl) _ _ 22 22 (by rfl) _ _ (by rfl) (by rfl) hrun ?_
              clear hrun
              refine hK.out _ _ ?hSoZ_16 (fun hHeld => ?_)
              case hSoZ_16 => ((try dsimp only); exact (hS.out _ x.out))
              clear hK K
              try simp only [Act.put, List.setIfInBounds_toArray, List.set_cons_zero, List.set_cons_succ]
              refine wpAnyH_take (i := 6) (oi := oZ_6) (v := ?voZ_17) rfl (by kernel_rfl) (by kernel_rfl) (by kernel_rfl) (fun _ _ _ h => h) (Or.inl ⟨by rfl, ?yoZ_17⟩) (by assumption) ?roZ_17
              case yoZ_17 => (intro w hSw; (try dsimp only at hSw); unfold oZ_6; go_simp; try with_reducible rfl)
              simp only [oZ_6, Act.put, List.setIfInBounds_toArray, List.set_cons_zero, List.set_cons_succ]
              refine wpAnyH_ready (rs := [8]) (by kernel_rfl) (by simp) ?_
              refine AllReadyH.cons (o := oZ_8) rfl (fun K hK => ?_) ?_
              · clear hHeld
                unfold oZ_8
                have f0 := kc.out.fz 0
                have f1 := kc.out.fz 1
                have z0 := kc.out.cell 0
                have z1 := kc.out.cell 1
                go_simp
                refine hK.out _ _ ?hSoZ_18 (fun hHeld => ?_)
                case hSoZ_18 => ((try dsimp only); exact (hS.out _ ((x.out.setf hkc.out).setf hkc.out)))
                clear hK K
                try simp only [Act.put, List.setIfInBounds_toArray, List.set_cons_zero, List.set_cons_succ]
                replace x := Lib.hid ((x.out.setf (i := 0) (v := .int .i64 e0) hkc.out).setf (i := 1) (v := .slice pv l.length cv) hkc.out)
                replace own := Lib.hid ((own.out.setz (i := 0) (u := .int .i64 e0) kc.out (by decide)).setz (i := 1) (u := .slice pv l.length cv) kc.out.set (by decide))
                replace kc : Hid (Blk _ _ #[.int .i64 e0, .slice pv l.length cv] 24) := (kc.out.set (i := 0) (u := .int .i64 e0)).set (i := 1) (u := .slice pv l.length cv)
                clear f0 f1 z0 z1
                generalize ((woZ10.setCell _ _).setCell _ _) = woZ11 at *
                refine wpAnyH_done (by kernel_rfl) ?_ _
                refine NoPanic.normal ?_
                clear hHeld
                go_wp2_with fail
                go_meet
                exact ⟨_, pv, cv, rfl, x, kc, own, hkc⟩
              exact AllReadyH.nil
            exact AllReadyH.nil
          exact AllReadyH.nil
        exact AllReadyH.nil
      case rest =>
        obtain ⟨qc, pv, cv, rfl, x4, kc, own, hkc⟩ := hcut
        clear x hS
        obtain ⟨w4, hw4⟩ : ∃ y, y = wc := ⟨_, rfl⟩
        subst hw4
        have o := own.out
        obtain ⟨tv, hcv⟩ := o.chn2
        obtain ⟨g, hg⟩ : ∃ g, pv = some ⟨g, 0, none⟩ := by
          rcases o.2 with ⟨h1, h2⟩ | ⟨g, c, cur, h1, _⟩
          · omega
          · injection h1 with h1; exact ⟨g, h1⟩
        subst hg
        have fg := World.ownsRow.frozenAt o (k * 3 + 2)
        have hst := Lib.hid (Chn.setSyn o hk)
        have hgr := (World.ownsRow.stored o (k * 3 + 2) (.bool true)).2
        have x5 := Lib.hid (x4.out.grownB (v := .slice (some ⟨g, 0, none⟩) l.length cv) hgr o x4.out.b.size (Nat.le_refl _))
        have kc5 := Lib.hid (kc.out.grown (r := some g) hgr (own_apart o kc.out (by decide)))
        have hap1 := own_apart o x4.out.z (by decide)
        have hzg : g ≠ w.heap.size + 1 + 1 := fun e => hap1 (by rw [← e]; rfl)
        obtain ⟨b', off', eb, -, -, cg⟩ := tv k hk
        injection eb with eb; injection eb with eb1 eb2; subst eb1 eb2
        rw [hsy.out] at cg
        rw [Nat.zero_add] at cg
        have q1 := kc.out.cell 1
        try dsimp only at q1
        replace hcv := Lib.hid hcv
        clear tv hap1 hgr own o
        go_upto_region 10 with fail
        clear fg cg q1 kc x4
        generalize w4.setCell ⟨g, k * 3 + 2, none⟩ (.bool true) = w5 at *
        have q0 := kc5.out.cell 0
        have q1 := kc5.out.cell 1
        have z0 := x5.out.z.cell 0
        have z1 := x5.out.z.cell 1
        have f0 := x5.out.z.fz 0
        have f1 := x5.out.z.fz 1
        try dsimp only at q0 q1 z0 z1
        have hq1 := hkc.out
        have hnz : w.heap.size + 1 + 1 ≠ qc := by omega
        go_wp2_with fail
        refine bodyPost_ret (v := .tuple #[.agg #[.int .i64 e0, .slice (some ⟨g, 0, none⟩) l.length cv], .int .i64 0]) ?_ rfl ?_
        · rw [results_cell_tmp rfl]
          go_simp
        · rw [hans.out]
          have hset : (setN l k).length = l.length := by simp [setN]
          refine ⟨⟨some ⟨g, 0, none⟩, cv, by rw [hset], ?_, by rw [hset]; exact hcv.out⟩, bset (bset x5.out.b (by omega)) (by omega)⟩
          intro j hj
          obtain ⟨b', off', eb, q0, q1, q2⟩ := hst.out j hj
          injection eb with eb; injection eb with eb1 eb2; subst eb1 eb2
          refine ⟨g, 0, rfl, ?_, ?_, ?_⟩ <;> rw [World.cell?_setCell_far _ _ _ _ (by exact fun e => hzg e.symm), World.cell?_setCell_far _ _ _ _ (by exact fun e => hzg e.symm)] <;> assumption

end Go.Proofs.Ytnagidgffkffhaa.G
