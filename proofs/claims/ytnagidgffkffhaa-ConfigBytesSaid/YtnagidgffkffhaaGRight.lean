/-
  Layer 11: whether a chain is right: config's Right, and the document's. Condition: chains of at most 2^62 seats.
-/
import Derived.Test.YtnagidgffkffhaaGNext
set_option linter.unusedVariables false
set_option linter.unusedSimpArgs false
namespace Go.Proofs.Ytnagidgffkffhaa.G
open Go.RowKit Cfg
set_option maxRecDepth 100000
/-- A chain in a block of its own. -/
structure Bx1 (w : World) (e0 : Int) (p : Option Addr) (n cap : Nat) (w3 : World) : Prop where
  lt : w.heap.size < w3.heap.size
  c0 : w3.cell? ⟨w.heap.size, 0, none⟩ = some (.int .i64 e0)
  c1 : w3.cell? ⟨w.heap.size, 1, none⟩ = some (.slice p n cap)
  b : Below w.heap.size w w3
theorem Bx1.new (w : World) (e0 : Int) (p : Option Addr) (n cap : Nat) : Bx1 w e0 p n cap (w.alloc (.cells #[.int .i64 e0, .slice p n cap] 24)) := by
  have x1 := Blk.new w #[.int .i64 e0, .slice p n cap] 24
  exact ⟨x1.lt, x1.cell 0, x1.cell 1, (Below.refl w.heap.size w).alloc (Nat.le_refl _) _⟩
theorem Bx1.below {w w3 w4 : World} {e0 : Int} {p : Option Addr} {n cap : Nat} (h : Bx1 w e0 p n cap w3) (k : Below w3.heap.size w3 w4) : Bx1 w e0 p n cap w4 :=
  ⟨Nat.lt_of_lt_of_le h.lt k.size, (k.cell (p := ⟨_, 0, none⟩) h.lt).trans h.c0, (k.cell (p := ⟨_, 1, none⟩) h.lt).trans h.c1, h.b.trans (k.mono h.b.size)⟩
theorem not_right {c : CfN} (h : ¬ RightP c) : rightN c = false := Bool.eq_false_iff.2 fun e => h (right_iff.1 e)
abbrev opR_0 : Oper := { dst := some 39, op := Go.Op.fieldAddr 70 (Go.Operand.tmp 4) 0, type := 0, pos := "config.go:36", after := #[], guard := none }
abbrev opR_1 : Oper := { dst := some 40, op := Go.Op.load 26 (Go.Operand.tmp 39), type := 26, pos := "config.go:36", after := #[{ on := 0, ground := Go.Ground.data }], guard := none }
abbrev opR_2 : Oper := { dst := some 41, op := Go.Op.call { callee := Go.Callee.value (Go.Operand.func 43), args := #[Go.Operand.tmp 40], argTypes := #[26] }, type := 4, pos := "config.go:36", after := #[{ on := 1, ground := Go.Ground.data }], guard := none }
abbrev opR_3 : Oper := { dst := some 42, op := Go.Op.unOp Go.UnOp.not 4 (Go.Operand.tmp 41), type := 4, pos := "config.go:36", after := #[{ on := 2, ground := Go.Ground.data }], guard := none }
abbrev opR_4 : Oper := { dst := some 43, op := Go.Op.move (Go.Operand.tmp 42), type := 4, pos := "config.go:36", after := #[{ on := 3, ground := Go.Ground.data }, { on := 2, ground := Go.Ground.chain }], guard := none }
abbrev opR_5 : Oper := { dst := some 44, op := Go.Op.fieldAddr 24 (Go.Operand.tmp 1) 1, type := 0, pos := "config.go:36", after := #[{ on := 4, ground := Go.Ground.guard }], guard := some (4, false) }
abbrev opR_6 : Oper := { dst := some 45, op := Go.Op.load 22 (Go.Operand.tmp 44), type := 22, pos := "config.go:36", after := #[{ on := 5, ground := Go.Ground.data }, { on := 4, ground := Go.Ground.guard }], guard := some (4, false) }
abbrev opR_7 : Oper := { dst := some 46, op := Go.Op.move (Go.Operand.tmp 3), type := 3, pos := "config.go:36", after := #[{ on := 4, ground := Go.Ground.guard }], guard := some (4, false) }
abbrev opR_8 : Oper := { dst := some 47, op := Go.Op.slice 22 (Go.Operand.tmp 45) none (some (Go.Operand.tmp 46)) none, type := 22, pos := "config.go:36", after := #[{ on := 6, ground := Go.Ground.data }, { on := 7, ground := Go.Ground.data }, { on := 4, ground := Go.Ground.guard }], guard := some (4, false) }
abbrev opR_9 : Oper := { dst := some 48, op := Go.Op.fieldAddr 70 (Go.Operand.tmp 4) 0, type := 0, pos := "config.go:36", after := #[{ on := 4, ground := Go.Ground.guard }], guard := some (4, false) }
abbrev opR_10 : Oper := { dst := some 49, op := Go.Op.fieldAddr 26 (Go.Operand.tmp 48) 0, type := 0, pos := "config.go:36", after := #[{ on := 9, ground := Go.Ground.data }, { on := 4, ground := Go.Ground.guard }], guard := some (4, false) }
abbrev opR_11 : Oper := { dst := some 50, op := Go.Op.load 3 (Go.Operand.tmp 49), type := 3, pos := "config.go:36", after := #[{ on := 10, ground := Go.Ground.data }, { on := 4, ground := Go.Ground.guard }], guard := some (4, false) }
abbrev opR_12 : Oper := { dst := some 51, op := Go.Op.call { callee := Go.Callee.value (Go.Operand.func 44), args := #[Go.Operand.tmp 47, Go.Operand.tmp 50], argTypes := #[22, 3] }, type := 4, pos := "config.go:36", after := #[{ on := 8, ground := Go.Ground.data }, { on := 11, ground := Go.Ground.data }, { on := 4, ground := Go.Ground.chain }, { on := 4, ground := Go.Ground.guard }], guard := some (4, false) }
abbrev opR_13 : Oper := { dst := some 52, op := Go.Op.pick (Go.Operand.tmp 43) (Go.Operand.const (Go.Value.bool true)) (Go.Operand.tmp 51), type := 4, pos := "config.go:36", after := #[{ on := 4, ground := Go.Ground.data }, { on := 12, ground := Go.Ground.data }], guard := none }

set_option maxHeartbeats 8000000 in
theorem right_any (c : CfN) (p : Option Addr) (cap : Nat) (w : World) (t : Chn w p c.l) (hcap : c.l.length ≤ cap) (hl : c.l.length ≤ 4611686018427387904) :
    Calls Try.prog 21 #[cfV c p cap] w fun e w' => e = .returned (.bool (rightN c)) ∧ Below w.heap.size w w' := by
  obtain ⟨e0, l⟩ := c
  replace t : Chn w p l := t
  replace hl : l.length ≤ 4611686018427387904 := hl
  replace hcap : l.length ≤ cap := hcap
  have x := Lib.hid (Bx1.new w e0 p l.length cap)
  have hlI : (l.length : Int) ≤ 4611686018427387904 := by omega
  by_cases hA : e0 < 1
  · rw [not_right (c := ⟨e0, l⟩) fun h => by have := h.e1; dsimp only at this; omega]
    replace t := Lib.hid t
    go_enter Try.func21, Try.ntmps21
    go_wp2_with fail
    go_ret
    exact ⟨rfl, x.out.b⟩
  by_cases hB : 1099511627776 < e0
  · rw [not_right (c := ⟨e0, l⟩) fun h => by have := h.e2; dsimp only at this; omega]
    replace t := Lib.hid t
    go_enter Try.func21, Try.ntmps21
    go_wp2_with fail
    go_ret
    exact ⟨rfl, x.out.b⟩
  by_cases hC : (l.length : Int) < 1
  · rw [not_right (c := ⟨e0, l⟩) fun h => by have := h.n1; dsimp only at this; omega]
    replace t := Lib.hid t
    go_enter Try.func21, Try.ntmps21
    go_wp2_with fail
    go_ret
    exact ⟨rfl, x.out.b⟩
  by_cases hD : 8 < (l.length : Int)
  · rw [not_right (c := ⟨e0, l⟩) fun h => by have := h.n2; dsimp only at this; omega]
    replace t := Lib.hid t
    go_enter Try.func21, Try.ntmps21
    go_wp2_with fail
    go_ret
    exact ⟨rfl, x.out.b⟩
  have hp0 : 0 < l.length := by omega
  obtain ⟨b, off, rfl, c0, c1, c2⟩ := (t.below x.out.b) 0 hp0
  simp only [Nat.zero_mul, Nat.add_zero] at c0 c1 c2
  have h0g : 0 < (l.length : Int) := by omega
  cases hE : l[0].syn with
  | false =>
    rw [not_right (c := ⟨e0, l⟩) fun h => by have := h.hd; rw [getD_eq hp0, hE] at this; cases this]
    rw [hE] at c2
    clear hE c0 c1
    replace t := Lib.hid t
    go_enter Try.func21, Try.ntmps21
    go_wp2_with fail
    go_ret
    exact ⟨rfl, x.out.b⟩
  | true =>
    rw [hE] at c2
    obtain ⟨R, hR⟩ : ∃ R, rightN ⟨e0, l⟩ = R := ⟨_, rfl⟩
    have hend : Hid (upTo l l.length = R) := by
      rw [← hR]
      unfold rightN
      rw [decide_eq_true (show 1 ≤ e0 by omega), decide_eq_true (show e0 ≤ 1099511627776 by omega), decide_eq_true (show 1 ≤ l.length by omega), decide_eq_true (show l.length ≤ 8 by omega), getD_eq hp0, hE]
      rfl
    rw [hR]
    clear hE c0 c1 hR
    have hup : Hid (∀ k, k < l.length → fitN l k = false → false = R) := fun k hk h => by rw [← hend.out]; exact (upTo_no h hk).symm
    have hfit : Hid (∀ k (hk : k < l.length), fitN l k = (mayN l[k].m && !sitsN (l.take k) l[k].m.node)) := fun k hk => by unfold fitN; rw [getD_eq hk]
    have hst : Hid (∀ k, upTo l k = true → fitN l k = true → upTo l (k + 1) = true) := fun k h1 h2 => by show (upTo l k && fitN l k) = true; rw [h1, h2]; rfl
    have hs : Hid (∀ k, k ≤ l.length → ∀ (n : Int) W, Chn W (some ⟨b, off, none⟩) l → Calls Try.prog 44 #[.slice (some ⟨b, off, none⟩) k cap, .int .i64 n] W fun e w' => e = .returned (.bool (sitsN (l.take k) n)) ∧ Below W.heap.size W w') := fun k hk n W tW => by
      have := sits_any (some ⟨b, off, none⟩) cap (l.take k) n W (tW.take k) (by rw [List.length_take]; omega)
      rw [List.length_take, Nat.min_eq_left hk] at this
      exact this
    have hm := Lib.hid (fun m W => mayBe_any m W)
    have hcapI : (l.length : Int) ≤ cap := by omega
    have y1 := x.out.c1
    replace t := Lib.hid t
    replace hl := Lib.hid hl
    replace hcap := Lib.hid hcap
    go_enter Try.func21, Try.ntmps21
    go_wp2_with fail
    clear c2 y1
    generalize w.alloc _ = w2 at *
    go_loopw [34] (fun v wr => ∃ k : Nat, v = .int .i64 k ∧ (k : Int) ≤ l.length ∧ Hid (upTo l k = true) ∧ Hid (Bx1 w e0 (some ⟨b, off, none⟩) l.length cap wr)) (fun v _ => ((l.length : Int) - intOf v).toNat)
    case atStart => exact ⟨0, rfl, by omega, rfl, x⟩
    case round =>
      obtain ⟨k, rfl, hk, hu, x2⟩ := hrel
      clear x
      by_cases hlt : (k : Int) < l.length
      · have hkl : k < l.length := by omega
        have t2 := t.out.below x2.out.b
        obtain ⟨b', off', hbo, c0, c1, c2⟩ := t2 k hkl
        injection hbo with hbo
        injection hbo with hb1 hb2
        subst hb1 hb2
        have hf := Lib.hid (hfit.out k hkl)
        have hcs := fun n W tW => hs.out k (Nat.le_of_lt hkl) n W tW
        have hno := Lib.hid (hup.out k hkl)
        have hnx := Lib.hid (hst.out k hu.out)
        generalize l[k] = s at *
        obtain ⟨⟨s0, s1⟩, s2⟩ := s
        simp only at c0 c1 c2 hf
        have hms := hm.out ⟨s0, s1⟩
        have hss := hcs s0
        clear hcs
        have z := Blk.new wr #[.int .i64 s0, .int .i64 s1, .bool s2] 70
        have ba : Below wr.heap.size wr (wr.alloc (.cells #[.int .i64 s0, .int .i64 s1, .bool s2] 70)) := (Below.refl _ _).alloc (Nat.le_refl _) _
        have x3 := Lib.hid (x2.out.below ba)
        have t3 := Lib.hid (t2.below ba)
        replace z := Lib.hid z
        clear ba t2
        have hkc : (k : Int) ≤ cap := by omega
        go_upto_region 8 with fail
        clear c0 c1 c2
        have hqq : w.heap.size < wr.heap.size := x2.out.lt
        generalize wr.alloc _ = w3 at *
        generalize wr.heap.size = q at *
        clear x2
        have z2 := Lib.hid (z.out.below (Below.refl _ _).drew)
        have x4 := Lib.hid (x3.out.below (Below.refl _ _).drew)
        have t4 := Lib.hid (t3.out.below (Below.refl _ _).drew)
        have hS : Hid (∀ W, Blk W q #[.int .i64 s0, .int .i64 s1, .bool s2] 70 → Bx1 w e0 (some ⟨b, off, none⟩) l.length cap W → W.cell? ⟨w.heap.size, 1, none⟩ = some (.slice (some ⟨b, off, none⟩) l.length cap) ∧ W.cell? ⟨q, 0, none⟩ = some (.int .i64 s0) ∧ W.cell? ⟨q, 1, none⟩ = some (.int .i64 s1)) := fun W h1 h2 => ⟨h2.c1, h1.cell 0, h1.cell 1⟩
        have hcA := hS.out _ z2.out x4.out
        generalize mayN ⟨s0, s1⟩ = q1 at *
        generalize sitsN (l.take k) s0 = q2 at *
        replace hms := Lib.hid hms
        replace hss := Lib.hid hss
        clear x3 t3 z hqq
        cases q1 with
        | false =>
          have hno2 := Lib.hid (hno.out (by rw [hf.out]; rfl))
          refine wp_region_noPanic ?_
          refine wp_region_held_drew (S := (fun W => W.cell? ⟨w.heap.size, 1, none⟩ = some (.slice (some ⟨b, off, none⟩) l.length cap) ∧ W.cell? ⟨q, 0, none⟩ = some (.int .i64 s0) ∧ W.cell? ⟨q, 1, none⟩ = some (.int .i64 s1))) (by kernel_rfl) ?hSopR_0 (fun hHeld => ?_)
          case hSopR_0 => ((try dsimp only); exact hcA)
          refine wpAnyH_take (i := 0) (oi := opR_0) (v := ?vopR_1) rfl (by kernel_rfl) (by kernel_rfl) (by kernel_rfl) (fun _ _ _ h => h) (Or.inl ⟨by rfl, ?yopR_1⟩) (by assumption) ?ropR_1
          case yopR_1 => (intro w hSw; (try dsimp only at hSw); unfold opR_0; go_simp; try with_reducible rfl)
          simp only [opR_0, Act.put, List.setIfInBounds_toArray, List.set_cons_zero, List.set_cons_succ]
          refine wpAnyH_take (i := 1) (oi := opR_1) (v := ?vopR_2) rfl (by kernel_rfl) (by kernel_rfl) (by kernel_rfl) (fun _ _ _ h => h) (Or.inl ⟨by rfl, ?yopR_2⟩) (by assumption) ?ropR_2
          case yopR_2 => (intro w hSw; (try dsimp only at hSw); unfold opR_1; go_simp; try with_reducible rfl)
          simp only [opR_1, Act.put, List.setIfInBounds_toArray, List.set_cons_zero, List.set_cons_succ]
          refine wpAnyH_ready (rs := [2]) (by kernel_rfl) (by simp) ?_
          refine AllReadyH.cons (o := opR_2) rfl (fun K hK => ?_) ?_
          · clear hHeld
            unfold opR_2
            go_simp
            go_at_call 43
            refine (hms.out _).mono ?_
            rintro e w4 ⟨rfl, k4⟩
            have x5 := Lib.hid (x4.out.below k4)
            have z5 := Lib.hid (z2.out.below k4)
            have hcB := hS.out _ z5.out x5.out
            clear k4
            dsimp only
            refine hK.out _ _ ?hSopR_3 (fun hHeld => ?_)
            case hSopR_3 => ((try dsimp only); exact hcB)
            clear hK K
            try simp only [Act.put, List.setIfInBounds_toArray, List.set_cons_zero, List.set_cons_succ]
            refine wpAnyH_take (i := 3) (oi := opR_3) (v := ?vopR_4) rfl (by kernel_rfl) (by kernel_rfl) (by kernel_rfl) (fun _ _ _ h => h) (Or.inl ⟨by rfl, ?yopR_4⟩) (by assumption) ?ropR_4
            case yopR_4 => (intro w hSw; (try dsimp only at hSw); unfold opR_3; go_simp; try with_reducible rfl)
            simp only [opR_3, Act.put, List.setIfInBounds_toArray, List.set_cons_zero, List.set_cons_succ]
            refine wpAnyH_take (i := 4) (oi := opR_4) (v := ?vopR_5) rfl (by kernel_rfl) (by kernel_rfl) (by kernel_rfl) (fun _ _ _ h => h) (Or.inl ⟨by rfl, ?yopR_5⟩) (by assumption) ?ropR_5
            case yopR_5 => (intro w hSw; (try dsimp only at hSw); unfold opR_4; go_simp; try with_reducible rfl)
            simp only [opR_4, Act.put, List.setIfInBounds_toArray, List.set_cons_zero, List.set_cons_succ]
            refine wpAnyH_take (i := 5) (oi := opR_5) (v := undef) rfl (by kernel_rfl) (by kernel_rfl) (by kernel_rfl) (fun _ _ _ h => h) (Or.inr ⟨by rfl, rfl⟩) (by assumption) ?_
            simp only [opR_5, Act.put, List.setIfInBounds_toArray, List.set_cons_zero, List.set_cons_succ]
            refine wpAnyH_take (i := 7) (oi := opR_7) (v := undef) rfl (by kernel_rfl) (by kernel_rfl) (by kernel_rfl) (fun _ _ _ h => h) (Or.inr ⟨by rfl, rfl⟩) (by assumption) ?_
            simp only [opR_7, Act.put, List.setIfInBounds_toArray, List.set_cons_zero, List.set_cons_succ]
            refine wpAnyH_take (i := 9) (oi := opR_9) (v := undef) rfl (by kernel_rfl) (by kernel_rfl) (by kernel_rfl) (fun _ _ _ h => h) (Or.inr ⟨by rfl, rfl⟩) (by assumption) ?_
            simp only [opR_9, Act.put, List.setIfInBounds_toArray, List.set_cons_zero, List.set_cons_succ]
            refine wpAnyH_take (i := 6) (oi := opR_6) (v := undef) rfl (by kernel_rfl) (by kernel_rfl) (by kernel_rfl) (fun _ _ _ h => h) (Or.inr ⟨by rfl, rfl⟩) (by assumption) ?_
            simp only [opR_6, Act.put, List.setIfInBounds_toArray, List.set_cons_zero, List.set_cons_succ]
            refine wpAnyH_take (i := 10) (oi := opR_10) (v := undef) rfl (by kernel_rfl) (by kernel_rfl) (by kernel_rfl) (fun _ _ _ h => h) (Or.inr ⟨by rfl, rfl⟩) (by assumption) ?_
            simp only [opR_10, Act.put, List.setIfInBounds_toArray, List.set_cons_zero, List.set_cons_succ]
            refine wpAnyH_take (i := 8) (oi := opR_8) (v := undef) rfl (by kernel_rfl) (by kernel_rfl) (by kernel_rfl) (fun _ _ _ h => h) (Or.inr ⟨by rfl, rfl⟩) (by assumption) ?_
            simp only [opR_8, Act.put, List.setIfInBounds_toArray, List.set_cons_zero, List.set_cons_succ]
            refine wpAnyH_take (i := 11) (oi := opR_11) (v := undef) rfl (by kernel_rfl) (by kernel_rfl) (by kernel_rfl) (fun _ _ _ h => h) (Or.inr ⟨by rfl, rfl⟩) (by assumption) ?_
            simp only [opR_11, Act.put, List.setIfInBounds_toArray, List.set_cons_zero, List.set_cons_succ]
            refine wpAnyH_take (i := 12) (oi := opR_12) (v := undef) rfl (by kernel_rfl) (by kernel_rfl) (by kernel_rfl) (fun _ _ _ h => h) (Or.inr ⟨by rfl, rfl⟩) (by assumption) ?_
            simp only [opR_12, Act.put, List.setIfInBounds_toArray, List.set_cons_zero, List.set_cons_succ]
            refine wpAnyH_take (i := 13) (oi := opR_13) (v := ?vopR_14) rfl (by kernel_rfl) (by kernel_rfl) (by kernel_rfl) (fun _ _ _ h => h) (Or.inl ⟨by rfl, ?yopR_14⟩) (by assumption) ?ropR_14
            case yopR_14 => (intro w hSw; (try dsimp only at hSw); unfold opR_13; go_simp; try with_reducible rfl)
            simp only [opR_13, Act.put, List.setIfInBounds_toArray, List.set_cons_zero, List.set_cons_succ]
            refine wpAnyH_done (by kernel_rfl) ?_ _
            refine NoPanic.normal ?_
            clear hHeld
            go_wp2_with fail
            go_ret
            exact ⟨by rw [← hno2.out]; rfl, x5.out.b⟩
          exact AllReadyH.nil
        | true =>
          go_region_held3 (fun W => W.cell? ⟨w.heap.size, 1, none⟩ = some (.slice (some ⟨b, off, none⟩) l.length cap) ∧ W.cell? ⟨q, 0, none⟩ = some (.int .i64 s0) ∧ W.cell? ⟨q, 1, none⟩ = some (.int .i64 s1)) (first | (with_reducible exact hcC) | (with_reducible exact hcB) | (with_reducible exact hcA) | go_keep)
            (first
              | (go_at_call 43; (with_reducible refine (hms.out _).mono ?_); rintro e w4 ⟨rfl, k4⟩; have x5 := Lib.hid (x4.out.below k4); have z5 := Lib.hid (z2.out.below k4); have t5 := Lib.hid (t4.out.below k4); have hcB := hS.out _ z5.out x5.out; clear k4)
              | (go_at_call 44; (with_reducible refine (hss.out _ t5.out).mono ?_); rintro e w5 ⟨rfl, k5⟩; have x6 := Lib.hid (x5.out.below k5); have z6 := Lib.hid (z5.out.below k5); have hcC := hS.out _ z6.out x6.out; clear k5))
          cases q2 with
          | true =>
            have hno2 := Lib.hid (hno.out (by rw [hf.out]; rfl))
            go_wp2_with fail
            go_ret
            exact ⟨by rw [← hno2.out]; rfl, x6.out.b⟩
          | false =>
            have hnx2 := Lib.hid (hnx.out (by rw [hf.out]; rfl))
            go_wp2_with fail
            exact ⟨⟨k + 1, by go_num, by omega, hnx2, x6⟩, by simp [intOf]; omega⟩
      · obtain rfl : k = l.length := by omega
        have e := Lib.hid (hend.out.symm.trans hu.out)
        go_wp2_with fail
        go_ret
        exact ⟨by rw [e.out]; rfl, x2.out.b⟩

end Go.Proofs.Ytnagidgffkffhaa.G
