/-
  Layer 11: who sits behind a member, or ahead of it; the document's Place and Beside. Condition: chains of at most 2^62 seats.
-/
import Derived.Test.YtnagidgffkffhaaGAt
import Derived.Deep.DeepCutAuto
set_option linter.unusedVariables false
set_option linter.unusedSimpArgs false
namespace Go.Proofs.Ytnagidgffkffhaa.G
open Go.RowKit Cfg
set_option maxRecDepth 100000
/-- A chain and a member in blocks of their own. -/
structure Bx2 (w : World) (e0 : Int) (p : Option Addr) (n cap : Nat) (m0 m1 : Int) (w3 : World) : Prop where
  lt : w.heap.size + 1 < w3.heap.size
  c0 : w3.cell? ⟨w.heap.size, 0, none⟩ = some (.int .i64 e0)
  c1 : w3.cell? ⟨w.heap.size, 1, none⟩ = some (.slice p n cap)
  d0 : w3.cell? ⟨w.heap.size + 1, 0, none⟩ = some (.int .i64 m0)
  d1 : w3.cell? ⟨w.heap.size + 1, 1, none⟩ = some (.int .i64 m1)
  b : Below w.heap.size w w3
theorem Bx2.new (w : World) (e0 : Int) (p : Option Addr) (n cap : Nat) (m0 m1 : Int) : Bx2 w e0 p n cap m0 m1 ((w.alloc (.cells #[.int .i64 e0, .slice p n cap] 24)).alloc (.cells #[.int .i64 m0, .int .i64 m1] 26)) := by
  have ba := (Below.refl w.heap.size w).alloc (Nat.le_refl _) (.cells #[.int .i64 e0, .slice p n cap] 24)
  have bb := ba.alloc ba.size (.cells #[.int .i64 m0, .int .i64 m1] 26)
  have x1 := Blk.new w #[.int .i64 e0, .slice p n cap] 24
  have x2 := Blk.new (w.alloc (.cells #[.int .i64 e0, .slice p n cap] 24)) #[.int .i64 m0, .int .i64 m1] 26
  have y1 := x1.below ((Below.refl _ _).alloc (Nat.le_refl _) (.cells #[.int .i64 m0, .int .i64 m1] 26))
  simp only [World.size_alloc] at x2 y1
  exact ⟨x2.lt, y1.cell 0, y1.cell 1, x2.cell 0, x2.cell 1, bb⟩
theorem Bx2.below {w w3 w4 : World} {e0 : Int} {p : Option Addr} {n cap : Nat} {m0 m1 : Int} (h : Bx2 w e0 p n cap m0 m1 w3) (k : Below w3.heap.size w3 w4) : Bx2 w e0 p n cap m0 m1 w4 :=
  have h1 : w.heap.size < w3.heap.size := by have := h.lt; omega
  ⟨Nat.lt_of_lt_of_le h.lt k.size, (k.cell (p := ⟨_, 0, none⟩) h1).trans h.c0, (k.cell (p := ⟨_, 1, none⟩) h1).trans h.c1, (k.cell (p := ⟨_, 0, none⟩) h.lt).trans h.d0, (k.cell (p := ⟨_, 1, none⟩) h.lt).trans h.d1, h.b.trans (k.mono h.b.size)⟩
theorem belowN {w : World} (n : Nat) : Below w.heap.size w (w.drewN n) := ⟨rfl, rfl, rfl, Nat.le_refl _, fun _ _ => rfl⟩

set_option maxHeartbeats 2000000 in
theorem refPlace_any (c : CfN) (p : Option Addr) (cap : Nat) (m : MbN) (w : World) (t : Chn w p c.l) (hl : c.l.length ≤ 4611686018427387904) :
    Calls Try.prog 24 #[cfV c p cap, mbV m] w fun e w' => e = .returned (.int .i64 (placeN c.l m)) ∧ Below w.heap.size w w' := by
  obtain ⟨e0, l⟩ := c
  replace t : Chn w p l := t
  replace hl : l.length ≤ 4611686018427387904 := hl
  show Calls _ _ _ _ fun e w' => e = .returned (.int .i64 (placeN l m)) ∧ Below w.heap.size w w'
  obtain ⟨R, hR⟩ : ∃ R, placeN l m = R := ⟨_, rfl⟩
  have hix : Hid (∀ i (hi : i < l.length), decide (l[i].m = m) = true → (∀ k (hk : k < l.length), k < i → decide (l[k].m = m) = false) → (i : Int) = R) := fun i hi h hb => by rw [← hR]; exact (ixN_at (p := fun s : StN => decide (s.m = m)) hi h hb).symm
  have hno : Hid ((∀ k (hk : k < l.length), decide (l[k].m = m) = false) → (-1 : Int) = R) := fun h => by rw [← hR]; exact (ixN_no (p := fun s : StN => decide (s.m = m)) h).symm
  rw [hR]
  clear hR
  obtain ⟨m0, m1⟩ := m
  have x := Lib.hid (Bx2.new w e0 p l.length cap m0 m1)
  have hl2 : (l.length : Int) ≤ 4611686018427387904 := by omega
  replace hl := Lib.hid hl
  replace t := Lib.hid t
  go_enter Try.func24, Try.ntmps24
  go_upto_region 1 with fail
  go_wp2_with fail
  generalize ((w.alloc _).alloc _) = w2 at *
  go_loopw [5] (fun v wr => ∃ k : Nat, v = .int .i64 k ∧ (k : Int) ≤ l.length ∧ Hid (∀ j (hj : j < l.length), j < k → decide (l[j].m = ⟨m0, m1⟩) = false) ∧ Hid (Bx2 w e0 p l.length cap m0 m1 wr)) (fun v _ => ((l.length : Int) - intOf v).toNat)
  case atStart => exact ⟨0, rfl, by omega, Lib.hid fun j hj h => by omega, x⟩
  case round =>
    obtain ⟨k, rfl, hk, hb, x2⟩ := hrel
    have y1 := x2.out.c1
    have z0 := x2.out.d0
    have z1 := x2.out.d1
    by_cases hlt : (k : Int) < l.length
    · have hkl : k < l.length := by omega
      obtain ⟨b, off, rfl, c0, c1, c2⟩ := (t.out.below x2.out.b) k hkl
      have hix2 := Lib.hid (hix.out k hkl)
      have hb2 : Hid (decide (l[k].m = ⟨m0, m1⟩) = false → ∀ j (hj : j < l.length), j < k + 1 → decide (l[j].m = ⟨m0, m1⟩) = false) := fun e j hj h => by
        rcases Nat.lt_or_ge j k with h1 | h1
        · exact hb.out j hj h1
        · obtain rfl : j = k := by omega
          exact e
      generalize l[k] = s at *
      obtain ⟨⟨s0, s1⟩, s2⟩ := s
      simp only at c0 c1 c2 hix2 hb2
      have hq := mb_eq ⟨s0, s1⟩ ⟨m0, m1⟩
      generalize decide ((⟨s0, s1⟩ : MbN) = ⟨m0, m1⟩) = q at *
      cases q with
      | true =>
        have e := Lib.hid (hix2.out rfl fun j hj h => hb.out j hj h)
        go_wp2_with fail
        go_quiet (fail)
        go_wp2_with fail
        go_ret
        exact ⟨by rw [← e.out]; rfl, x2.out.b.trans ((belowN nq).mono x2.out.b.size)⟩
      | false =>
        have hb3 := Lib.hid (hb2.out rfl)
        go_wp2_with fail
        go_quiet (fail)
        go_wp2_with fail
        exact ⟨⟨k + 1, by go_num, by omega, hb3, Lib.hid (x2.out.below (belowN nq))⟩, by simp [intOf]; omega⟩
    · have e := Lib.hid (hno.out fun j hj => hb.out j hj (by omega))
      go_wp2_with fail
      go_ret
      exact ⟨by rw [← e.out]; rfl, x2.out.b⟩

set_option maxHeartbeats 2000000 in
theorem next_any (c : CfN) (p : Option Addr) (cap : Nat) (m : MbN) (w : World) (t : Chn w p c.l) (hl : c.l.length ≤ 4611686018427387904) :
    Calls Try.prog 17 #[cfV c p cap, mbV m] w fun e w' => e = .returned (.tuple #[mbV (besideN c.l m 1), .bool (besideB c.l m 1)]) ∧ Below w.heap.size w w' := by
  obtain ⟨e0, l⟩ := c
  replace t : Chn w p l := t
  replace hl : l.length ≤ 4611686018427387904 := hl
  show Calls _ _ _ _ fun e w' => e = .returned (.tuple #[mbV (besideN l m 1), .bool (besideB l m 1)]) ∧ Below w.heap.size w w'
  have hr := placeN_range l m
  have hc := fun W tW => Lib.hid (place_any ⟨e0, l⟩ p cap m W tW (by dsimp only; omega))
  have e1 : Hid (besideN l m 1 = if placeN l m < 0 then ⟨0, 0⟩ else atN l (placeN l m + 1)) := rfl
  have e2 : Hid (besideB l m 1 = (!decide (placeN l m < 0) && isN l (placeN l m + 1))) := rfl
  dsimp only at hc
  generalize placeN l m = R at *
  obtain ⟨M, hM⟩ : ∃ M, besideN l m 1 = M := ⟨_, rfl⟩
  obtain ⟨B, hB⟩ : ∃ B, besideB l m 1 = B := ⟨_, rfl⟩
  rw [hM] at e1
  rw [hB] at e2
  rw [hM, hB]
  clear hM hB
  obtain ⟨m0, m1⟩ := m
  have x := Lib.hid (Bx3.new w e0 p l.length cap m0 m1)
  have hcx := hc _ (t.below x.out.b)
  clear hc
  have y0 := x.out.c0
  have y1 := x.out.c1
  have y2 := x.out.d0
  have y3 := x.out.d1
  have hw : IntKind.i64.wrap (R + 1) = R + 1 := IntWalk.i64_in _ (by omega)
  have hl2 : (l.length : Int) ≤ 4611686018427387904 := by omega
  replace hl := Lib.hid hl
  have t2 := Lib.hid (t.below x.out.b)
  replace t := Lib.hid t
  go_enter Try.func17, Try.ntmps17
  go_wp2_with fail
  refine hcx.out.mono ?_
  rintro e w4 ⟨rfl, b2⟩
  have x4 := Lib.hid (x.out.below b2)
  have t4 := Lib.hid (t2.out.below b2)
  clear b2 hcx x y0 y1 y2 y3 t2
  have y0 := x4.out.c0
  have y1 := x4.out.c1
  have z0 := x4.out.z.cell 0
  have z1 := x4.out.z.cell 1
  have f0 := x4.out.z.fz 0
  have f1 := x4.out.z.fz 1
  by_cases hR : R < 0
  · have e3 : Hid (M = ⟨0, 0⟩ ∧ B = false) := ⟨by rw [e1.out, if_pos hR], by rw [e2.out, decide_eq_true hR]; rfl⟩
    clear e1 e2
    go_wp2_with fail
    refine bodyPost_ret (v := .tuple #[.agg #[.int .i64 0, .int .i64 0], .bool false]) ?_ rfl ?_
    · rw [results_cell_tmp rfl]
      go_simp
    · exact ⟨by rw [e3.out.1, e3.out.2], bset (bset x4.out.b (by omega)) (by omega)⟩
  · have e3 : Hid (M = atN l (R + 1) ∧ B = isN l (R + 1)) := ⟨by rw [e1.out, if_neg hR], by rw [e2.out, decide_eq_false hR]; rfl⟩
    clear e1 e2
    have ha := Lib.hid (at_any ⟨e0, l⟩ p cap (R + 1) w4 t4.out)
    dsimp only at ha
    generalize atN l (R + 1) = mm at *
    obtain ⟨s0, s1⟩ := mm
    generalize isN l (R + 1) = q at *
    go_wp2_with fail
    refine ha.out.mono ?_
    rintro e w5 ⟨rfl, b2⟩
    have x5 := Lib.hid (x4.out.below b2)
    clear b2 ha x4 y0 y1 z0 z1 f0 f1
    have z0 := x5.out.z.cell 0
    have z1 := x5.out.z.cell 1
    have f0 := x5.out.z.fz 0
    have f1 := x5.out.z.fz 1
    go_wp2_with fail
    refine bodyPost_ret (v := .tuple #[.agg #[.int .i64 s0, .int .i64 s1], .bool q]) ?_ rfl ?_
    · rw [results_cell_tmp rfl]
      go_simp
    · exact ⟨by rw [e3.out.1, e3.out.2], bset (bset x5.out.b (by omega)) (by omega)⟩

set_option maxHeartbeats 2000000 in
theorem beside_any (c : CfN) (p : Option Addr) (cap : Nat) (m : MbN) (d : Int) (w : World) (t : Chn w p c.l) (hl : c.l.length ≤ 4611686018427387904) (hd : -1 ≤ d ∧ d ≤ 1) :
    Calls Try.prog 20 #[cfV c p cap, mbV m, .int .i64 d] w fun e w' => e = .returned (.tuple #[mbV (besideN c.l m d), .bool (besideB c.l m d)]) ∧ Below w.heap.size w w' := by
  obtain ⟨e0, l⟩ := c
  replace t : Chn w p l := t
  replace hl : l.length ≤ 4611686018427387904 := hl
  show Calls _ _ _ _ fun e w' => e = .returned (.tuple #[mbV (besideN l m d), .bool (besideB l m d)]) ∧ Below w.heap.size w w'
  have hr := placeN_range l m
  have hc := fun W tW => Lib.hid (refPlace_any ⟨e0, l⟩ p cap m W tW (by dsimp only; omega))
  have e1 : Hid (besideN l m d = if placeN l m < 0 then ⟨0, 0⟩ else atN l (placeN l m + d)) := rfl
  have e2 : Hid (besideB l m d = (!decide (placeN l m < 0) && isN l (placeN l m + d))) := rfl
  dsimp only at hc
  generalize placeN l m = R at *
  obtain ⟨M, hM⟩ : ∃ M, besideN l m d = M := ⟨_, rfl⟩
  obtain ⟨B, hB⟩ : ∃ B, besideB l m d = B := ⟨_, rfl⟩
  rw [hM] at e1
  rw [hB] at e2
  rw [hM, hB]
  clear hM hB
  obtain ⟨m0, m1⟩ := m
  have x := Lib.hid (Bx3.new w e0 p l.length cap m0 m1)
  have hcx := hc _ (t.below x.out.b)
  clear hc
  have y0 := x.out.c0
  have y1 := x.out.c1
  have y2 := x.out.d0
  have y3 := x.out.d1
  have hw : IntKind.i64.wrap (R + d) = R + d := IntWalk.i64_in _ (by omega)
  have hl2 : (l.length : Int) ≤ 4611686018427387904 := by omega
  replace hl := Lib.hid hl
  replace hd := Lib.hid hd
  have t2 := Lib.hid (t.below x.out.b)
  replace t := Lib.hid t
  go_enter Try.func20, Try.ntmps20
  go_wp2_with fail
  refine hcx.out.mono ?_
  rintro e w4 ⟨rfl, b2⟩
  have x4 := Lib.hid (x.out.below b2)
  have t4 := Lib.hid (t2.out.below b2)
  clear b2 hcx x y0 y1 y2 y3 t2
  have y0 := x4.out.c0
  have y1 := x4.out.c1
  have z0 := x4.out.z.cell 0
  have z1 := x4.out.z.cell 1
  have f0 := x4.out.z.fz 0
  have f1 := x4.out.z.fz 1
  by_cases hR : R < 0
  · have e3 : Hid (M = ⟨0, 0⟩ ∧ B = false) := ⟨by rw [e1.out, if_pos hR], by rw [e2.out, decide_eq_true hR]; rfl⟩
    clear e1 e2
    go_wp2_with fail
    refine bodyPost_ret (v := .tuple #[.agg #[.int .i64 0, .int .i64 0], .bool false]) ?_ rfl ?_
    · rw [results_cell_tmp rfl]
      go_simp
    · exact ⟨by rw [e3.out.1, e3.out.2], bset (bset x4.out.b (by omega)) (by omega)⟩
  · have e3 : Hid (M = atN l (R + d) ∧ B = isN l (R + d)) := ⟨by rw [e1.out, if_neg hR], by rw [e2.out, decide_eq_false hR]; rfl⟩
    clear e1 e2
    have ha := Lib.hid (refAt_any ⟨e0, l⟩ p cap (R + d) w4 t4.out)
    dsimp only at ha
    generalize atN l (R + d) = mm at *
    obtain ⟨s0, s1⟩ := mm
    generalize isN l (R + d) = q at *
    go_wp2_with fail
    refine ha.out.mono ?_
    rintro e w5 ⟨rfl, b2⟩
    have x5 := Lib.hid (x4.out.below b2)
    clear b2 ha x4 y0 y1 z0 z1 f0 f1
    have z0 := x5.out.z.cell 0
    have z1 := x5.out.z.cell 1
    have f0 := x5.out.z.fz 0
    have f1 := x5.out.z.fz 1
    go_wp2_with fail
    refine bodyPost_ret (v := .tuple #[.agg #[.int .i64 s0, .int .i64 s1], .bool q]) ?_ rfl ?_
    · rw [results_cell_tmp rfl]
      go_simp
    · exact ⟨by rw [e3.out.1, e3.out.2], bset (bset x5.out.b (by omega)) (by omega)⟩

/-- What is held while Ahead asks. -/
def Held (w : World) (e0 : Int) (p : Option Addr) (n cap : Nat) (m0 m1 : Int) (W : World) : Prop := W.cell? ⟨w.heap.size, 0, none⟩ = some (.int .i64 e0) ∧ W.cell? ⟨w.heap.size, 1, none⟩ = some (.slice p n cap) ∧ W.cell? ⟨w.heap.size + 1, 0, none⟩ = some (.int .i64 m0) ∧ W.cell? ⟨w.heap.size + 1, 1, none⟩ = some (.int .i64 m1)
set_option maxHeartbeats 4000000 in
theorem ahead_any (c : CfN) (p : Option Addr) (cap : Nat) (m : MbN) (w : World) (t : Chn w p c.l) (hl : c.l.length ≤ 4611686018427387904) :
    Calls Try.prog 18 #[cfV c p cap, mbV m] w fun e w' => e = .returned (.tuple #[mbV (besideN c.l m (-1)), .bool (besideB c.l m (-1))]) ∧ Below w.heap.size w w' := by
  obtain ⟨e0, l⟩ := c
  replace t : Chn w p l := t
  replace hl : l.length ≤ 4611686018427387904 := hl
  show Calls _ _ _ _ fun e w' => e = .returned (.tuple #[mbV (besideN l m (-1)), .bool (besideB l m (-1))]) ∧ Below w.heap.size w w'
  rw [← (ahead_eq l m).1, ← (ahead_eq l m).2]
  have hr := placeN_range l m
  have hc : Hid (∀ W, Chn W p l → Calls Try.prog 23 #[.agg #[.int .i64 e0, .slice p l.length cap], .agg #[.int .i64 m.node, .int .i64 m.life]] W fun e w' => e = .returned (.int .i64 (placeN l m)) ∧ Below W.heap.size W w') := fun W tW => place_any ⟨e0, l⟩ p cap m W tW (by dsimp only; omega)
  generalize placeN l m = R at *
  have ha : Hid (∀ W, Chn W p l → Calls Try.prog 42 #[.agg #[.int .i64 e0, .slice p l.length cap], .int .i64 (R - 1)] W fun e w' => e = .returned (.tuple #[mbV (atN l (R - 1)), .bool (isN l (R - 1))]) ∧ Below W.heap.size W w') := fun W tW => at_any ⟨e0, l⟩ p cap (R - 1) W tW
  obtain ⟨m0, m1⟩ := m
  generalize atN l (R - 1) = mm at *
  obtain ⟨s0, s1⟩ := mm
  generalize isN l (R - 1) = q at *
  have x := Lib.hid (Bx3.new w e0 p l.length cap m0 m1)
  have hw : IntKind.i64.wrap (R - 1) = R - 1 := IntWalk.i64_in _ (by omega)
  replace hl := Lib.hid hl
  replace hr := Lib.hid hr
  have t2 := Lib.hid (t.below x.out.b)
  replace t := Lib.hid t
  go_enter Try.func18, Try.ntmps18
  go_upto_region 1 with fail
  generalize (((w.alloc _).alloc _).alloc _) = w3 at *
  have hS : Hid (∀ W, Bx3 w e0 p l.length cap m0 m1 W → W.cell? ⟨w.heap.size, 0, none⟩ = some (.int .i64 e0) ∧ W.cell? ⟨w.heap.size, 1, none⟩ = some (.slice p l.length cap) ∧ W.cell? ⟨w.heap.size + 1, 0, none⟩ = some (.int .i64 m0) ∧ W.cell? ⟨w.heap.size + 1, 1, none⟩ = some (.int .i64 m1)) := fun W h => ⟨h.c0, h.c1, h.d0, h.d1⟩
  have x3 := Lib.hid (x.out.below (Below.refl _ _).drew)
  have t3 := Lib.hid (t2.out.below (Below.refl _ _).drew)
  have hcA := hS.out _ x3.out
  have hne1 : w.heap.size ≠ w.heap.size + 1 + 1 := by omega
  have hne2 : w.heap.size + 1 + 1 ≠ w.heap.size := by omega
  clear x t2
  go_region_held3 (fun W => W.cell? ⟨w.heap.size, 0, none⟩ = some (.int .i64 e0) ∧ W.cell? ⟨w.heap.size, 1, none⟩ = some (.slice p l.length cap) ∧ W.cell? ⟨w.heap.size + 1, 0, none⟩ = some (.int .i64 m0) ∧ W.cell? ⟨w.heap.size + 1, 1, none⟩ = some (.int .i64 m1)) (first | (with_reducible exact hcC) | (with_reducible exact hcB) | (with_reducible exact hcA) | go_keep)
    (first
      | (go_at_call 23; (with_reducible refine (hc.out _ t3.out).mono ?_); rintro e w4 ⟨rfl, k4⟩; have x4 := Lib.hid (x3.out.below k4); have t4 := Lib.hid (t3.out.below k4); have hcB := hS.out _ x4.out; clear k4)
      | (go_at_call 42; (with_reducible refine (ha.out _ t4.out).mono ?_); rintro e w5 ⟨rfl, k5⟩; have x5 := Lib.hid (x4.out.below k5); have hcC := hS.out _ x5.out; have z0 := x5.out.z.cell 0; have z1 := x5.out.z.cell 1; have f0 := x5.out.z.fz 0; have f1 := x5.out.z.fz 1; clear k5))
  go_wp2_with fail
  refine bodyPost_ret (v := .tuple #[.agg #[.int .i64 s0, .int .i64 s1], .bool q]) ?_ rfl ?_
  · rw [results_cell_tmp rfl]
    go_simp
  · exact ⟨rfl, bset (bset x5.out.b (by omega)) (by omega)⟩
end Go.Proofs.Ytnagidgffkffhaa.G
