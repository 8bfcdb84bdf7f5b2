/-
  Layer 11: the answers that the document fixes. No condition.
-/
import Derived.Test.YtnagidgffkffhaaGPut
import Derived.Test.YtnagidgffkffhaaGTurn3
set_option linter.unusedVariables false
set_option linter.unusedSimpArgs false
namespace Go.Proofs.Ytnagidgffkffhaa.G
open Go.RowKit Cfg Cod
set_option maxRecDepth 100000

def L1 : List StN := [⟨⟨0, 1⟩, true⟩, ⟨⟨1, 1⟩, true⟩]
def L2 : List StN := [⟨⟨1, 1⟩, true⟩]
def L3 : List StN := [⟨⟨1, 1⟩, true⟩, ⟨⟨0, 2⟩, false⟩]
theorem firstN_two : firstN 2 = ⟨1, L1⟩ := by decide
theorem w1_eq : withoutN ⟨1, L1⟩ [⟨0, 1⟩] = (⟨2, L2⟩, 0) := by decide +kernel
theorem j1_eq : joinN ⟨2, L2⟩ ⟨0, 2⟩ = (⟨3, L3⟩, 0) := by decide +kernel
theorem w2_eq : withoutN ⟨3, L3⟩ [⟨1, 1⟩] = (zeroN, 13) := by decide +kernel
theorem f1_eq : followsN ⟨2, L2⟩ ⟨3, L3⟩ = true := by decide +kernel
theorem f2_eq : followsN ⟨1, L1⟩ ⟨3, L3⟩ = false := by decide +kernel
theorem r1_eq : rightN ⟨1, L1⟩ = true := by decide +kernel
def bytesA : ByteArray := ⟨#[1, 2, 0, 1, 1, 1, 1, 1]⟩
theorem e0 : encB 0 = ⟨#[0]⟩ := by unfold encB; rw [enc_small (by omega)]; rfl
theorem e1 : encB 1 = ⟨#[1]⟩ := by unfold encB; rw [enc_small (by omega)]; rfl
theorem e2 : encB 2 = ⟨#[2]⟩ := by unfold encB; rw [enc_small (by omega)]; rfl
theorem p1_eq : printN ⟨1, L1⟩ = bytesA := by
  unfold printN
  rw [if_pos r1_eq]
  show encB 1 ++ encB 2 ++ (encB 0 ++ encB 1 ++ flagB true ++ (encB 1 ++ encB 1 ++ flagB true ++ ⟨#[]⟩)) = bytesA
  rw [e0, e1, e2]
  decide
theorem p2_eq : printE ⟨1, L1⟩ = 0 := by unfold printE; rw [if_pos r1_eq]
theorem mbs_one (w : World) (m : MbN) : Mbs (w.alloc (.cells #[.int .i64 m.node, .int .i64 m.life] 26)) (some ⟨w.heap.size, 0, none⟩) [m] := fun i hi => by
  obtain rfl : i = 0 := by simp at hi; exact hi
  have h := Blk.new w #[.int .i64 m.node, .int .i64 m.life] 26
  exact ⟨_, 0, rfl, h.cell 0, h.cell 1⟩
/-- What is held along the way. -/
structure Aw (w w3 : World) : Prop where
  b : Below w.heap.size w w3
theorem Aw.below {w w3 w4 : World} (h : Aw w w3) (k : Below w3.heap.size w3 w4) : Aw w w4 := ⟨h.b.trans (k.mono h.b.size)⟩
set_option maxHeartbeats 8000000 in
theorem awake_any (w : World) : Calls Try.prog 10 #[] w fun e w' => e = .returned (.bool true) ∧ Below w.heap.size w w' := by
  have c1 : Hid (∀ X, Calls Try.prog 12 #[.int .i64 2] X fun e w' => (∃ p cap, e = .returned (.tuple #[.agg #[.int .i64 1, .slice p 2 cap], .int .i64 0]) ∧ Chn w' p L1 ∧ 2 ≤ cap) ∧ Below X.heap.size X w') := fun X => by
    have h := first_any 2 X
    rw [if_pos (by decide), show (2 : Int).toNat = 2 from rfl, firstN_two] at h
    exact h
  have c2 : Hid (∀ X p cap q, Chn X p L1 → 2 ≤ cap → Mbs X q [⟨0, 1⟩] → Calls Try.prog 25 #[.agg #[.int .i64 1, .slice p 2 cap], .slice q 1 1] X fun e w' => (∃ p' cap', e = .returned (.tuple #[.agg #[.int .i64 2, .slice p' 1 cap'], .int .i64 0]) ∧ Chn w' p' L2 ∧ 1 ≤ cap') ∧ Below X.heap.size X w') := fun X p cap q t h g => by
    have := without_any ⟨1, L1⟩ p cap [⟨0, 1⟩] q 1 X t h (by decide) g (by decide)
    rw [w1_eq] at this
    exact this
  have c3 : Hid (∀ X p cap, Chn X p L2 → 1 ≤ cap → Calls Try.prog 27 #[.agg #[.int .i64 2, .slice p 1 cap], .agg #[.int .i64 0, .int .i64 2]] X fun e w' => (∃ p' cap', e = .returned (.tuple #[.agg #[.int .i64 3, .slice p' 2 cap'], .int .i64 0]) ∧ Chn w' p' L3 ∧ 2 ≤ cap') ∧ Below X.heap.size X w') := fun X p cap t h => by
    have := join_any ⟨2, L2⟩ p cap ⟨0, 2⟩ X t h (by decide)
    rw [j1_eq] at this
    exact this
  have c4 : Hid (∀ X p cap q, Chn X p L3 → 2 ≤ cap → Mbs X q [⟨1, 1⟩] → Calls Try.prog 25 #[.agg #[.int .i64 3, .slice p 2 cap], .slice q 1 1] X fun e w' => (∃ p' cap', e = .returned (.tuple #[.agg #[.int .i64 0, .slice p' 0 cap'], .int .i64 13])) ∧ Below X.heap.size X w') := fun X p cap q t h g => by
    have := without_any ⟨3, L3⟩ p cap [⟨1, 1⟩] q 1 X t h (by decide) g (by decide)
    rw [w2_eq] at this
    exact this.mono fun e w' ⟨⟨p', c', h1, _⟩, h2⟩ => ⟨⟨p', c', h1⟩, h2⟩
  have c5 : Hid (∀ X p cap, Chn X p L3 → Calls Try.prog 15 #[.agg #[.int .i64 3, .slice p 2 cap]] X fun e w' => e = .returned (.tuple #[.agg #[.int .i64 1, .int .i64 1], .bool true]) ∧ Below X.heap.size X w') := fun X p cap t => head_any ⟨3, L3⟩ p cap X t
  have c6 : Hid (∀ X p cap, Chn X p L1 → 2 ≤ cap → Calls Try.prog 39 #[.agg #[.int .i64 1, .slice p 2 cap]] X fun e w' => e = .returned (.tuple #[.string bytesA, .int .i64 0]) ∧ Below X.heap.size X w') := fun X p cap t h => by
    have := print_any ⟨1, L1⟩ p cap X t h (by decide)
    rw [p1_eq, p2_eq] at this
    exact this
  have c7 : Hid (∀ X p cap q qc, Chn X p L2 → Chn X q L3 → 1 ≤ cap → 2 ≤ qc → Calls Try.prog 31 #[.agg #[.int .i64 2, .slice p 1 cap], .agg #[.int .i64 3, .slice q 2 qc]] X fun e w' => e = .returned (.bool true) ∧ Below X.heap.size X w') := fun X p cap q qc t u h1 h2 => by
    have := follows_any ⟨2, L2⟩ ⟨3, L3⟩ p q cap qc X t u h1 h2 (by decide) (by decide)
    rw [f1_eq] at this
    exact this
  have c8 : Hid (∀ X p cap q qc, Chn X p L1 → Chn X q L3 → 2 ≤ cap → 2 ≤ qc → Calls Try.prog 31 #[.agg #[.int .i64 1, .slice p 2 cap], .agg #[.int .i64 3, .slice q 2 qc]] X fun e w' => e = .returned (.bool false) ∧ Below X.heap.size X w') := fun X p cap q qc t u h1 h2 => by
    have := follows_any ⟨1, L1⟩ ⟨3, L3⟩ p q cap qc X t u h1 h2 (by decide) (by decide)
    rw [f2_eq] at this
    exact this
  have hby : (bytesA.toList == [1, 2, 0, 1, 1, 1, 1, 1]) = true := by decide +kernel
  have a := Lib.hid (Aw.mk (Below.refl w.heap.size w))
  go_enter Try.func10, Try.ntmps10
  go_wp2_with fail
  refine (c1.out w).mono ?_
  rintro e w1 ⟨⟨p1, n1, rfl, t1, h1⟩, bb⟩
  replace a := Lib.hid (a.out.below bb)
  clear bb
  replace t1 := Lib.hid t1
  have bb := (Below.refl w1.heap.size w1).alloc (Nat.le_refl _) (.cells #[.int .i64 1, .slice p1 2 n1] 24)
  replace a := Lib.hid (a.out.below bb)
  replace t1 := Lib.hid (t1.out.below bb)
  have k1 := Lib.hid (Blk.new w1 #[.int .i64 1, .slice p1 2 n1] 24)
  clear bb
  go_upto_region 2 with fail
  generalize w1.alloc _ = w2 at *
  generalize w1.heap.size = q1 at *
  have y0 := k1.out.cell 0
  have y1 := k1.out.cell 1
  have bb := (Below.refl w2.heap.size w2).alloc (Nat.le_refl _) (.cells #[.int .i64 0, .int .i64 1] 26)
  replace a := Lib.hid (a.out.below bb)
  replace t1 := Lib.hid (t1.out.below bb)
  replace k1 := Lib.hid (k1.out.below bb)
  clear bb
  have mb := Lib.hid (mbs_one w2 ⟨0, 1⟩)
  go_wp2_with fail
  refine (c2.out _ _ _ _ t1.out h1 mb.out).mono ?_
  rintro e w3 ⟨⟨p2, n2, rfl, t2, h2⟩, bb⟩
  replace a := Lib.hid (a.out.below bb)
  replace t1 := Lib.hid (t1.out.below bb)
  replace k1 := Lib.hid (k1.out.below bb)
  clear bb
  clear mb y0 y1
  replace t2 := Lib.hid t2
  have bb := (Below.refl w3.heap.size w3).alloc (Nat.le_refl _) (.cells #[.int .i64 2, .slice p2 1 n2] 24)
  replace a := Lib.hid (a.out.below bb)
  replace t1 := Lib.hid (t1.out.below bb)
  replace k1 := Lib.hid (k1.out.below bb)
  replace t2 := Lib.hid (t2.out.below bb)
  have k2 := Lib.hid (Blk.new w3 #[.int .i64 2, .slice p2 1 n2] 24)
  clear bb
  go_upto_region 3 with fail
  generalize w3.alloc _ = w4 at *
  generalize w3.heap.size = q2 at *
  have y0 := k2.out.cell 0
  have y1 := k2.out.cell 1
  go_wp2_with fail
  refine (c3.out _ _ _ t2.out h2).mono ?_
  rintro e w5 ⟨⟨p3, n3, rfl, t3, h3⟩, bb⟩
  replace a := Lib.hid (a.out.below bb)
  replace t1 := Lib.hid (t1.out.below bb)
  replace k1 := Lib.hid (k1.out.below bb)
  replace t2 := Lib.hid (t2.out.below bb)
  replace k2 := Lib.hid (k2.out.below bb)
  clear bb
  clear y0 y1
  replace t3 := Lib.hid t3
  have bb := (Below.refl w5.heap.size w5).alloc (Nat.le_refl _) (.cells #[.int .i64 3, .slice p3 2 n3] 24)
  replace a := Lib.hid (a.out.below bb)
  replace t1 := Lib.hid (t1.out.below bb)
  replace k1 := Lib.hid (k1.out.below bb)
  replace t2 := Lib.hid (t2.out.below bb)
  replace k2 := Lib.hid (k2.out.below bb)
  replace t3 := Lib.hid (t3.out.below bb)
  have k3 := Lib.hid (Blk.new w5 #[.int .i64 3, .slice p3 2 n3] 24)
  clear bb
  go_upto_region 4 with fail
  generalize w5.alloc _ = w6 at *
  generalize w5.heap.size = q3 at *
  have y0 := k3.out.cell 0
  have y1 := k3.out.cell 1
  have bb := (Below.refl w6.heap.size w6).alloc (Nat.le_refl _) (.cells #[.int .i64 1, .int .i64 1] 26)
  replace a := Lib.hid (a.out.below bb)
  replace t1 := Lib.hid (t1.out.below bb)
  replace k1 := Lib.hid (k1.out.below bb)
  replace t2 := Lib.hid (t2.out.below bb)
  replace k2 := Lib.hid (k2.out.below bb)
  replace t3 := Lib.hid (t3.out.below bb)
  replace k3 := Lib.hid (k3.out.below bb)
  clear bb
  have mb := Lib.hid (mbs_one w6 ⟨1, 1⟩)
  go_wp2_with fail
  refine (c4.out _ _ _ _ t3.out h3 mb.out).mono ?_
  rintro e w7 ⟨⟨p4, n4, rfl⟩, bb⟩
  replace a := Lib.hid (a.out.below bb)
  replace t1 := Lib.hid (t1.out.below bb)
  replace k1 := Lib.hid (k1.out.below bb)
  replace t2 := Lib.hid (t2.out.below bb)
  replace k2 := Lib.hid (k2.out.below bb)
  replace t3 := Lib.hid (t3.out.below bb)
  replace k3 := Lib.hid (k3.out.below bb)
  clear bb
  clear mb y0 y1
  have bb := (Below.refl w7.heap.size w7).alloc (Nat.le_refl _) (.cells #[.int .i64 0, .slice p4 0 n4] 24)
  replace a := Lib.hid (a.out.below bb)
  replace t1 := Lib.hid (t1.out.below bb)
  replace k1 := Lib.hid (k1.out.below bb)
  replace t2 := Lib.hid (t2.out.below bb)
  replace k2 := Lib.hid (k2.out.below bb)
  replace t3 := Lib.hid (t3.out.below bb)
  replace k3 := Lib.hid (k3.out.below bb)
  clear bb
  go_upto_region 5 with fail
  generalize w7.alloc _ = w8 at *
  generalize w7.heap.size = q4 at *
  have y0 := k3.out.cell 0
  have y1 := k3.out.cell 1
  go_wp2_with fail
  refine (c5.out _ _ _ t3.out).mono ?_
  rintro e w9 ⟨rfl, bb⟩
  replace a := Lib.hid (a.out.below bb)
  replace t1 := Lib.hid (t1.out.below bb)
  replace k1 := Lib.hid (k1.out.below bb)
  replace t2 := Lib.hid (t2.out.below bb)
  replace k2 := Lib.hid (k2.out.below bb)
  replace t3 := Lib.hid (t3.out.below bb)
  replace k3 := Lib.hid (k3.out.below bb)
  clear bb
  clear y0 y1
  have bb := (Below.refl w9.heap.size w9).alloc (Nat.le_refl _) (.cells #[.int .i64 1, .int .i64 1] 26)
  replace a := Lib.hid (a.out.below bb)
  replace t1 := Lib.hid (t1.out.below bb)
  replace k1 := Lib.hid (k1.out.below bb)
  replace t2 := Lib.hid (t2.out.below bb)
  replace k2 := Lib.hid (k2.out.below bb)
  replace t3 := Lib.hid (t3.out.below bb)
  replace k3 := Lib.hid (k3.out.below bb)
  have k5 := Lib.hid (Blk.new w9 #[.int .i64 1, .int .i64 1] 26)
  clear bb
  go_upto_region 6 with fail
  generalize w9.alloc _ = wa at *
  generalize w9.heap.size = q5 at *
  have y0 := k1.out.cell 0
  have y1 := k1.out.cell 1
  go_wp2_with fail
  refine (c6.out _ _ _ t1.out h1).mono ?_
  rintro e wb ⟨rfl, bb⟩
  replace a := Lib.hid (a.out.below bb)
  replace t1 := Lib.hid (t1.out.below bb)
  replace k1 := Lib.hid (k1.out.below bb)
  replace t2 := Lib.hid (t2.out.below bb)
  replace k2 := Lib.hid (k2.out.below bb)
  replace t3 := Lib.hid (t3.out.below bb)
  replace k3 := Lib.hid (k3.out.below bb)
  replace k5 := Lib.hid (k5.out.below bb)
  clear bb
  clear y0 y1
  have y0 := k1.out.cell 0
  have y1 := k1.out.cell 1
  have z0 := k2.out.cell 0
  have z1 := k2.out.cell 1
  have u0 := k3.out.cell 0
  have u1 := k3.out.cell 1
  have v0 := k5.out.cell 0
  have v1 := k5.out.cell 1
  have hz := (t3.out 1 (by decide))
  obtain ⟨g3, off3, hp3, -, -, x2⟩ := hz
  subst hp3
  replace x2 : wb.cell? ⟨g3, off3 + 1 * 3 + 2, none⟩ = some (.bool false) := x2
  simp only [Nat.one_mul] at x2
  have hme := mb_eq ⟨1, 1⟩ ⟨1, 1⟩
  rw [decide_eq_true rfl] at hme
  go_wp2_with fail
  refine (c7.out _ _ _ _ _ t2.out t3.out h2 h3).mono ?_
  rintro e wc ⟨rfl, bb⟩
  clear y0 y1 z0 z1 u0 u1 v0 v1 x2
  replace a := Lib.hid (a.out.below bb)
  replace t1 := Lib.hid (t1.out.below bb)
  replace k1 := Lib.hid (k1.out.below bb)
  replace t2 := Lib.hid (t2.out.below bb)
  replace k2 := Lib.hid (k2.out.below bb)
  replace t3 := Lib.hid (t3.out.below bb)
  replace k3 := Lib.hid (k3.out.below bb)
  replace k5 := Lib.hid (k5.out.below bb)
  clear bb
  have y0 := k1.out.cell 0
  have y1 := k1.out.cell 1
  have u0 := k3.out.cell 0
  have u1 := k3.out.cell 1
  go_wp2_with fail
  refine (c8.out _ _ _ _ _ t1.out t3.out h1 h3).mono ?_
  rintro e wd ⟨rfl, bb⟩
  replace a := Lib.hid (a.out.below bb)
  replace t1 := Lib.hid (t1.out.below bb)
  replace k1 := Lib.hid (k1.out.below bb)
  replace t2 := Lib.hid (t2.out.below bb)
  replace k2 := Lib.hid (k2.out.below bb)
  replace t3 := Lib.hid (t3.out.below bb)
  replace k3 := Lib.hid (k3.out.below bb)
  replace k5 := Lib.hid (k5.out.below bb)
  clear bb y0 y1 u0 u1
  go_wp2_with fail
  go_ret
  exact ⟨rfl, a.out.b⟩
end Go.Proofs.Ytnagidgffkffhaa.G
