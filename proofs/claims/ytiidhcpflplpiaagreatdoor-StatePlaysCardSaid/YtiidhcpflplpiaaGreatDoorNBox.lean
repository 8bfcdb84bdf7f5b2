/-
  Layer 5: what lies in the world (the tables, a spec's copy), and the program's minuteFrom.
-/
import Derived.Test.YtiidhcpflplpiaaGreatDoorNNum
import Derived.Test.YtiidhcpflplpiaaGreatDoorVDate
set_option linter.unusedVariables false
namespace Go.Proofs.YtiidhcpflplpiaaGreatDoor
open Go.RowKit Crn Nxt

/-- The tables that package next reads by way of civil and math/bits. -/
structure NTab (w : World) : Prop where
  civ : V.Tab w
  bru : Bru w
  size : max 2 1 < w.heap.size
theorem NTab.keep {B : Nat} {w w' : World} (t : NTab w) (h : Below B w w') (hB : max 2 1 < B) : NTab w' := by
  have h0 : 2 < B := by omega
  have h1 : 1 < B := by omega
  exact ⟨fun i hi => (h.cell (p := ⟨2, i, none⟩) h0).trans (t.civ i hi), fun i hi => (h.cell (p := ⟨1, i, none⟩) h1).trans (t.bru i hi), Nat.lt_of_lt_of_le t.size h.size⟩
theorem NTab.below {w w' : World} (t : NTab w) (h : Below w.heap.size w w') : NTab w' := t.keep h t.size
theorem NTab.alloc {w : World} (t : NTab w) (o : Obj) : NTab (w.alloc o) := t.below ((Below.refl _ _).alloc (Nat.le_refl _) o)

/-- The cells of a spec's copy. -/
structure Box (g : Nat) (wr : World) (x0 x1 x2 x3 x4 : Nat) (x5 x6 : Bool) (x7 : Int) : Prop where
  c0 : wr.cell? ⟨g, 0, none⟩ = some (.int .u64 x0)
  c1 : wr.cell? ⟨g, 1, none⟩ = some (.int .u64 x1)
  c2 : wr.cell? ⟨g, 2, none⟩ = some (.int .u64 x2)
  c3 : wr.cell? ⟨g, 3, none⟩ = some (.int .u64 x3)
  c4 : wr.cell? ⟨g, 4, none⟩ = some (.int .u64 x4)
  c5 : wr.cell? ⟨g, 5, none⟩ = some (.bool x5)
  c6 : wr.cell? ⟨g, 6, none⟩ = some (.bool x6)
  c7 : wr.cell? ⟨g, 7, none⟩ = some (.int .i64 x7)
theorem Box.step {g : Nat} {wr w' : World} {x0 x1 x2 x3 x4 : Nat} {x5 x6 : Bool} {x7 : Int} (h : Box g wr x0 x1 x2 x3 x4 x5 x6 x7) (k : Below wr.heap.size wr w') : Box g w' x0 x1 x2 x3 x4 x5 x6 x7 := by
  have h1 := World.block_lt_of_cell? wr _ h.c0
  exact ⟨(k.cell (p := ⟨g, 0, none⟩) h1).trans h.c0, (k.cell (p := ⟨g, 1, none⟩) h1).trans h.c1, (k.cell (p := ⟨g, 2, none⟩) h1).trans h.c2, (k.cell (p := ⟨g, 3, none⟩) h1).trans h.c3, (k.cell (p := ⟨g, 4, none⟩) h1).trans h.c4, (k.cell (p := ⟨g, 5, none⟩) h1).trans h.c5, (k.cell (p := ⟨g, 6, none⟩) h1).trans h.c6, (k.cell (p := ⟨g, 7, none⟩) h1).trans h.c7⟩
theorem Box.start (w : World) (x0 x1 x2 x3 x4 : Nat) (x5 x6 : Bool) (x7 : Int) : Box w.heap.size (w.alloc (.cells #[.int .u64 x0, .int .u64 x1, .int .u64 x2, .int .u64 x3, .int .u64 x4, .bool x5, .bool x6, .int .i64 x7] 64)) x0 x1 x2 x3 x4 x5 x6 x7 := by
  refine ⟨?_, ?_, ?_, ?_, ?_, ?_, ?_, ?_⟩
  all_goals (rw [World.cell?_alloc_new]; rfl)
theorem Box.all {g : Nat} {wr : World} {x0 x1 x2 x3 x4 : Nat} {x5 x6 : Bool} {x7 : Int} (h : Box g wr x0 x1 x2 x3 x4 x5 x6 x7) : wr.cell? ⟨g, 0, none⟩ = some (.int .u64 x0) ∧ wr.cell? ⟨g, 1, none⟩ = some (.int .u64 x1) ∧ wr.cell? ⟨g, 2, none⟩ = some (.int .u64 x2) ∧ wr.cell? ⟨g, 3, none⟩ = some (.int .u64 x3) ∧ wr.cell? ⟨g, 4, none⟩ = some (.int .u64 x4) ∧ wr.cell? ⟨g, 5, none⟩ = some (.bool x5) ∧ wr.cell? ⟨g, 6, none⟩ = some (.bool x6) ∧ wr.cell? ⟨g, 7, none⟩ = some (.int .i64 x7) :=
  ⟨h.c0, h.c1, h.c2, h.c3, h.c4, h.c5, h.c6, h.c7⟩

/-! The first minute of a day. -/
theorem answerF_none (d : Nat) : answerF none d = .returned (.tuple #[.int .i64 d, .bool false]) := rfl
theorem answerF_some (n d : Nat) : answerF (some n) d = .returned (.tuple #[.int .i64 n, .bool true]) := rfl
def FirstClock (x : SpecN) (a : Nat) : Option Nat → Prop
  | some i => a ≤ i ∧ Clock x i ∧ ∀ j, a ≤ j → j < i → ¬ Clock x j
  | none => ∀ j, a ≤ j → ¬ Clock x j
theorem set_small {f set n : Nat} (hf : f < 5) (h : okSet f set = true) (hb : set.testBit n = true) : low f ≤ n ∧ n ≤ top f := by
  obtain ⟨_, h1, h2⟩ := sub_bit hf (okSet_iff.1 h).2 hb
  exact ⟨h1, h2⟩
theorem right_min {x : SpecN} (h : right x = true) {n : Nat} (hb : x.min.testBit n = true) : n < 60 := by
  have := (set_small (f := 0) (by omega) (right_parts h).1 hb).2
  have e : top 0 = 59 := rfl
  omega
theorem right_hour {x : SpecN} (h : right x = true) {n : Nat} (hb : x.hour.testBit n = true) : n < 24 := by
  have := (set_small (f := 1) (by omega) (right_parts h).2.1 hb).2
  have e : top 1 = 23 := rfl
  omega
theorem minute_bits (x : SpecN) {a b : Nat} (ha : a < 64) (hb : b < 64) : minute x (a : Int) (b : Int) = (x.hour.testBit a && x.min.testBit b) := by
  unfold minute
  rw [has_bit ha, has_bit hb]
theorem clock_iff {x : SpecN} {i : Nat} : Clock x i ↔ i < 1440 ∧ x.hour.testBit (i / 60) = true ∧ x.min.testBit (i % 60) = true := by
  unfold Clock
  constructor
  · rintro ⟨h1, h2⟩
    rw [minute_bits x (by omega) (by omega)] at h2
    simp at h2
    exact ⟨h1, h2⟩
  · rintro ⟨h1, h2, h3⟩
    refine ⟨h1, ?_⟩
    rw [minute_bits x (by omega) (by omega), h2, h3]
    rfl
theorem min_some {x : SpecN} (h : right x = true) (hn : First x.min 0 none) : False := by
  obtain ⟨i, hi⟩ := some_clock h
  have := hn (i % 60) (Nat.zero_le _)
  rw [(clock_iff.1 hi).2.2] at this
  cases this
theorem fc_here {x : SpecN} (h : right x = true) {a m : Nat} (ha : a < 1440) (hm : First x.min (a % 60) (some m)) (hh : x.hour.testBit (a / 60) = true) : FirstClock x a (some (a / 60 * 60 + m)) := by
  obtain ⟨h1, _, h2, h3⟩ := hm
  have hm60 := right_min h h2
  refine ⟨by omega, clock_iff.2 ⟨by omega, ?_, ?_⟩, fun j j1 j2 hj => ?_⟩
  · rw [show (a / 60 * 60 + m) / 60 = a / 60 by omega]; exact hh
  · rw [show (a / 60 * 60 + m) % 60 = m by omega]; exact h2
  · obtain ⟨_, _, g⟩ := clock_iff.1 hj
    rw [h3 (j % 60) (by omega) (by omega)] at g
    cases g
/-- Nothing any more in the hour of a. -/
def Over (x : SpecN) (a : Nat) : Prop := First x.min (a % 60) none ∨ x.hour.testBit (a / 60) = false
theorem Over.no {x : SpecN} {a j : Nat} (h : Over x a) (h1 : a ≤ j) (h2 : j / 60 = a / 60) : ¬ Clock x j := by
  intro hj
  obtain ⟨_, g1, g2⟩ := clock_iff.1 hj
  rcases h with h | h
  · rw [h (j % 60) (by omega)] at g2
    cases g2
  · rw [h2, h] at g1
    cases g1
theorem fc_later {x : SpecN} (h : right x = true) {a p m : Nat} (ho : Over x a) (hp : First x.hour (a / 60 + 1) (some p)) (hm : First x.min 0 (some m)) : FirstClock x a (some (p * 60 + m)) := by
  obtain ⟨h1, _, h2, h3⟩ := hp
  obtain ⟨_, _, k2, k3⟩ := hm
  have hm60 := right_min h k2
  have hp24 := right_hour h h2
  refine ⟨by omega, clock_iff.2 ⟨by omega, ?_, ?_⟩, fun j j1 j2 hj => ?_⟩
  · rw [show (p * 60 + m) / 60 = p by omega]; exact h2
  · rw [show (p * 60 + m) % 60 = m by omega]; exact k2
  · obtain ⟨_, g1, g2⟩ := clock_iff.1 hj
    by_cases e : j / 60 = a / 60
    · exact ho.no j1 e hj
    · by_cases e2 : j / 60 = p
      · rw [k3 (j % 60) (Nat.zero_le _) (by omega)] at g2
        cases g2
      · rw [h3 (j / 60) (by omega) (by omega)] at g1
        cases g1
theorem fc_none {x : SpecN} {a : Nat} (ho : Over x a) (hp : First x.hour (a / 60 + 1) none) : FirstClock x a none := by
  intro j j1 hj
  by_cases e : j / 60 = a / 60
  · exact ho.no j1 e hj
  · obtain ⟨_, g1, _⟩ := clock_iff.1 hj
    rw [hp (j / 60) (by omega)] at g1
    cases g1

set_option maxRecDepth 100000 in
set_option maxHeartbeats 1000000 in
theorem minuteFrom_any (x : SpecN) (hx : Fits x) (hr : right x = true) (a : Nat) (ha : a < 1440) (w : World) (t : NTab w) :
    Calls Tryz.prog 124 #[specV x, .int .i64 a] w fun e w' => Found (FirstClock x a) 0 e ∧ Below w.heap.size w w' := by
  have Cn : Hid (∀ k W, k < 64 → NTab W → Calls Tryz.prog 146 #[.int .u64 x.min, .int .i64 (k : Nat)] W fun e w' => Found (First x.min k) 64 e ∧ W = w') := fun k W h1 h2 => numberFrom_any x.min k hx.min h1 W h2.bru
  have Ch : Hid (∀ k W, k < 64 → NTab W → Calls Tryz.prog 146 #[.int .u64 x.hour, .int .i64 (k : Nat)] W fun e w' => Found (First x.hour k) 64 e ∧ W = w') := fun k W h1 h2 => numberFrom_any x.hour k hx.hour h1 W h2.bru
  have Cm : Hid (∀ (h m : Nat) W, h < 64 → m < 64 → Calls Tryz.prog 147 #[specV x, .int .i64 h, .int .i64 m] W fun e w' => e = .returned (.bool (x.hour.testBit h && x.min.testBit m)) ∧ Below W.heap.size W w') := fun h m W h1 h2 => by
    rw [← minute_bits x h1 h2]
    exact cMinute_any x hx h m W (by omega) (by omega) (by omega) (by omega)
  have F1 : Hid (∀ m, First x.min (a % 60) (some m) → x.hour.testBit (a / 60) = true → FirstClock x a (some (a / 60 * 60 + m))) := fun m h1 h2 => fc_here hr ha h1 h2
  have F2 : Hid (∀ p m, Over x a → First x.hour (a / 60 + 1) (some p) → First x.min 0 (some m) → FirstClock x a (some (p * 60 + m))) := fun p m h1 h2 h3 => fc_later hr h1 h2 h3
  have F3 : Hid (Over x a → First x.hour (a / 60 + 1) none → FirstClock x a none) := fun h1 h2 => fc_none h1 h2
  have F4 : Hid (First x.min 0 none → False) := fun h => min_some hr h
  have O1 : Hid (First x.min (a % 60) none → Over x a) := fun h => Or.inl h
  have O2 : Hid (x.hour.testBit (a / 60) = false → Over x a) := fun h => Or.inr h
  generalize FirstClock x a = FC at *
  generalize Over x a = OV at *
  generalize x.hour.testBit = hb at *
  obtain ⟨x0, x1, x2, x3, x4, x5, x6, x7⟩ := x
  simp only [specV, cellsN] at *
  clear hr hx
  have t1 := Lib.hid (t.alloc (.cells #[.int .u64 x0, .int .u64 x1, .int .u64 x2, .int .u64 x3, .int .u64 x4, .bool x5, .bool x6, .int .i64 x7] 64))
  have B1 := Lib.hid (Box.start w x0 x1 x2 x3 x4 x5 x6 x7)
  have b1 := Lib.hid ((Below.refl w.heap.size w).alloc (Nat.le_refl _) (.cells #[.int .u64 x0, .int .u64 x1, .int .u64 x2, .int .u64 x3, .int .u64 x4, .bool x5, .bool x6, .int .i64 x7] 64))
  clear t
  have a1 : a / 60 < 24 := by omega
  have a2 : a % 60 < 60 := by omega
  have e1 : ((a / 60 : Nat) : Int) = (a : Int) / 60 := by omega
  have e2 : ((a % 60 : Nat) : Int) = (a : Int) % 60 := by omega
  have c1 := Lib.hid (Cn.out (a % 60) _ (by omega) t1.out)
  rw [e2] at c1
  go_enter Tryz.func124, Tryz.ntmps124
  clear e1 e2
  go_wp2_with fail
  refine c1.out.mono ?_
  rintro e w' ⟨⟨r, hr1, rfl⟩, rfl⟩
  replace hr1 := Lib.hid hr1
  cases r with
  | none =>
    rw [answerF_none]
    have ov := Lib.hid (O1.out hr1.out)
    clear hr1 c1
    have c2 := Lib.hid (Ch.out (a / 60 + 1) _ (by omega) t1.out)
    rw [show ((a / 60 + 1 : Nat) : Int) = (a : Int) / 60 + 1 by omega] at c2
    go_wp2_with fail
    refine c2.out.mono ?_
    rintro e w' ⟨⟨r, hr2, rfl⟩, rfl⟩
    replace hr2 := Lib.hid hr2
    cases r with
    | none =>
      rw [answerF_none]
      go_wp2_with fail
      go_ret2
      exact ⟨⟨_, F3.out ov.out hr2.out, rfl⟩, b1.out⟩
    | some p =>
      rw [answerF_some]
      have hp64 : p < 64 := hr2.out.2.1
      have c3 := Lib.hid (Cn.out 0 _ (by omega) t1.out)
      go_wp2_with fail
      refine c3.out.mono ?_
      rintro e w' ⟨⟨r, hr3, rfl⟩, rfl⟩
      replace hr3 := Lib.hid hr3
      cases r with
      | none => exact absurd hr3.out (fun h => F4.out h)
      | some m =>
        rw [answerF_some]
        have hm64 : m < 64 := hr3.out.2.1
        go_wp2_with fail
        go_ret2
        exact ⟨⟨_, F2.out p m ov.out hr2.out hr3.out, by rw [answerF_some]; go_num⟩, b1.out⟩
  | some m1 =>
    rw [answerF_some]
    have hm1 : m1 < 64 := hr1.out.2.1
    have hmb : Hid (x0.testBit m1 = true) := hr1.out.2.2.1
    have c2 := Lib.hid (Cm.out (a / 60) m1 (w.alloc (.cells #[.int .u64 x0, .int .u64 x1, .int .u64 x2, .int .u64 x3, .int .u64 x4, .bool x5, .bool x6, .int .i64 x7] 64)) (by omega) hm1)
    rw [show ((a / 60 : Nat) : Int) = (a : Int) / 60 by omega, hmb.out, Bool.and_true] at c2
    go_wp2_with fail
    refine c2.out.mono ?_
    rintro e w1 ⟨rfl, k1⟩
    have t2 := Lib.hid (t1.out.below k1)
    have B2 := Lib.hid (B1.out.step k1)
    have b2 := Lib.hid (b1.out.trans (k1.mono b1.out.size))
    clear k1 c1 c2 hmb
    cases hq : hb (a / 60) with
    | true =>
      have fin := Lib.hid (F1.out m1 hr1.out hq)
      clear hq
      go_wp2_with fail
      go_ret2
      exact ⟨⟨_, fin.out, by rw [answerF_some]; go_num⟩, b2.out⟩
    | false =>
      have ov := Lib.hid (O2.out hq)
      clear hq hr1 t1 B1 b1
      have q0 := B2.out.c0
      have q1 := B2.out.c1
      have c2 := Lib.hid (Ch.out (a / 60 + 1) w1 (by omega) t2.out)
      rw [show ((a / 60 + 1 : Nat) : Int) = (a : Int) / 60 + 1 by omega] at c2
      go_wp2_with fail
      refine c2.out.mono ?_
      rintro e w' ⟨⟨r, hr2, rfl⟩, rfl⟩
      replace hr2 := Lib.hid hr2
      cases r with
      | none =>
        rw [answerF_none]
        go_wp2_with fail
        go_ret2
        exact ⟨⟨_, F3.out ov.out hr2.out, rfl⟩, b2.out⟩
      | some p =>
        rw [answerF_some]
        have hp64 : p < 64 := hr2.out.2.1
        have c3 := Lib.hid (Cn.out 0 w1 (by omega) t2.out)
        go_wp2_with fail
        refine c3.out.mono ?_
        rintro e w' ⟨⟨r, hr3, rfl⟩, rfl⟩
        replace hr3 := Lib.hid hr3
        cases r with
        | none => exact absurd hr3.out (fun h => F4.out h)
        | some m =>
          rw [answerF_some]
          have hm64 : m < 64 := hr3.out.2.1
          go_wp2_with fail
          go_ret2
          exact ⟨⟨_, F2.out p m ov.out hr2.out hr3.out, by rw [answerF_some]; go_num⟩, b2.out⟩
end Go.Proofs.YtiidhcpflplpiaaGreatDoor
