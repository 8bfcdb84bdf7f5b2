/-
  Texts laid into one (a claim has 60 files at most): VDate, NBox, NOnce, NDo.
-/
import Derived.Test.YtoihekgmomjhpaaGreatDoorKN1
import Derived.Test.YtoihekgmomjhpaaGreatDoorKC6
import Derived.Deep.RegionWith
import Derived.Deep.DeepCutAuto
/-
  Date of the program and Date of the document: the one date of a day, or that there is none.
-/
namespace Go.Proofs.YtoihekgmomjhpaaGreatDoor.V
open Go.RowKit Civ
theorem year_lt {n y : Nat} (hn : n < 2932897) (h1 : 1970 ≤ y) (h : ay y ≤ n) : y ≤ 9999 := by
  rcases Nat.lt_or_ge y 10000 with h | h
  · omega
  · have := ay_mono (a := 10000) (b := y) (by omega) h
    have := ay_last
    omega
set_option maxRecDepth 100000 in
set_option maxHeartbeats 400000 in
theorem yearOf_any (n : Nat) (w : World) (hn : n < 2932897) :
    Calls Tryz.prog 213 #[.int .i64 n] w fun e w' => ∃ y : Nat, e = .returned (.int .i64 y) ∧ 1970 ≤ y ∧ ay y ≤ n ∧ n < ay (y + 1) ∧ w = w' := by
  go_enter Tryz.func213, Tryz.ntmps213
  go_wp2_with fail
  go_loop [3] (fun i => ∃ y : Nat, 1970 ≤ y ∧ y ≤ 10010 ∧ i = .int .i64 y ∧ n < ay (y + 1)) (fun i => (intOf i).toNat)
  case atStart =>
    have := ay_ge (y := 1970 + n / 365 + 1) (by omega)
    exact ⟨1970 + n / 365, by omega, by omega, by go_num, by omega⟩
  case round =>
    obtain ⟨y, y1, y2, rfl, h⟩ := hrel
    have h' : Hid (n < ay (y + 1)) := h
    have h0 := Lib.hid ay_first
    have c := Lib.hid (aheadOfYear_any y w y1 (by omega))
    have hE := ay_le y1
    clear h
    by_cases hy : ay y ≤ n
    · have hy' : Hid (ay y ≤ n) := hy
      generalize hA : ay y = a at *
      go_wp2_with fail
      refine c.out.mono ?_
      rintro e w' ⟨rfl, rfl⟩
      go_wp2_with fail
      go_ret
      exact ⟨y, rfl, y1, by omega, h'.out, rfl⟩
    · have hne : Hid (1970 < y) := by
        rcases Nat.lt_or_ge 1970 y with h | h
        · exact h
        · obtain rfl : y = 1970 := by omega
          exact absurd (by rw [h0.out]; omega) hy
      have hlt : Hid (n < ay (y - 1 + 1)) := by rw [Nat.sub_add_cancel (by omega)]; exact Nat.lt_of_not_le hy
      generalize hA : ay y = a at *
      go_wp2_with fail
      refine c.out.mono ?_
      rintro e w' ⟨rfl, rfl⟩
      go_wp2_with fail
      go_round
      case rel => have := hne.out; exact ⟨y - 1, by omega, by omega, by go_num, hlt.out⟩
      case measure => simp [intOf]; omega
set_option maxRecDepth 100000 in
set_option maxHeartbeats 400000 in
theorem monthOf_any (y d : Nat) (w : World) (t : Tab w) (hy : y ≤ 100000) (hd : d < am y 13) :
    Calls Tryz.prog 214 #[.int .i64 y, .int .i64 d] w fun e w' => ∃ m : Nat, e = .returned (.int .i64 m) ∧ 1 ≤ m ∧ m ≤ 12 ∧ am y m ≤ d ∧ d < am y (m + 1) ∧ w = w' := by
  have t' := Lib.hid t
  clear t
  have h13 := am_end_le y
  go_enter Tryz.func214, Tryz.ntmps214
  go_wp2_with fail
  go_loop [5] (fun i => ∃ m : Nat, 1 ≤ m ∧ m ≤ 12 ∧ i = .int .i64 m ∧ d < am y (m + 1)) (fun i => (intOf i).toNat)
  case atStart => exact ⟨12, by omega, by omega, rfl, hd⟩
  case round =>
    obtain ⟨m, m1, m2, rfl, h⟩ := hrel
    have h' : Hid (d < am y (m + 1)) := h
    have h0 := Lib.hid (am_one y)
    have c := Lib.hid (aheadOfMonth_any y m w t'.out hy m1 (by omega))
    have hE := am_le y m1 (by omega)
    clear h
    by_cases hm : am y m ≤ d
    · generalize hA : am y m = a at *
      go_wp2_with fail
      refine c.out.mono ?_
      rintro e w' ⟨rfl, rfl⟩
      go_wp2_with fail
      go_ret
      exact ⟨m, rfl, m1, m2, by omega, h'.out, rfl⟩
    · have hne : Hid (1 < m) := by
        rcases Nat.lt_or_ge 1 m with h | h
        · exact h
        · obtain rfl : m = 1 := by omega
          exact absurd (by rw [h0.out]; omega) hm
      have hlt : Hid (d < am y (m - 1 + 1)) := by rw [Nat.sub_add_cancel (by omega)]; exact Nat.lt_of_not_le hm
      generalize hA : am y m = a at *
      go_wp2_with fail
      refine c.out.mono ?_
      rintro e w' ⟨rfl, rfl⟩
      go_wp2_with fail
      go_round
      case rel => have := hne.out; exact ⟨m - 1, by omega, by omega, by go_num, hlt.out⟩
      case measure => simp [intOf]; omega
theorem results_four {fn : Func} {t u v x : Tmp} (h : fn.results = #[.tmp t, .tmp u, .tmp v, .tmp x]) (tmps : Array Value) (P : Program) (w : World) :
    (results fn tmps).run P w = .ok (.tuple #[tmps.getD t undef, tmps.getD u undef, tmps.getD v undef, tmps.getD x undef]) w := by
  simp [results, h]
set_option maxRecDepth 100000 in
set_option maxHeartbeats 400000 in
theorem date_some (n : Nat) (w : World) (t : Tab w) (hn : n < 2932897) :
    Calls Tryz.prog 191 #[.int .i64 n] w fun e w' => (∃ y m d : Nat, e = .returned (.tuple #[.int .i64 y, .int .i64 m, .int .i64 d, .int .i64 0]) ∧ Day n y m d) ∧ w = w' := by
  have hd : decide (0 ≤ (n : Int) ∧ (n : Int) < 2932897) = true := by simp; omega
  have c1 := Lib.hid (isDay_any n w (by omega) (by omega))
  rw [hd] at c1
  have c2 := Lib.hid (yearOf_any n w hn)
  clear hd
  go_enter Tryz.func191, Tryz.ntmps191
  go_wp2_with fail
  refine c1.out.mono ?_
  rintro e w' ⟨rfl, rfl⟩
  go_wp2_with fail
  refine c2.out.mono ?_
  rintro e w' ⟨y, rfl, y1, h1, h2, rfl⟩
  have y2 := year_lt hn y1 h1
  have hs := ay_step y1
  have hS := am_end_le y
  have c3 := Lib.hid (aheadOfYear_any y w y1 (by omega))
  have c4 := Lib.hid (monthOf_any y (n - ay y) w t (by omega) (by omega))
  have hin : Hid (n < 2932897 ∧ ay y ≤ n) := ⟨hn, h1⟩
  have hlt : n - ay y < 366 := by omega
  have hB := ay_le y1
  clear hs hS h2
  go_wp2_with fail
  refine c3.out.mono ?_
  rintro e w' ⟨rfl, rfl⟩
  have hsub : (n : Int) - (ay y : Nat) = ((n - ay y : Nat) : Int) := by omega
  go_wp2_with fail
  refine c4.out.mono ?_
  rintro e w' ⟨m, rfl, m1, m2, h3, h4, rfl⟩
  have c5 := Lib.hid (aheadOfMonth_any y m w t (by omega) m1 (by omega))
  have fin := Lib.hid (Day.mk' y1 hin.out.2 hin.out.1 m1 m2 h3 h4)
  clear h4 t
  generalize hq : n - ay y = q at *
  generalize hp : am y m = p at *
  go_wp2_with fail
  refine c5.out.mono ?_
  rintro e w' ⟨rfl, rfl⟩
  go_wp2_with fail
  (try simp only [Exit.inBlock, Exit.then])
  refine bodyPost_ret (results_four rfl _ _ _) rfl ?_
  have E : (q : Int) - p + 1 = ((q - p + 1 : Nat) : Int) := by omega
  refine ⟨⟨y, m, q - p + 1, ?_, fin.out⟩, rfl⟩
  rw [← E]; rfl
theorem date_none (n : Int) (w : World) (h1 : -9223372036854775808 ≤ n) (h2 : n ≤ 9223372036854775807) (h : ¬ (0 ≤ n ∧ n < 2932897)) :
    Calls Tryz.prog 191 #[.int .i64 n] w fun e w' => e = .returned (.tuple #[.int .i64 0, .int .i64 0, .int .i64 0, .int .i64 2]) ∧ w = w' := by
  have hd : decide (0 ≤ n ∧ n < 2932897) = false := by simp only [h, decide_false]
  have c1 := Lib.hid (isDay_any n w h1 h2)
  rw [hd] at c1
  clear hd h
  go_enter Tryz.func191, Tryz.ntmps191
  go_wp2_with fail
  refine c1.out.mono ?_
  rintro e w' ⟨rfl, rfl⟩
  go_wp2_with fail
  (try simp only [Exit.inBlock, Exit.then])
  refine bodyPost_ret (results_four rfl _ _ _) rfl ?_
  exact ⟨rfl, rfl⟩
end Go.Proofs.YtoihekgmomjhpaaGreatDoor.V

/-
  Layer 5: what lies in the world (the tables, a spec's copy), and the program's minuteFrom.
-/
set_option linter.unusedVariables false
namespace Go.Proofs.YtoihekgmomjhpaaGreatDoor
open Go.RowKit Crn Nxt
/-- The tables that package next reads by way of civil and math/bits. -/
structure NTab (w : World) : Prop where
  civ : V.Tab w
  bru : Bru w
  size : max 2 0 < w.heap.size
theorem NTab.keep {B : Nat} {w w' : World} (t : NTab w) (h : Below B w w') (hB : max 2 0 < B) : NTab w' := by
  have h0 : 2 < B := by omega
  have h1 : 0 < B := by omega
  exact ⟨fun i hi => (h.cell (p := ⟨2, i, none⟩) h0).trans (t.civ i hi), fun i hi => (h.cell (p := ⟨0, i, none⟩) h1).trans (t.bru i hi), Nat.lt_of_lt_of_le t.size h.size⟩
theorem NTab.below {w w' : World} (t : NTab w) (h : Below w.heap.size w w') : NTab w' := t.keep h t.size
theorem NTab.alloc {w : World} (t : NTab w) (o : Obj) : NTab (w.alloc o) := t.below ((Below.refl _ _).alloc (Nat.le_refl _) o)
/-- The cells of a spec's copy. -/
structure Box (g : Nat) (wr : World) (x0 x1 x2 x3 x4 : Nat) (x5 x6 : Bool) (x7 : Int) : Prop where
  c0 : wr.cell? ⟨g, 0, none⟩ = some (.int .u64 x0)
  c1 : wr.cell? ⟨g, 1, none⟩ = some (.int .u64 x1)
  c2 : wr.cell? ⟨g, 2, none⟩ = some (.int .u64 x2)
  c3 : wr.cell? ⟨g, 3, none⟩ = some (.int .u64 x3)
  c4 : wr.cell? ⟨g, 4, none⟩ = some (.int .u64 x4)
  c5 : wr.cell? ⟨g, 5, none⟩ = some (.bool x5)
  c6 : wr.cell? ⟨g, 6, none⟩ = some (.bool x6)
  c7 : wr.cell? ⟨g, 7, none⟩ = some (.int .i64 x7)
theorem Box.step {g : Nat} {wr w' : World} {x0 x1 x2 x3 x4 : Nat} {x5 x6 : Bool} {x7 : Int} (h : Box g wr x0 x1 x2 x3 x4 x5 x6 x7) (k : Below wr.heap.size wr w') : Box g w' x0 x1 x2 x3 x4 x5 x6 x7 := by
  have h1 := World.block_lt_of_cell? wr _ h.c0
  exact ⟨(k.cell (p := ⟨g, 0, none⟩) h1).trans h.c0, (k.cell (p := ⟨g, 1, none⟩) h1).trans h.c1, (k.cell (p := ⟨g, 2, none⟩) h1).trans h.c2, (k.cell (p := ⟨g, 3, none⟩) h1).trans h.c3, (k.cell (p := ⟨g, 4, none⟩) h1).trans h.c4, (k.cell (p := ⟨g, 5, none⟩) h1).trans h.c5, (k.cell (p := ⟨g, 6, none⟩) h1).trans h.c6, (k.cell (p := ⟨g, 7, none⟩) h1).trans h.c7⟩
theorem Box.start (w : World) (x0 x1 x2 x3 x4 : Nat) (x5 x6 : Bool) (x7 : Int) : Box w.heap.size (w.alloc (.cells #[.int .u64 x0, .int .u64 x1, .int .u64 x2, .int .u64 x3, .int .u64 x4, .bool x5, .bool x6, .int .i64 x7] 157)) x0 x1 x2 x3 x4 x5 x6 x7 := by
  refine ⟨?_, ?_, ?_, ?_, ?_, ?_, ?_, ?_⟩
  all_goals (rw [World.cell?_alloc_new]; rfl)
theorem Box.all {g : Nat} {wr : World} {x0 x1 x2 x3 x4 : Nat} {x5 x6 : Bool} {x7 : Int} (h : Box g wr x0 x1 x2 x3 x4 x5 x6 x7) : wr.cell? ⟨g, 0, none⟩ = some (.int .u64 x0) ∧ wr.cell? ⟨g, 1, none⟩ = some (.int .u64 x1) ∧ wr.cell? ⟨g, 2, none⟩ = some (.int .u64 x2) ∧ wr.cell? ⟨g, 3, none⟩ = some (.int .u64 x3) ∧ wr.cell? ⟨g, 4, none⟩ = some (.int .u64 x4) ∧ wr.cell? ⟨g, 5, none⟩ = some (.bool x5) ∧ wr.cell? ⟨g, 6, none⟩ = some (.bool x6) ∧ wr.cell? ⟨g, 7, none⟩ = some (.int .i64 x7) :=
  ⟨h.c0, h.c1, h.c2, h.c3, h.c4, h.c5, h.c6, h.c7⟩
/-! The first minute of a day. -/
theorem answerF_none (d : Nat) : answerF none d = .returned (.tuple #[.int .i64 d, .bool false]) := rfl
theorem answerF_some (n d : Nat) : answerF (some n) d = .returned (.tuple #[.int .i64 n, .bool true]) := rfl
def FirstClock (x : SpecN) (a : Nat) : Option Nat → Prop
  | some i => a ≤ i ∧ Clock x i ∧ ∀ j, a ≤ j → j < i → ¬ Clock x j
  | none => ∀ j, a ≤ j → ¬ Clock x j
theorem set_small {f set n : Nat} (hf : f < 5) (h : okSet f set = true) (hb : set.testBit n = true) : low f ≤ n ∧ n ≤ top f := by
  obtain ⟨_, h1, h2⟩ := sub_bit hf (okSet_iff.1 h).2 hb
  exact ⟨h1, h2⟩
theorem right_min {x : SpecN} (h : right x = true) {n : Nat} (hb : x.min.testBit n = true) : n < 60 := by
  have := (set_small (f := 0) (by omega) (right_parts h).1 hb).2
  have e : top 0 = 59 := rfl
  omega
theorem right_hour {x : SpecN} (h : right x = true) {n : Nat} (hb : x.hour.testBit n = true) : n < 24 := by
  have := (set_small (f := 1) (by omega) (right_parts h).2.1 hb).2
  have e : top 1 = 23 := rfl
  omega
theorem minute_bits (x : SpecN) {a b : Nat} (ha : a < 64) (hb : b < 64) : minute x (a : Int) (b : Int) = (x.hour.testBit a && x.min.testBit b) := by
  unfold minute
  rw [has_bit ha, has_bit hb]
theorem clock_iff {x : SpecN} {i : Nat} : Clock x i ↔ i < 1440 ∧ x.hour.testBit (i / 60) = true ∧ x.min.testBit (i % 60) = true := by
  unfold Clock
  constructor
  · rintro ⟨h1, h2⟩
    rw [minute_bits x (by omega) (by omega)] at h2
    simp at h2
    exact ⟨h1, h2⟩
  · rintro ⟨h1, h2, h3⟩
    refine ⟨h1, ?_⟩
    rw [minute_bits x (by omega) (by omega), h2, h3]
    rfl
theorem min_some {x : SpecN} (h : right x = true) (hn : First x.min 0 none) : False := by
  obtain ⟨i, hi⟩ := some_clock h
  have := hn (i % 60) (Nat.zero_le _)
  rw [(clock_iff.1 hi).2.2] at this
  cases this
theorem fc_here {x : SpecN} (h : right x = true) {a m : Nat} (ha : a < 1440) (hm : First x.min (a % 60) (some m)) (hh : x.hour.testBit (a / 60) = true) : FirstClock x a (some (a / 60 * 60 + m)) := by
  obtain ⟨h1, _, h2, h3⟩ := hm
  have hm60 := right_min h h2
  refine ⟨by omega, clock_iff.2 ⟨by omega, ?_, ?_⟩, fun j j1 j2 hj => ?_⟩
  · rw [show (a / 60 * 60 + m) / 60 = a / 60 by omega]; exact hh
  · rw [show (a / 60 * 60 + m) % 60 = m by omega]; exact h2
  · obtain ⟨_, _, g⟩ := clock_iff.1 hj
    rw [h3 (j % 60) (by omega) (by omega)] at g
    cases g
/-- Nothing any more in the hour of a. -/
def Over (x : SpecN) (a : Nat) : Prop := First x.min (a % 60) none ∨ x.hour.testBit (a / 60) = false
theorem Over.no {x : SpecN} {a j : Nat} (h : Over x a) (h1 : a ≤ j) (h2 : j / 60 = a / 60) : ¬ Clock x j := by
  intro hj
  obtain ⟨_, g1, g2⟩ := clock_iff.1 hj
  rcases h with h | h
  · rw [h (j % 60) (by omega)] at g2
    cases g2
  · rw [h2, h] at g1
    cases g1
theorem fc_later {x : SpecN} (h : right x = true) {a p m : Nat} (ho : Over x a) (hp : First x.hour (a / 60 + 1) (some p)) (hm : First x.min 0 (some m)) : FirstClock x a (some (p * 60 + m)) := by
  obtain ⟨h1, _, h2, h3⟩ := hp
  obtain ⟨_, _, k2, k3⟩ := hm
  have hm60 := right_min h k2
  have hp24 := right_hour h h2
  refine ⟨by omega, clock_iff.2 ⟨by omega, ?_, ?_⟩, fun j j1 j2 hj => ?_⟩
  · rw [show (p * 60 + m) / 60 = p by omega]; exact h2
  · rw [show (p * 60 + m) % 60 = m by omega]; exact k2
  · obtain ⟨_, g1, g2⟩ := clock_iff.1 hj
    by_cases e : j / 60 = a / 60
    · exact ho.no j1 e hj
    · by_cases e2 : j / 60 = p
      · rw [k3 (j % 60) (Nat.zero_le _) (by omega)] at g2
        cases g2
      · rw [h3 (j / 60) (by omega) (by omega)] at g1
        cases g1
theorem fc_none {x : SpecN} {a : Nat} (ho : Over x a) (hp : First x.hour (a / 60 + 1) none) : FirstClock x a none := by
  intro j j1 hj
  by_cases e : j / 60 = a / 60
  · exact ho.no j1 e hj
  · obtain ⟨_, g1, _⟩ := clock_iff.1 hj
    rw [hp (j / 60) (by omega)] at g1
    cases g1
set_option maxRecDepth 100000 in
set_option maxHeartbeats 1000000 in
theorem minuteFrom_any (x : SpecN) (hx : Fits x) (hr : right x = true) (a : Nat) (ha : a < 1440) (w : World) (t : NTab w) :
    Calls Tryz.prog 163 #[specV x, .int .i64 a] w fun e w' => Found (FirstClock x a) 0 e ∧ Below w.heap.size w w' := by
  have Cn : Hid (∀ k W, k < 64 → NTab W → Calls Tryz.prog 189 #[.int .u64 x.min, .int .i64 (k : Nat)] W fun e w' => Found (First x.min k) 64 e ∧ W = w') := fun k W h1 h2 => numberFrom_any x.min k hx.min h1 W h2.bru
  have Ch : Hid (∀ k W, k < 64 → NTab W → Calls Tryz.prog 189 #[.int .u64 x.hour, .int .i64 (k : Nat)] W fun e w' => Found (First x.hour k) 64 e ∧ W = w') := fun k W h1 h2 => numberFrom_any x.hour k hx.hour h1 W h2.bru
  have Cm : Hid (∀ (h m : Nat) W, h < 64 → m < 64 → Calls Tryz.prog 190 #[specV x, .int .i64 h, .int .i64 m] W fun e w' => e = .returned (.bool (x.hour.testBit h && x.min.testBit m)) ∧ Below W.heap.size W w') := fun h m W h1 h2 => by
    rw [← minute_bits x h1 h2]
    exact cMinute_any x hx h m W (by omega) (by omega) (by omega) (by omega)
  have F1 : Hid (∀ m, First x.min (a % 60) (some m) → x.hour.testBit (a / 60) = true → FirstClock x a (some (a / 60 * 60 + m))) := fun m h1 h2 => fc_here hr ha h1 h2
  have F2 : Hid (∀ p m, Over x a → First x.hour (a / 60 + 1) (some p) → First x.min 0 (some m) → FirstClock x a (some (p * 60 + m))) := fun p m h1 h2 h3 => fc_later hr h1 h2 h3
  have F3 : Hid (Over x a → First x.hour (a / 60 + 1) none → FirstClock x a none) := fun h1 h2 => fc_none h1 h2
  have F4 : Hid (First x.min 0 none → False) := fun h => min_some hr h
  have O1 : Hid (First x.min (a % 60) none → Over x a) := fun h => Or.inl h
  have O2 : Hid (x.hour.testBit (a / 60) = false → Over x a) := fun h => Or.inr h
  generalize FirstClock x a = FC at *
  generalize Over x a = OV at *
  generalize x.hour.testBit = hb at *
  obtain ⟨x0, x1, x2, x3, x4, x5, x6, x7⟩ := x
  simp only [specV, cellsN] at *
  clear hr hx
  have t1 := Lib.hid (t.alloc (.cells #[.int .u64 x0, .int .u64 x1, .int .u64 x2, .int .u64 x3, .int .u64 x4, .bool x5, .bool x6, .int .i64 x7] 157))
  have B1 := Lib.hid (Box.start w x0 x1 x2 x3 x4 x5 x6 x7)
  have b1 := Lib.hid ((Below.refl w.heap.size w).alloc (Nat.le_refl _) (.cells #[.int .u64 x0, .int .u64 x1, .int .u64 x2, .int .u64 x3, .int .u64 x4, .bool x5, .bool x6, .int .i64 x7] 157))
  clear t
  have a1 : a / 60 < 24 := by omega
  have a2 : a % 60 < 60 := by omega
  have e1 : ((a / 60 : Nat) : Int) = (a : Int) / 60 := by omega
  have e2 : ((a % 60 : Nat) : Int) = (a : Int) % 60 := by omega
  have c1 := Lib.hid (Cn.out (a % 60) _ (by omega) t1.out)
  rw [e2] at c1
  go_enter Tryz.func163, Tryz.ntmps163
  clear e1 e2
  go_wp2_with fail
  refine c1.out.mono ?_
  rintro e w' ⟨⟨r, hr1, rfl⟩, rfl⟩
  replace hr1 := Lib.hid hr1
  cases r with
  | none =>
    rw [answerF_none]
    have ov := Lib.hid (O1.out hr1.out)
    clear hr1 c1
    have c2 := Lib.hid (Ch.out (a / 60 + 1) _ (by omega) t1.out)
    rw [show ((a / 60 + 1 : Nat) : Int) = (a : Int) / 60 + 1 by omega] at c2
    go_wp2_with fail
    refine c2.out.mono ?_
    rintro e w' ⟨⟨r, hr2, rfl⟩, rfl⟩
    replace hr2 := Lib.hid hr2
    cases r with
    | none =>
      rw [answerF_none]
      go_wp2_with fail
      go_ret2
      exact ⟨⟨_, F3.out ov.out hr2.out, rfl⟩, b1.out⟩
    | some p =>
      rw [answerF_some]
      have hp64 : p < 64 := hr2.out.2.1
      have c3 := Lib.hid (Cn.out 0 _ (by omega) t1.out)
      go_wp2_with fail
      refine c3.out.mono ?_
      rintro e w' ⟨⟨r, hr3, rfl⟩, rfl⟩
      replace hr3 := Lib.hid hr3
      cases r with
      | none => exact absurd hr3.out (fun h => F4.out h)
      | some m =>
        rw [answerF_some]
        have hm64 : m < 64 := hr3.out.2.1
        go_wp2_with fail
        go_ret2
        exact ⟨⟨_, F2.out p m ov.out hr2.out hr3.out, by rw [answerF_some]; go_num⟩, b1.out⟩
  | some m1 =>
    rw [answerF_some]
    have hm1 : m1 < 64 := hr1.out.2.1
    have hmb : Hid (x0.testBit m1 = true) := hr1.out.2.2.1
    have c2 := Lib.hid (Cm.out (a / 60) m1 (w.alloc (.cells #[.int .u64 x0, .int .u64 x1, .int .u64 x2, .int .u64 x3, .int .u64 x4, .bool x5, .bool x6, .int .i64 x7] 157)) (by omega) hm1)
    rw [show ((a / 60 : Nat) : Int) = (a : Int) / 60 by omega, hmb.out, Bool.and_true] at c2
    go_wp2_with fail
    refine c2.out.mono ?_
    rintro e w1 ⟨rfl, k1⟩
    have t2 := Lib.hid (t1.out.below k1)
    have B2 := Lib.hid (B1.out.step k1)
    have b2 := Lib.hid (b1.out.trans (k1.mono b1.out.size))
    clear k1 c1 c2 hmb
    cases hq : hb (a / 60) with
    | true =>
      have fin := Lib.hid (F1.out m1 hr1.out hq)
      clear hq
      go_wp2_with fail
      go_ret2
      exact ⟨⟨_, fin.out, by rw [answerF_some]; go_num⟩, b2.out⟩
    | false =>
      have ov := Lib.hid (O2.out hq)
      clear hq hr1 t1 B1 b1
      have q0 := B2.out.c0
      have q1 := B2.out.c1
      have c2 := Lib.hid (Ch.out (a / 60 + 1) w1 (by omega) t2.out)
      rw [show ((a / 60 + 1 : Nat) : Int) = (a : Int) / 60 + 1 by omega] at c2
      go_wp2_with fail
      refine c2.out.mono ?_
      rintro e w' ⟨⟨r, hr2, rfl⟩, rfl⟩
      replace hr2 := Lib.hid hr2
      cases r with
      | none =>
        rw [answerF_none]
        go_wp2_with fail
        go_ret2
        exact ⟨⟨_, F3.out ov.out hr2.out, rfl⟩, b2.out⟩
      | some p =>
        rw [answerF_some]
        have hp64 : p < 64 := hr2.out.2.1
        have c3 := Lib.hid (Cn.out 0 w1 (by omega) t2.out)
        go_wp2_with fail
        refine c3.out.mono ?_
        rintro e w' ⟨⟨r, hr3, rfl⟩, rfl⟩
        replace hr3 := Lib.hid hr3
        cases r with
        | none => exact absurd hr3.out (fun h => F4.out h)
        | some m =>
          rw [answerF_some]
          have hm64 : m < 64 := hr3.out.2.1
          go_wp2_with fail
          go_ret2
          exact ⟨⟨_, F2.out p m ov.out hr2.out hr3.out, by rw [answerF_some]; go_num⟩, b2.out⟩
end Go.Proofs.YtoihekgmomjhpaaGreatDoor

/-
  Layer 5: a cache's reading: what is parsed once (sync.Once in one goroutine), strings.Clone, cron.Parse of texts of any length.
-/
set_option linter.unusedVariables false
namespace Go.Proofs.YtoihekgmomjhpaaGreatDoor
open Go.RowKit Crn
theorem clone_any (s : ByteArray) (w : World) (hs : s.size ≤ 281474976710656) : Calls Tryz.prog 29 #[.string s] w fun e w' => e = .returned (.string s) ∧ Below w.heap.size w w' := by
  go_enter Tryz.func29, Tryz.ntmps29
  go_wp2_with fail
  refine (Tryz.stringslite_Clone s w hs).mono ?_
  rintro e w' ⟨rfl, k⟩
  replace k := Lib.hid k
  go_wp2_with fail
  go_ret
  exact ⟨rfl, k.out⟩
set_option maxRecDepth 100000 in
set_option maxHeartbeats 400000 in
theorem cParse_far (s : ByteArray) (w : World) (hs : 256 < (s.size : Int)) (hm : (s.size : Int) ≤ 281474976710656) :
    Calls Tryz.prog 89 #[.string s] w fun e w' => e = answerE none ∧ Below w.heap.size w w' := by
  go_enter Tryz.func89, Tryz.ntmps89
  go_wp2_with fail
  refine bodyPost_ret (v := .tuple #[specV zero, .int .i64 7]) ?_ rfl ?_
  · rw [results_cell_tmp rfl]
    go_simp
    rfl
  · exact ⟨rfl, (Below.refl _ _).alloc (Nat.le_refl _) _⟩
theorem parse_far {s : ByteArray} (h : 256 < s.size) : parse s.data.toList = none := by
  unfold parse
  exact if_pos (by simpa using h)
theorem cParse_all (s : ByteArray) (w : World) (tb : Tab w) (hm : s.size ≤ 281474976710656) :
    Calls Tryz.prog 89 #[.string s] w fun e w' => e = answerE (parse s.data.toList) ∧ Below w.heap.size w w' := by
  by_cases h : 256 < s.size
  · rw [parse_far h]
    exact cParse_far s w (by omega) (by omega)
  · exact cParse_any s w tb (by omega)
/-- Of what was there only these blocks may have turned. -/
structure Kl (L : List Nat) (w w' : World) : Prop where
  os : w'.os = w.os
  tape : w'.tape = w.tape
  output : w'.output = w.output
  size : w.heap.size ≤ w'.heap.size
  block : ∀ k, k < w.heap.size → k ∉ L → w'.heap[k]? = w.heap[k]?
theorem Kl.refl (L : List Nat) (w : World) : Kl L w w := ⟨rfl, rfl, rfl, Nat.le_refl _, fun _ _ _ => rfl⟩
theorem Kl.trans {L : List Nat} {x y z : World} (h : Kl L x y) (k : Kl L y z) : Kl L x z :=
  ⟨k.os.trans h.os, k.tape.trans h.tape, k.output.trans h.output, Nat.le_trans h.size k.size, fun i hi hb => (k.block i (Nat.lt_of_lt_of_le hi h.size) hb).trans (h.block i hi hb)⟩
theorem Kl.mono {L M : List Nat} {x y : World} (h : Kl L x y) (hs : ∀ k, k ∈ L → k ∈ M ∨ x.heap.size ≤ k) : Kl M x y :=
  ⟨h.os, h.tape, h.output, h.size, fun i hi hb => h.block i hi fun e => by rcases hs i e with g | g; exact hb g; omega⟩
theorem Kl.drew {L : List Nat} {x w : World} (h : Kl L x w) : Kl L x w.drew := ⟨h.os, h.tape, h.output, h.size, h.block⟩
theorem Kl.setCell {L : List Nat} {b : Nat} {x w : World} (h : Kl L x w) (hb : b ∈ L) (o : Nat) (u : Value) : Kl L x (w.setCell ⟨b, o, none⟩ u) :=
  h.trans ⟨rfl, rfl, rfl, by simp [World.setCell], fun k _ hk => Below.heap_setCell _ _ _ _ (fun e => hk (by rw [e]; exact hb))⟩
theorem Kl.ofBelow {L : List Nat} {w w' : World} (h : Below w.heap.size w w') : Kl L w w' := ⟨h.os, h.tape, h.output, h.size, fun k hk _ => h.block k hk⟩
theorem Kl.below {L : List Nat} {B : Nat} {w w' : World} (h : Kl L w w') (hb : ∀ k, k ∈ L → B ≤ k) (hB : B ≤ w.heap.size) : Below B w w' :=
  ⟨h.os, h.tape, h.output, h.size, fun k hk => h.block k (by omega) fun e => by have := hb k e; omega⟩
def caCells (a p : Nat) (m : Option Nat) : Array Value := #[.int .i64 a, .int .i64 p, .int .i32 0, .int .u32 0, .map m]
def caHeld (a p : Nat) (m : Option Nat) : Array Value := #[.int .i64 a, .int .i64 p, .int .i32 1, .int .u32 0, .map m]
def rdCells (d st : Int) (x : SpecN) (er : Int) : Array Value := #[.int .u32 d, .int .i32 st, .int .u32 0, .int .u64 x.min, .int .u64 x.hour, .int .u64 x.dom, .int .u64 x.mon, .int .u64 x.dow, .bool x.anyDom, .bool x.anyDow, .int .i64 x.ahead, .int .i64 er]
def spOf (s : ByteArray) : SpecN := (parse s.data.toList).getD zero
def erOf (s : ByteArray) : Int := errOf (parse s.data.toList)
/-- A block by its cells. -/
theorem cell_in {w : World} {b : Nat} {cs : Array Value} {t : TypeId} (h : w.heap[b]? = some (.cells cs t)) (i : Nat) : w.cell? ⟨b, i, none⟩ = cs[i]? := cell_of_row w b i cs t (0, 0) h
theorem free_in {w : World} {b : Nat} {cs : Array Value} {t : TypeId} (h : w.heap[b]? = some (.cells cs t)) (i : Nat) : w.frozen? ⟨b, i, none⟩ = false := frozen_of_row w b i cs t h
theorem lt_in {w : World} {b : Nat} {o : Obj} (h : w.heap[b]? = some o) : b < w.heap.size := (Array.getElem?_eq_some_iff.1 h).1
/-- The nine cells of a reading, written one behind the other. -/
def nineW (w : World) (rb x0 x1 x2 x3 x4 : Nat) (x5 x6 : Bool) (x7 er : Int) : World :=
  ((((((((w.setCell ⟨rb, 3, none⟩ (.int .u64 x0)).setCell ⟨rb, 4, none⟩ (.int .u64 x1)).setCell ⟨rb, 5, none⟩ (.int .u64 x2)).setCell ⟨rb, 6, none⟩ (.int .u64 x3)).setCell ⟨rb, 7, none⟩ (.int .u64 x4)).setCell ⟨rb, 8, none⟩ (.bool x5)).setCell ⟨rb, 9, none⟩ (.bool x6)).setCell ⟨rb, 10, none⟩ (.int .i64 x7)).setCell ⟨rb, 11, none⟩ (.int .i64 er)
theorem nine_block {w : World} {rb : Nat} (h : w.heap[rb]? = some (.cells (rdCells 0 1 zero 0) 175)) (x0 x1 x2 x3 x4 : Nat) (x5 x6 : Bool) (x7 er : Int) :
    (nineW w rb x0 x1 x2 x3 x4 x5 x6 x7 er).heap[rb]? = some (.cells (rdCells 0 1 ⟨x0, x1, x2, x3, x4, x5, x6, x7⟩ er) 175) := by
  have h3 := heap_setCell_same _ rb 3 _ _ (.int .u64 x0) h
  have h4 := heap_setCell_same _ rb 4 _ _ (.int .u64 x1) h3
  have h5 := heap_setCell_same _ rb 5 _ _ (.int .u64 x2) h4
  have h6 := heap_setCell_same _ rb 6 _ _ (.int .u64 x3) h5
  have h7 := heap_setCell_same _ rb 7 _ _ (.int .u64 x4) h6
  have h8 := heap_setCell_same _ rb 8 _ _ (.bool x5) h7
  have h9 := heap_setCell_same _ rb 9 _ _ (.bool x6) h8
  have h10 := heap_setCell_same _ rb 10 _ _ (.int .i64 x7) h9
  have h11 := heap_setCell_same _ rb 11 _ _ (.int .i64 er) h10
  unfold nineW
  rw [h11]
  simp [rdCells]
theorem nine_kept {w0 w : World} {rb : Nat} (h : Below w0.heap.size w0 w) (x0 x1 x2 x3 x4 : Nat) (x5 x6 : Bool) (x7 er : Int) : Kl [rb] w0 (nineW w rb x0 x1 x2 x3 x4 x5 x6 x7 er) := by
  unfold nineW
  exact (((((((((Kl.ofBelow h).setCell (by simp) 3 _).setCell (by simp) 4 _).setCell (by simp) 5 _).setCell (by simp) 6 _).setCell (by simp) 7 _).setCell (by simp) 8 _).setCell (by simp) 9 _).setCell (by simp) 10 _).setCell (by simp) 11 _
set_option maxRecDepth 100000 in
set_option maxHeartbeats 3000000 in
theorem fill_any (t r c rb b : Nat) (s : ByteArray) (a p : Nat) (m : Option Nat) (w : World) (tb : Tab w) (hs : s.size ≤ 281474976710656) (hp : p ≤ 1000000)
    (ht : w.cell? ⟨t, 0, none⟩ = some (.string s)) (hr : w.cell? ⟨r, 0, none⟩ = some (.pointer (some ⟨rb, 0, none⟩))) (hc : w.cell? ⟨c, 0, none⟩ = some (.pointer (some ⟨b, 0, none⟩)))
    (n1 : r ≠ rb) (n2 : c ≠ rb) (n3 : b ≠ rb)
    (hrb : w.heap[rb]? = some (.cells (rdCells 0 1 zero 0) 175)) (hb : w.heap[b]? = some (.cells (caCells a p m) 146)) :
    Calls Tryz.prog 88 #[.pointer (some ⟨t, 0, none⟩), .pointer (some ⟨r, 0, none⟩), .pointer (some ⟨c, 0, none⟩)] w fun e w' => e = .returned (.tuple #[]) ∧ w'.heap[rb]? = some (.cells (rdCells 0 1 (spOf s) (erOf s)) 175) ∧ w'.heap[b]? = some (.cells (caCells a (p + 1) m) 146) ∧ Kl [rb, b] w w' := by
  have cp := Lib.hid (fun W t => cParse_all s W t hs)
  have cp' : Hid (∀ W, Tab W → Calls Tryz.prog 89 #[.string s] W fun e w' => e = .returned (.tuple #[specV (spOf s), .int .i64 (erOf s)]) ∧ Below W.heap.size W w') := cp
  clear cp
  generalize erOf s = er at *
  generalize spOf s = x at *
  obtain ⟨x0, x1, x2, x3, x4, x5, x6, x7⟩ := x
  simp only [specV, cellsN] at *
  go_enter Tryz.func88, Tryz.ntmps88
  have tb1 : Hid (Tab w.drew) := tb.below (Below.refl _ _).drew
  have hrl := World.block_lt_of_cell? w _ hr
  have hcl := World.block_lt_of_cell? w _ hc
  have hbl := lt_in hb
  have hrbl := lt_in hrb
  replace hb := Lib.hid hb
  replace hrb := Lib.hid hrb
  have hc' := Lib.hid hc
  clear hc
  clear tb
  go_upto_region 0 with fail
  go_cut [] (fun wc => Hid (wc.heap[rb]? = some (.cells (rdCells 0 1 ⟨x0, x1, x2, x3, x4, x5, x6, x7⟩ er) 175)) ∧ Hid (Kl [rb] w wc))
  case first =>
    go_region_with ((go_at_call 89; (with_reducible refine (cp'.out _ tb1.out).mono ?_); rintro e w6 ⟨rfl, k6⟩; have kk : Hid (Below w.heap.size w w6) := (Below.refl _ _).drew.trans k6; clear k6; have r6 : w6.cell? ⟨r, 0, none⟩ = some (.pointer (some ⟨rb, 0, none⟩)) := (kk.out.cell (p := ⟨r, 0, none⟩) hrl).trans hr; have hb6 : Hid (w6.heap[rb]? = some (.cells (rdCells 0 1 zero 0) 175)) := (kk.out.block rb hrbl).trans hrb.out; have g3 : w6.cell? ⟨rb, 3, none⟩ = some (.int .u64 0) := cell_in hb6.out 3; have g4 : w6.cell? ⟨rb, 4, none⟩ = some (.int .u64 0) := cell_in hb6.out 4; have g5 : w6.cell? ⟨rb, 5, none⟩ = some (.int .u64 0) := cell_in hb6.out 5; have g6 : w6.cell? ⟨rb, 6, none⟩ = some (.int .u64 0) := cell_in hb6.out 6; have g7 : w6.cell? ⟨rb, 7, none⟩ = some (.int .u64 0) := cell_in hb6.out 7; have g8 : w6.cell? ⟨rb, 8, none⟩ = some (.bool false) := cell_in hb6.out 8; have g9 : w6.cell? ⟨rb, 9, none⟩ = some (.bool false) := cell_in hb6.out 9; have g10 : w6.cell? ⟨rb, 10, none⟩ = some (.int .i64 0) := cell_in hb6.out 10; have g11 : w6.cell? ⟨rb, 11, none⟩ = some (.int .i64 0) := cell_in hb6.out 11; have f3 := free_in hb6.out 3; have f4 := free_in hb6.out 4; have f5 := free_in hb6.out 5; have f6 := free_in hb6.out 6; have f7 := free_in hb6.out 7; have f8 := free_in hb6.out 8; have f9 := free_in hb6.out 9; have f10 := free_in hb6.out 10; have f11 := free_in hb6.out 11))
    all_goals
      go_wp2_with fail
      go_meet
      (first | (with_reducible exact ⟨nine_block hb6.out x0 x1 x2 x3 x4 x5 x6 x7 er, nine_kept kk.out x0 x1 x2 x3 x4 x5 x6 x7 er⟩) | (show Hid ((nineW w6 rb x0 x1 x2 x3 x4 x5 x6 x7 er).heap[rb]? = _) ∧ Hid (Kl [rb] w (nineW w6 rb x0 x1 x2 x3 x4 x5 x6 x7 er)); exact ⟨nine_block hb6.out x0 x1 x2 x3 x4 x5 x6 x7 er, nine_kept kk.out x0 x1 x2 x3 x4 x5 x6 x7 er⟩))
  case rest =>
    obtain ⟨hz, kz⟩ := hcut
    have c7 : wc.cell? ⟨c, 0, none⟩ = some (.pointer (some ⟨b, 0, none⟩)) := (World.cell?_of_block (w := w) (kz.out.block c hcl (by simpa using n2))).trans hc'.out
    have hb7 : Hid (wc.heap[b]? = some (.cells (caCells a p m) 146)) := (kz.out.block b hbl (by simpa using n3)).trans hb.out
    have p7 : wc.cell? ⟨b, 1, none⟩ = some (.int .i64 (p : Nat)) := cell_in hb7.out 1
    have f7 := free_in hb7.out 1
    have ca := Lib.hid (int64Add ⟨b, 1, none⟩ p wc hp p7 f7)
    clear hr ht n1 n2 cp' tb1 hrb hc'
    go_wp2_with fail
    refine ca.out.mono ?_
    rintro e w9 ⟨rfl, rfl⟩
    go_wp2_with fail
    go_end0
    refine ⟨rfl, (heap_setCell_other _ _ _ _ (by show rb ≠ b; exact fun e => n3 e.symm)).trans hz.out, (heap_setCell_same _ b 1 _ _ _ hb7.out), ?_⟩
    exact (kz.out.mono (fun k hk => Or.inl (by simp at hk; simp [hk]))).setCell (by simp) 1 _
end Go.Proofs.YtoihekgmomjhpaaGreatDoor

/-
  Layer 5: (*sync.Once).Do over a cache's reading: not yet done: the text is parsed, and counted; done already: nothing turns.
-/
set_option linter.unusedVariables false
namespace Go.Proofs.YtoihekgmomjhpaaGreatDoor
open Go.RowKit Crn
/-- The last block of the tables that are read. -/
def topTab : Nat := max (max 1 3) (max 2 0)
theorem Tab.kl {L : List Nat} {w w' : World} (t : Tab w) (h : Kl L w w') (hL : ∀ k, k ∈ L → topTab < k) : Tab w' := by
  have hs := t.size
  have hb : ∀ k, k ≤ max 1 3 → w'.heap[k]? = w.heap[k]? := fun k hk => h.block k (by omega) fun e => by
    have := hL k e
    unfold topTab at this
    omega
  refine ⟨fun f hf => ?_, ?_, Nat.lt_of_lt_of_le hs h.size⟩
  · obtain ⟨a, b⟩ := t.spans f hf
    exact ⟨(World.cell?_of_block (w := w) (hb 1 (by omega))).trans a, (World.cell?_of_block (w := w) (hb 1 (by omega))).trans b⟩
  · obtain ⟨m, hm⟩ := t.most
    exact ⟨m, (World.cell?_of_block (w := w) (hb 3 (by omega))).trans hm⟩
theorem NTab.kl {L : List Nat} {w w' : World} (t : NTab w) (h : Kl L w w') (hL : ∀ k, k ∈ L → topTab < k) : NTab w' := by
  have hs := t.size
  have hb : ∀ k, k ≤ max 2 0 → w'.heap[k]? = w.heap[k]? := fun k hk => h.block k (by omega) fun e => by
    have := hL k e
    unfold topTab at this
    omega
  exact ⟨fun i hi => (World.cell?_of_block (w := w) (hb 2 (by omega))).trans (t.civ i hi), fun i hi => (World.cell?_of_block (w := w) (hb 0 (by omega))).trans (t.bru i hi), Nat.lt_of_lt_of_le hs h.size⟩
theorem Kl.cell {L : List Nat} {w w' : World} (h : Kl L w w') {k o : Nat} (hk : k ∉ L) {v : Value} (hc : w.cell? ⟨k, o, none⟩ = some v) : w'.cell? ⟨k, o, none⟩ = some v :=
  (World.cell?_of_block (w := w) (h.block k (World.block_lt_of_cell? w _ hc) hk)).trans hc
set_option maxRecDepth 100000 in
set_option maxHeartbeats 1600000 in
theorem slow_any (t r c rb b : Nat) (s : ByteArray) (a p : Nat) (m : Option Nat) (w : World) (tb : Tab w) (hs : s.size ≤ 281474976710656) (hp : p ≤ 1000000)
    (ht : w.cell? ⟨t, 0, none⟩ = some (.string s)) (hr : w.cell? ⟨r, 0, none⟩ = some (.pointer (some ⟨rb, 0, none⟩))) (hc : w.cell? ⟨c, 0, none⟩ = some (.pointer (some ⟨b, 0, none⟩)))
    (n0 : t ≠ rb) (n1 : r ≠ rb) (n2 : c ≠ rb) (n3 : b ≠ rb) (hi : topTab < rb)
    (hrb : w.heap[rb]? = some (.cells (rdCells 0 0 zero 0) 175)) (hb : w.heap[b]? = some (.cells (caCells a p m) 146)) :
    Calls Tryz.prog 119 #[.pointer (some ⟨rb, 0, none⟩), .func (.func 88) #[] #[.pointer (some ⟨t, 0, none⟩), .pointer (some ⟨r, 0, none⟩), .pointer (some ⟨c, 0, none⟩)]] w fun e w' => e = .returned (.tuple #[]) ∧ w'.heap[rb]? = some (.cells (rdCells 1 0 (spOf s) (erOf s)) 175) ∧ w'.heap[b]? = some (.cells (caCells a (p + 1) m) 146) ∧ Kl [rb, b] w w' := by
  have k1 : Kl [rb] w (w.setCell ⟨rb, 1, none⟩ (.int .i32 1)) := (Kl.refl _ _).setCell (by simp) 1 _
  have h1 : (w.setCell ⟨rb, 1, none⟩ (.int .i32 1)).heap[rb]? = some (.cells (rdCells 0 1 zero 0) 175) := heap_setCell_same _ rb 1 _ _ _ hrb
  have hb1 : (w.setCell ⟨rb, 1, none⟩ (.int .i32 1)).heap[b]? = some (.cells (caCells a p m) 146) := (k1.block b (lt_in hb) (by simpa using n3)).trans hb
  have cf := Lib.hid (fill_any t r c rb b s a p m _ (tb.kl k1 (by simpa using hi)) hs hp (k1.cell (by simpa using n0) ht) (k1.cell (by simpa using n1) hr) (k1.cell (by simpa using n2) hc) n1 n2 n3 h1 hb1)
  have hz1 := free_in hrb 1
  have hc1 : w.cell? ⟨rb, 1, none⟩ = some (.int .i32 0) := cell_in hrb 1
  have c0 : (w.setCell ⟨rb, 1, none⟩ (.int .i32 1)).cell? ⟨rb, 0, none⟩ = some (.int .u32 0) := cell_in h1 0
  have cb := Lib.hid (boolLoad ⟨rb, 0, none⟩ 0 _ c0)
  have hnot := not_run
  replace hb := Lib.hid hb
  replace hrb := Lib.hid hrb
  replace k1 := Lib.hid k1
  have n3' := Lib.hid n3
  clear h1 hb1 c0 ht hr hc n0 n1 n2 n3 tb
  go_enter_defers Tryz.func119, Tryz.ntmps119
  go_wp2_with (go_at_call 116; refine (lock_free ⟨rb, 1, none⟩ _ hc1 hz1).mono ?_; rintro e w' ⟨rfl, rfl⟩)
  refine cb.out.mono ?_
  rintro e w' ⟨rfl, rfl⟩
  go_wp2_with fail
  refine cf.out.mono ?_
  rintro e w2 ⟨rfl, h2, hb2, k2⟩
  go_wp2
  refine leaves_cons (f := 156) (args := #[.pointer (some ⟨rb, 0, none⟩), .bool true]) (by simp) (by simp [go_sem]) ?_
  refine (store_deferred ⟨rb, 0, none⟩ (.int .u32 0) .returning _ (cell_in h2 0) (free_in h2 0)).mono ?_
  rintro e u' w'' ⟨rfl, rfl, rfl⟩
  have h2' : w2.drew.heap[rb]? = some (.cells (rdCells 0 1 (spOf s) (erOf s)) 175) := h2
  have h3 := heap_setCell_same w2.drew rb 0 _ _ (.int .u32 1) h2'
  refine leaves_cons (f := 117) (args := #[.pointer (some ⟨rb, 1, none⟩)]) (by simp [settle]) (by simp [go_sem]) ?_
  refine (unlock_deferred ⟨rb, 1, none⟩ _ _ (cell_in h3 1) (free_in h3 1)).mono ?_
  rintro e u' w'' ⟨rfl, rfl, rfl⟩
  have h4 := heap_setCell_same _ rb 1 _ _ (.int .i32 0) h3
  have k4 : Kl [rb, b] w (((w2.drew).setCell ⟨rb, 0, none⟩ (.int .u32 1)).setCell ⟨rb, 1, none⟩ (.int .i32 0)) := ((((k1.out.mono (fun k hk => Or.inl (by simp at hk; simp [hk]))).trans k2).drew).setCell (by simp) 0 _).setCell (by simp) 1 _
  have hb4 : (((w2.drew).setCell ⟨rb, 0, none⟩ (.int .u32 1)).setCell ⟨rb, 1, none⟩ (.int .i32 0)).heap[b]? = some (.cells (caCells a (p + 1) m) 146) := (heap_setCell_other _ _ _ _ n3'.out).trans ((heap_setCell_other _ _ _ _ n3'.out).trans hb2)
  simp only [Leaves, settle, results, Tryz.results119]
  simp
  exact ⟨h4, hb4, k4⟩
set_option maxRecDepth 100000 in
theorem do_first (t r c rb b : Nat) (s : ByteArray) (a p : Nat) (m : Option Nat) (w : World) (tb : Tab w) (hs : s.size ≤ 281474976710656) (hp : p ≤ 1000000)
    (ht : w.cell? ⟨t, 0, none⟩ = some (.string s)) (hr : w.cell? ⟨r, 0, none⟩ = some (.pointer (some ⟨rb, 0, none⟩))) (hc : w.cell? ⟨c, 0, none⟩ = some (.pointer (some ⟨b, 0, none⟩)))
    (n0 : t ≠ rb) (n1 : r ≠ rb) (n2 : c ≠ rb) (n3 : b ≠ rb) (hi : topTab < rb)
    (hrb : w.heap[rb]? = some (.cells (rdCells 0 0 zero 0) 175)) (hb : w.heap[b]? = some (.cells (caCells a p m) 146)) :
    Calls Tryz.prog 87 #[.pointer (some ⟨rb, 0, none⟩), .func (.func 88) #[] #[.pointer (some ⟨t, 0, none⟩), .pointer (some ⟨r, 0, none⟩), .pointer (some ⟨c, 0, none⟩)]] w fun e w' => e = .returned (.tuple #[]) ∧ w'.heap[rb]? = some (.cells (rdCells 1 0 (spOf s) (erOf s)) 175) ∧ w'.heap[b]? = some (.cells (caCells a (p + 1) m) 146) ∧ Kl [rb, b] w w' := by
  have cs := Lib.hid (slow_any t r c rb b s a p m w tb hs hp ht hr hc n0 n1 n2 n3 hi hrb hb)
  have hnot := not_run
  have c0 : w.cell? ⟨rb, 0, none⟩ = some (.int .u32 0) := cell_in hrb 0
  have cb := Lib.hid (boolLoad ⟨rb, 0, none⟩ 0 _ c0)
  clear tb ht hr hc n0 n1 n2 n3 hi hrb hb c0
  go_enter Tryz.func87, Tryz.ntmps87
  go_wp2_with fail
  refine cb.out.mono ?_
  rintro e w' ⟨rfl, rfl⟩
  go_wp2_with fail
  refine cs.out.mono ?_
  rintro e w' ⟨rfl, h1, h2, h3⟩
  replace h1 := Lib.hid h1
  replace h2 := Lib.hid h2
  replace h3 := Lib.hid h3
  go_wp2
  go_end0
  exact ⟨rfl, h1.out, h2.out, h3.out⟩
theorem do_done (rb : Nat) (fv : Value) (x : SpecN) (er : Int) (w : World) (hrb : w.heap[rb]? = some (.cells (rdCells 1 0 x er) 175)) :
    Calls Tryz.prog 87 #[.pointer (some ⟨rb, 0, none⟩), fv] w fun e w' => e = .returned (.tuple #[]) ∧ w = w' := by
  have hnot := not_run
  have c0 : w.cell? ⟨rb, 0, none⟩ = some (.int .u32 1) := cell_in hrb 0
  have cb := Lib.hid (boolLoad ⟨rb, 0, none⟩ 1 _ c0)
  clear hrb c0
  go_enter Tryz.func87, Tryz.ntmps87
  go_wp2_with fail
  refine cb.out.mono ?_
  rintro e w' ⟨rfl, rfl⟩
  go_wp2
  go_end0
  exact ⟨rfl, rfl⟩
end Go.Proofs.YtoihekgmomjhpaaGreatDoor
