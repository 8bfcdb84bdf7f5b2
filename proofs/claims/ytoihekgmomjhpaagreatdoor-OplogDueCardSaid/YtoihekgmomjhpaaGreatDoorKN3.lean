/-
  Texts laid into one (a claim has 60 files at most): NNext.
-/
import Derived.Test.YtoihekgmomjhpaaGreatDoorKN2
import Derived.Test.YtoihekgmomjhpaaGreatDoorKC6
import Derived.Lib.MinMax
import Derived.Deep.RegionHeld3
/-
  Layer 5: the program's isOn and dayOfMonth.
  Layer 5: the program's dayFrom and ownFrom.
  Layer 5: the program's Next and Is.
-/
set_option linter.unusedVariables false
namespace Go.Proofs.YtoihekgmomjhpaaGreatDoor
open Go.RowKit Crn Nxt Civ
noncomputable def onB (x : SpecN) (n : Nat) : Bool := @decide (On x n) (Classical.propDecidable _)
theorem onB_true {x : SpecN} {n : Nat} : onB x n = true ↔ On x n := by unfold onB; exact @decide_eq_true_iff _ (Classical.propDecidable _)
theorem onB_false {x : SpecN} {n : Nat} : onB x n = false ↔ ¬ On x n := by unfold onB; exact @decide_eq_false_iff_not _ (Classical.propDecidable _)
theorem on_day {x : SpecN} {n y m d : Nat} (h : Day n y m d) : onB x n = day x (m : Int) (d : Int) ((n + 4) % 7 : Nat) := by
  rw [Bool.eq_iff_iff, onB_true]
  constructor
  · rintro ⟨y', m', d', h', ho⟩
    obtain ⟨rfl, rfl, rfl⟩ := h.same h' rfl
    exact ho
  · intro ho
    exact ⟨y, m, d, h, ho⟩
theorem on_late {x : SpecN} {n : Nat} (h : ¬ n < 2932897) : onB x n = false := onB_false.2 fun ho => h ho.lt
theorem weekday_in {n : Nat} (h : n < 2932897) : V.weekday n = ((((n + 4) % 7 : Nat) : Int), 0) := by
  unfold V.weekday
  rw [if_pos (by omega)]
  simp
set_option maxRecDepth 100000 in
set_option maxHeartbeats 1000000 in
theorem isOn_any (x : SpecN) (hx : Fits x) (n : Nat) (hn : n ≤ 9000000000000000000) (w : World) (t : NTab w) :
    Calls Tryz.prog 164 #[specV x, .int .i64 n] w fun e w' => e = .returned (.bool (onB x n)) ∧ Below w.heap.size w w' := by
  have Cd : Hid (∀ (m d wd : Nat) W, m ≤ 100 → d ≤ 100 → wd ≤ 100 → Calls Tryz.prog 193 #[specV x, .int .i64 m, .int .i64 d, .int .i64 wd] W fun e w' => e = .returned (.bool (day x m d wd)) ∧ Below W.heap.size W w') := fun m d wd W h1 h2 h3 => cDay_any x hx m d wd W (by omega) (by omega) (by omega) (by omega) (by omega) (by omega)
  have Ho : Hid (∀ y m d, Day n y m d → onB x n = day x (m : Int) (d : Int) ((n + 4) % 7 : Nat)) := fun y m d h => on_day h
  have Hl : Hid (¬ n < 2932897 → onB x n = false) := on_late
  generalize onB x n = res at *
  generalize day x = D at *
  obtain ⟨x0, x1, x2, x3, x4, x5, x6, x7⟩ := x
  simp only [specV, cellsN] at *
  clear hx
  have t1 := Lib.hid (t.alloc (.cells #[.int .u64 x0, .int .u64 x1, .int .u64 x2, .int .u64 x3, .int .u64 x4, .bool x5, .bool x6, .int .i64 x7] 157))
  have b1 := Lib.hid ((Below.refl w.heap.size w).alloc (Nat.le_refl _) (.cells #[.int .u64 x0, .int .u64 x1, .int .u64 x2, .int .u64 x3, .int .u64 x4, .bool x5, .bool x6, .int .i64 x7] 157))
  clear t
  have c2 := Lib.hid (V.weekday_any n (w.alloc (.cells #[.int .u64 x0, .int .u64 x1, .int .u64 x2, .int .u64 x3, .int .u64 x4, .bool x5, .bool x6, .int .i64 x7] 157)) (by omega) (by omega))
  by_cases h : n < 2932897
  · have c1 := Lib.hid (V.date_some n _ t1.out.civ h)
    rw [weekday_in h] at c2
    have hw : (n + 4) % 7 < 7 := Nat.mod_lt _ (by omega)
    generalize (n + 4) % 7 = wd at *
    clear h Hl
    go_enter Tryz.func164, Tryz.ntmps164
    go_wp2_with fail
    refine c1.out.mono ?_
    rintro e w' ⟨⟨y, m, d, rfl, hd⟩, rfl⟩
    have hm := hd.m2
    have hdd : d ≤ 31 := Nat.le_trans hd.d2 (long_le y hd.m1 hd.m2)
    have hres := Lib.hid (Ho.out y m d hd)
    clear hd Ho c1
    go_wp2_with fail
    refine c2.out.mono ?_
    rintro e w' ⟨rfl, rfl⟩
    clear c2
    go_wp2_with fail
    refine (Cd.out m d wd _ (by omega) (by omega) (by omega)).mono ?_
    rintro e w2 ⟨rfl, k2⟩
    replace k2 := Lib.hid (b1.out.trans (k2.mono b1.out.size))
    go_wp2_with fail
    go_ret
    exact ⟨ret_bool (by rw [hres.out]), k2.out⟩
  · have c1 := Lib.hid (V.date_none n (w.alloc (.cells #[.int .u64 x0, .int .u64 x1, .int .u64 x2, .int .u64 x3, .int .u64 x4, .bool x5, .bool x6, .int .i64 x7] 157)) (by omega) (by omega) (by omega))
    have hres := Lib.hid (Hl.out h)
    generalize V.weekday n = wd at *
    clear h Hl Ho
    go_enter Tryz.func164, Tryz.ntmps164
    go_wp2_with fail
    refine c1.out.mono ?_
    rintro e w' ⟨rfl, rfl⟩
    clear c1
    go_wp2_with fail
    refine c2.out.mono ?_
    rintro e w' ⟨rfl, rfl⟩
    clear c2
    go_wp2_with fail
    go_ret
    exact ⟨ret_bool (by rw [hres.out]), b1.out⟩
/-- The first day of a row of days. -/
def FirstIn (x : SpecN) (lo hi : Nat) : Option Nat → Prop
  | some n => lo ≤ n ∧ n < hi ∧ On x n ∧ ∀ k, lo ≤ k → k < n → ¬ On x k
  | none => ∀ k, lo ≤ k → k < hi → ¬ On x k
theorem month_day {y m d : Nat} (y1 : 1970 ≤ y) (y2 : y ≤ 9999) (m1 : 1 ≤ m) (m2 : m ≤ 12) (d1 : 1 ≤ d) (d2 : d ≤ long y m) : Day (ay y + am y m + d - 1) y m d :=
  ⟨y1, y2, m1, m2, d1, d2, by omega⟩
theorem bit_none (set k : Nat) (h : set < 18446744073709551616) : (bits .and .u64 ((set : Int) / 2 ^ k) 1 == 0) = !set.testBit k := by
  have e0 : (set : Int) / 2 ^ k = ((set / 2 ^ k : Nat) : Int) := by simp
  have hle : set / 2 ^ k ≤ set := Nat.div_le_self _ _
  rw [e0, Nat.testBit_eq_decide_div_mod_eq]
  generalize set / 2 ^ k = q at *
  rw [and_one_u64 _ (by omega) (by omega), Bool.eq_iff_iff]
  simp only [beq_iff_eq, Bool.not_eq_true', decide_eq_false_iff_not]
  omega
theorem day_month {x : SpecN} {m : Nat} (hm : m < 64) (h : x.mon.testBit m = false) (d wd : Int) : day x (m : Int) d wd = false := by
  unfold day
  rw [has_bit hm, h]
  exact Bool.false_and _
theorem not_on_month {x : SpecN} {y m : Nat} (y1 : 1970 ≤ y) (y2 : y ≤ 9999) (m1 : 1 ≤ m) (m2 : m ≤ 12) (h : x.mon.testBit m = false) : ∀ k, ay y + am y m ≤ k → k < ay y + am y (m + 1) → ¬ On x k := by
  intro k k1 k2
  have hs := am_step y m1 m2
  have hd := month_day (d := k - (ay y + am y m) + 1) y1 y2 m1 m2 (by omega) (by omega)
  rw [show ay y + am y m + (k - (ay y + am y m) + 1) - 1 = k by omega] at hd
  rw [← onB_false, on_day hd]
  exact day_month (by omega) h _ _
set_option maxRecDepth 100000 in
set_option maxHeartbeats 1000000 in
theorem dayOfMonth_any (x : SpecN) (hx : Fits x) (y m a : Nat) (y1 : 1970 ≤ y) (y2 : y ≤ 9999) (m1 : 1 ≤ m) (m2 : m ≤ 12) (a1 : 1 ≤ a) (a2 : a ≤ 31) (w : World) (t : NTab w) :
    Calls Tryz.prog 194 #[specV x, .int .i64 y, .int .i64 m, .int .i64 a] w fun e w' => Found (FirstIn x (ay y + am y m + a - 1) (ay y + am y (m + 1))) 0 e ∧ Below w.heap.size w w' := by
  have Cd : Hid (∀ (d wd : Nat) W, d ≤ 100 → wd ≤ 100 → Calls Tryz.prog 193 #[specV x, .int .i64 m, .int .i64 d, .int .i64 wd] W fun e w' => e = .returned (.bool (day x m d wd)) ∧ Below W.heap.size W w') := fun d wd W h2 h3 => cDay_any x hx m d wd W (by omega) (by omega) (by omega) (by omega) (by omega) (by omega)
  have hbit := Lib.hid (bit_none x.mon m hx.mon)
  have hs := am_step y m1 m2
  have hl := long_le y m1 m2
  have hl2 := long_ge y m1 m2
  have h13 : ay y + am y (m + 1) ≤ 2932897 := by
    have := (month_day (d := long y m) y1 y2 m1 m2 (by omega) (Nat.le_refl _)).lt
    omega
  have Hd : Hid (∀ d : Nat, 1 ≤ d → d ≤ long y m → onB x (ay y + am y m + d - 1) = day x (m : Int) (d : Int) ((ay y + am y m + d - 1 + 4) % 7 : Nat)) := fun d h1 h2 => on_day (month_day y1 y2 m1 m2 h1 h2)
  have Hn : Hid (x.mon.testBit m = false → FirstIn x (ay y + am y m + a - 1) (ay y + am y (m + 1)) none) := fun h k k1 k2 => not_on_month y1 y2 m1 m2 h k (by omega) k2
  have hday := Lib.hid (month_day (d := 1) y1 y2 m1 m2 (by omega) (by omega))
  rw [Nat.add_sub_cancel] at hday
  have Cf : Hid (∀ W, NTab W → Calls Tryz.prog 216 #[.int .i64 y, .int .i64 m, .int .i64 1] W fun e w' => e = .returned (.tuple #[.int .i64 (ay y + am y m : Nat), .int .i64 0]) ∧ W = w') := fun W h => V.days_some hday.out W h.civ
  have Cl : Hid (∀ W, NTab W → Calls Tryz.prog 217 #[.int .i64 y, .int .i64 m] W fun e w' => e = .returned (.int .i64 (long y m : Nat)) ∧ W = w') := fun W h => V.long_some y m W h.civ y1 y2 m1 m2
  clear hday
  have hF1 : ay y + am y (m + 1) = ay y + am y m + long y m := by omega
  rw [hF1] at Hn h13 ⊢
  clear hF1 hs
  generalize ay y + am y m = F0 at *
  generalize long y m = L at *
  have Hfin : Hid (∀ k : Nat, a ≤ k → k ≤ L → (∀ j, F0 + a - 1 ≤ j → j < F0 + k - 1 → ¬ On x j) → onB x (F0 + k - 1) = true → FirstIn x (F0 + a - 1) (F0 + L) (some (F0 + k - 1))) := fun k h1 h2 h3 h4 => ⟨by omega, by omega, onB_true.1 h4, h3⟩
  have Hstep : Hid (∀ k : Nat, a ≤ k → (∀ j, F0 + a - 1 ≤ j → j < F0 + k - 1 → ¬ On x j) → onB x (F0 + k - 1) = false → ∀ j, F0 + a - 1 ≤ j → j < F0 + (k + 1) - 1 → ¬ On x j) := fun k h1 h3 h4 j j1 j2 => by
    by_cases e : j = F0 + k - 1
    · rw [e]; exact onB_false.1 h4
    · exact h3 j j1 (by omega)
  have Hend : Hid (∀ k : Nat, L < k → (∀ j, F0 + a - 1 ≤ j → j < F0 + k - 1 → ¬ On x j) → FirstIn x (F0 + a - 1) (F0 + L) none) := fun k h1 h2 j j1 j2 => h2 j j1 (by omega)
  have H0 : Hid (∀ j, F0 + a - 1 ≤ j → j < F0 + a - 1 → ¬ On x j) := fun j j1 j2 => by omega
  generalize FirstIn x (F0 + a - 1) (F0 + L) = FI at *
  generalize hNo : (fun k => ∀ j, F0 + a - 1 ≤ j → j < F0 + k - 1 → ¬ On x j) = No at *
  have Hfin' : Hid (∀ k : Nat, a ≤ k → k ≤ L → No k → onB x (F0 + k - 1) = true → FI (some (F0 + k - 1))) := by subst hNo; exact Hfin.out
  have Hstep' : Hid (∀ k : Nat, a ≤ k → No k → onB x (F0 + k - 1) = false → No (k + 1)) := by subst hNo; exact Hstep.out
  have Hend' : Hid (∀ k : Nat, L < k → No k → FI none) := by subst hNo; exact Hend.out
  have H0' : Hid (No a) := by subst hNo; exact H0.out
  clear Hfin Hstep Hend H0 hNo
  generalize onB x = OB at *
  generalize x.mon.testBit m = mb at *
  generalize day x = D at *
  obtain ⟨x0, x1, x2, x3, x4, x5, x6, x7⟩ := x
  simp only [specV, cellsN] at *
  clear hx
  have t1 := Lib.hid (t.alloc (.cells #[.int .u64 x0, .int .u64 x1, .int .u64 x2, .int .u64 x3, .int .u64 x4, .bool x5, .bool x6, .int .i64 x7] 157))
  have B1 := Lib.hid (Box.start w x0 x1 x2 x3 x4 x5 x6 x7)
  have b1 := Lib.hid ((Below.refl w.heap.size w).alloc (Nat.le_refl _) (.cells #[.int .u64 x0, .int .u64 x1, .int .u64 x2, .int .u64 x3, .int .u64 x4, .bool x5, .bool x6, .int .i64 x7] 157))
  clear t
  cases mb with
  | false =>
    have fin := Lib.hid (Hn.out rfl)
    have hb := hbit.out
    simp only [Bool.not_false] at hb
    go_enter Tryz.func194, Tryz.ntmps194
    go_wp2_with fail
    go_ret2
    exact ⟨⟨_, fin.out, rfl⟩, b1.out⟩
  | true =>
    have hb := hbit.out
    simp only [Bool.not_true] at hb
    have c1 := Lib.hid (Cf.out _ t1.out)
    clear Hn
    go_enter Tryz.func194, Tryz.ntmps194
    go_wp2_with fail
    refine c1.out.mono ?_
    rintro e w' ⟨rfl, rfl⟩
    clear c1 hb
    go_wp2_with fail
    go_loopw [12] (fun i wr => ∃ k : Nat, a ≤ k ∧ k ≤ 40 ∧ i = .int .i64 k ∧ Hid (No k) ∧ Hid (NTab wr) ∧ Hid (Box w.heap.size wr x0 x1 x2 x3 x4 x5 x6 x7) ∧ Hid (Below w.heap.size w wr)) (fun i _ => 41 - (intOf i).toNat)
    case atStart => exact ⟨a, Nat.le_refl _, by omega, rfl, H0', t1, B1, b1⟩
    case round =>
      obtain ⟨k, k1, k2, rfl, hno, ht, hB, hb⟩ := hrel
      have c1 := Lib.hid (Cl.out wr ht.out)
      by_cases hk : k ≤ L
      · have hwd : (F0 + k - 1 + 4) % 7 < 7 := Nat.mod_lt _ (by omega)
        have hon := Lib.hid (Hd.out k (by omega) hk)
        have hlt : F0 + k - 1 < 2932897 := by omega
        have c2 := Lib.hid (V.weekday_any (F0 + k - 1 : Nat) wr (by omega) (by omega))
        rw [weekday_in hlt, show ((F0 + k - 1 : Nat) : Int) = (F0 : Int) + k - 1 by omega] at c2
        have c3 := Lib.hid (Cd.out k ((F0 + k - 1 + 4) % 7) wr (by omega) (by omega))
        generalize (F0 + k - 1 + 4) % 7 = wd at *
        obtain ⟨q0, q1, q2, q3, q4, q5, q6, q7⟩ := hB.out.all
        go_wp2_with fail
        refine c1.out.mono ?_
        rintro e w' ⟨rfl, rfl⟩
        go_wp2_with fail
        refine c2.out.mono ?_
        rintro e w' ⟨rfl, rfl⟩
        go_wp2_with fail
        refine c3.out.mono ?_
        rintro e w2 ⟨rfl, g2⟩
        have t2 := Lib.hid (ht.out.below g2)
        have B2 := Lib.hid (hB.out.step g2)
        have b2 := Lib.hid (hb.out.trans (g2.mono hb.out.size))
        clear g2 c1 c2 c3 q0 q1 q2 q3 q4 q5 q6 q7
        cases hq : D m k wd with
        | true =>
          have fin := Lib.hid (Hfin'.out k k1 hk hno.out (hon.out.trans hq))
          clear hq hon
          go_wp2_with fail
          go_ret2
          exact ⟨⟨_, fin.out, by rw [answerF_some]; go_num⟩, b2.out⟩
        | false =>
          have nx := Lib.hid (Hstep'.out k k1 hno.out (hon.out.trans hq))
          clear hq hon
          go_wp2_with fail
          exact ⟨⟨k + 1, by omega, by omega, by go_num, nx, t2, B2, b2⟩, by simp [intOf]; omega⟩
      · have fin := Lib.hid (Hend'.out k (by omega) hno.out)
        go_wp2_with fail
        refine c1.out.mono ?_
        rintro e w' ⟨rfl, rfl⟩
        go_wp2_with fail
        go_ret2
        exact ⟨⟨_, fin.out, rfl⟩, hb.out⟩
end Go.Proofs.YtoihekgmomjhpaaGreatDoor
namespace Go.Proofs.YtoihekgmomjhpaaGreatDoor
open Go.RowKit Crn Nxt Civ
def FirstDay (x : SpecN) (a : Nat) : Option Nat → Prop
  | some n => a ≤ n ∧ On x n ∧ ∀ k, a ≤ k → k < n → ¬ On x k
  | none => ∀ k, a ≤ k → ¬ On x k
/-- None from a on, ahead of n. -/
def NoOn (x : SpecN) (a n : Nat) : Prop := ∀ k, a ≤ k → k < n → ¬ On x k
theorem fd_found {x : SpecN} {a lo hi n : Nat} (h : NoOn x a lo) (ha : a ≤ lo) (hf : FirstIn x lo hi (some n)) : FirstDay x a (some n) := by
  obtain ⟨h1, h2, h3, h4⟩ := hf
  refine ⟨by omega, h3, fun k k1 k2 => ?_⟩
  rcases Nat.lt_or_ge k lo with h5 | h5
  · exact h k k1 h5
  · exact h4 k h5 k2
theorem no_more {x : SpecN} {a lo hi : Nat} (h : NoOn x a lo) (hf : FirstIn x lo hi none) : NoOn x a hi := by
  intro k k1 k2
  rcases Nat.lt_or_ge k lo with h5 | h5
  · exact h k k1 h5
  · exact hf k h5 k2
theorem month_next {y m : Nat} (y1 : 1970 ≤ y) (m1 : 1 ≤ m) (m2 : m ≤ 12) : ay (y + m / 12) + am (y + m / 12) (m % 12 + 1) + 1 - 1 = ay y + am y (m + 1) := by
  by_cases h : m = 12
  · subst h
    have := ay_step y1
    rw [show y + 12 / 12 = y + 1 by omega, show 12 % 12 + 1 = 1 by omega, am_one, this]
    show ay y + am y 13 + 0 + 1 - 1 = ay y + am y 13
    omega
  · rw [show y + m / 12 = y by omega, show m % 12 + 1 = m + 1 by omega]
    omega
theorem fd_none {x : SpecN} {a y0 m0 d0 L y n : Nat} (h : NoOn x a n) (hd : Day a y0 m0 d0) (hL : L = min (y0 + 400) 9999) (hy : L < y) (hn : ay y ≤ n) : FirstDay x a none := by
  intro k k1 ho
  have hlt := ho.lt
  have hy0 := hd.y1
  have hy2 := hd.y2
  by_cases h9 : L = 9999
  · have h1 := ay_mono (a := 10000) (b := y) (by omega) (by omega)
    have := ay_last
    exact h k k1 (by omega) ho
  · obtain ⟨j, j1, j2, j3, j4⟩ := ho.window k1
    have h1 := ay_mono (a := y0 + 401) (b := y) (by omega) (by omega)
    have h2 := ay_four (y := y0 + 1) (by omega) 1
    have h3 := ay_step hy0
    have h4 := am_step y0 hd.m1 hd.m2
    have h5 := am_mono y0 (a := m0 + 1) (b := 13) (by omega) (by have := hd.m2; omega) (by omega)
    have := hd.d2
    have := hd.e
    rw [show y0 + 1 + 400 * 1 = y0 + 401 by omega] at h2
    exact h j j1 (by omega) j4
set_option maxRecDepth 100000 in
set_option maxHeartbeats 1000000 in
theorem dayFrom_any (x : SpecN) (hx : Fits x) (a : Nat) (ha : a ≤ 9000000000000000000) (w : World) (t : NTab w) :
    Calls Tryz.prog 165 #[specV x, .int .i64 a] w fun e w' => Found (FirstDay x a) 0 e ∧ Below w.heap.size w w' := by
  have Cm : Hid (∀ (y m d : Nat) W, 1970 ≤ y → y ≤ 9999 → 1 ≤ m → m ≤ 12 → 1 ≤ d → d ≤ 31 → NTab W → Calls Tryz.prog 194 #[specV x, .int .i64 y, .int .i64 m, .int .i64 d] W fun e w' => Found (FirstIn x (ay y + am y m + d - 1) (ay y + am y (m + 1))) 0 e ∧ Below W.heap.size W w') := fun y m d W y1 y2 m1 m2 d1 d2 h => dayOfMonth_any x hx y m d y1 y2 m1 m2 d1 d2 W h
  have Hl : Hid (¬ a < 2932897 → FirstDay x a none) := fun h k k1 ho => by have := ho.lt; omega
  have Hf : Hid (∀ lo hi n, NoOn x a lo → a ≤ lo → FirstIn x lo hi (some n) → FirstDay x a (some n)) := fun lo hi n h1 h2 h3 => fd_found h1 h2 h3
  have Hm : Hid (∀ lo hi, NoOn x a lo → FirstIn x lo hi none → NoOn x a hi) := fun lo hi h1 h2 => no_more h1 h2
  have Hz : Hid (∀ y0 m0 d0 L y n, NoOn x a n → Day a y0 m0 d0 → L = min (y0 + 400) 9999 → L < y → ay y ≤ n → FirstDay x a none) := fun y0 m0 d0 L y n h1 h2 h3 h4 h5 => fd_none h1 h2 h3 h4 h5
  have H0 : Hid (NoOn x a a) := fun k k1 k2 => by omega
  generalize FirstDay x a = FD at *
  generalize NoOn x a = No at *
  generalize FirstIn x = FI at *
  obtain ⟨x0, x1, x2, x3, x4, x5, x6, x7⟩ := x
  simp only [specV, cellsN] at *
  clear hx
  have t1 := Lib.hid (t.alloc (.cells #[.int .u64 x0, .int .u64 x1, .int .u64 x2, .int .u64 x3, .int .u64 x4, .bool x5, .bool x6, .int .i64 x7] 157))
  have B1 := Lib.hid (Box.start w x0 x1 x2 x3 x4 x5 x6 x7)
  have b1 := Lib.hid ((Below.refl w.heap.size w).alloc (Nat.le_refl _) (.cells #[.int .u64 x0, .int .u64 x1, .int .u64 x2, .int .u64 x3, .int .u64 x4, .bool x5, .bool x6, .int .i64 x7] 157))
  clear t
  by_cases h : a < 2932897
  · have c1 := Lib.hid (V.date_some a _ t1.out.civ h)
    clear Hl
    go_enter Tryz.func165, Tryz.ntmps165
    go_wp2_with fail
    refine c1.out.mono ?_
    rintro e w' ⟨⟨y0, m0, d0, rfl, hd⟩, rfl⟩
    have hdd : d0 ≤ 31 := Nat.le_trans hd.d2 (long_le y0 hd.m1 hd.m2)
    have y1 := hd.y1
    have y2 := hd.y2
    have g1 := hd.m1
    have g2 := hd.m2
    have g3 := hd.d1
    have e0 : Hid (ay y0 + am y0 m0 + d0 - 1 = a) := by have := hd.e; unfold Hid; omega
    replace hd := Lib.hid hd
    obtain ⟨L, hL⟩ : ∃ L, L = min (y0 + 400) 9999 := ⟨_, rfl⟩
    have hmin : min ((y0 : Int) + 400) 9999 = (L : Int) := by omega
    have hL1 : y0 ≤ L := by omega
    have hL2 : L ≤ 9999 := by omega
    replace hL := Lib.hid hL
    clear c1
    go_wp2_with fail
    clear hmin
    go_loopw [6, 7, 8] (fun vy vm vd wr => ∃ y m d n : Nat, vy = .int .i64 y ∧ vm = .int .i64 m ∧ vd = .int .i64 d ∧ 1970 ≤ y ∧ y ≤ L + 1 ∧ 1 ≤ m ∧ m ≤ 12 ∧ 1 ≤ d ∧ d ≤ 31 ∧ Hid (ay y + am y m + d - 1 = n) ∧ Hid (d ≤ long y m) ∧ Hid (a ≤ n) ∧ Hid (No n) ∧ Hid (NTab wr) ∧ Hid (Box w.heap.size wr x0 x1 x2 x3 x4 x5 x6 x7) ∧ Hid (Below w.heap.size w wr)) (fun vy vm _ _ => 130000 - (12 * (intOf vy).toNat + (intOf vm).toNat))
    case atStart => exact ⟨y0, m0, d0, a, rfl, rfl, rfl, y1, by omega, g1, g2, g3, hdd, e0, hd.out.d2, Nat.le_refl _, H0, t1, B1, b1⟩
    case round =>
      obtain ⟨y, m, d, n, rfl, rfl, rfl, z1, z2, z3, z4, z5, z6, hn, hdl, han, hno, ht, hB, hb⟩ := hrel
      by_cases hy : y ≤ L
      · have c1 := Lib.hid (Cm.out y m d wr z1 (by omega) z3 z4 z5 z6 ht.out)
        rw [hn.out] at c1
        have e1 := Lib.hid (month_next z1 z3 z4)
        have hlo : Hid (n ≤ ay y + am y (m + 1)) := by
          have h1 := hn.out; have h2 := am_step y z3 z4; have h3 := hdl.out
          unfold Hid
          omega
        have hlg : Hid (1 ≤ long (y + m / 12) (m % 12 + 1)) := by
          have := long_ge (y + m / 12) (m := m % 12 + 1) (by omega) (by omega)
          unfold Hid
          omega
        generalize ay y + am y (m + 1) = hi at *
        obtain ⟨q0, q1, q2, q3, q4, q5, q6, q7⟩ := hB.out.all
        go_wp2_with fail
        refine c1.out.mono ?_
        rintro e w2 ⟨⟨r, hr, rfl⟩, g⟩
        have t2 := Lib.hid (ht.out.below g)
        have B2 := Lib.hid (hB.out.step g)
        have b2 := Lib.hid (hb.out.trans (g.mono hb.out.size))
        replace hr := Lib.hid hr
        clear g c1 q0 q1 q2 q3 q4 q5 q6 q7
        cases r with
        | some p =>
          rw [answerF_some]
          go_wp2_with fail
          go_ret2
          exact ⟨⟨_, Hf.out n hi p hno.out han.out hr.out, rfl⟩, b2.out⟩
        | none =>
          rw [answerF_none]
          have nx := Lib.hid (Hm.out n hi hno.out hr.out)
          go_wp2_with fail
          exact ⟨⟨y + m / 12, m % 12 + 1, 1, hi, by go_num, by go_num, rfl, by omega, by omega, by omega, by omega, by omega, by omega, e1, hlg, Nat.le_trans han.out hlo.out, nx, t2, B2, b2⟩, by simp [intOf]; omega⟩
      · have fin := Lib.hid (Hz.out y0 m0 d0 L y n hno.out hd.out hL.out (by omega) (by have := hn.out; omega))
        go_wp2_with fail
        go_ret2
        exact ⟨⟨_, fin.out, rfl⟩, hb.out⟩
  · have c1 := Lib.hid (V.date_none a (w.alloc (.cells #[.int .u64 x0, .int .u64 x1, .int .u64 x2, .int .u64 x3, .int .u64 x4, .bool x5, .bool x6, .int .i64 x7] 157)) (by omega) (by omega) (by omega))
    have fin := Lib.hid (Hl.out h)
    clear h Hl
    go_enter Tryz.func165, Tryz.ntmps165
    go_wp2_with fail
    refine c1.out.mono ?_
    rintro e w' ⟨rfl, rfl⟩
    clear c1
    go_wp2_with fail
    go_ret2
    exact ⟨⟨_, fin.out, rfl⟩, b1.out⟩
/-! The first minute of a spec's own clock. -/
def FirstOwn (x : SpecN) (a : Nat) : Option Nat → Prop
  | some o => a ≤ o ∧ On x (o / 1440) ∧ Clock x (o % 1440) ∧ ∀ k, a ≤ k → k < o → ¬ (On x (k / 1440) ∧ Clock x (k % 1440))
  | none => ∀ k, a ≤ k → ¬ (On x (k / 1440) ∧ Clock x (k % 1440))
theorem fo_today {x : SpecN} {a i : Nat} (h : FirstClock x (a % 1440) (some i)) (ho : On x (a / 1440)) : FirstOwn x a (some (a / 1440 * 1440 + i)) := by
  obtain ⟨h1, h2, h3⟩ := h
  have hi := h2.1
  refine ⟨by omega, ?_, ?_, fun k k1 k2 ⟨g1, g2⟩ => ?_⟩
  · rw [show (a / 1440 * 1440 + i) / 1440 = a / 1440 by omega]; exact ho
  · rw [show (a / 1440 * 1440 + i) % 1440 = i by omega]; exact h2
  · exact h3 (k % 1440) (by omega) (by omega) g2
/-- Nothing any more on the day of a. -/
def OverDay (x : SpecN) (a : Nat) : Prop := FirstClock x (a % 1440) none ∨ ¬ On x (a / 1440)
theorem OverDay.no {x : SpecN} {a k : Nat} (h : OverDay x a) (h1 : a ≤ k) (h2 : k / 1440 = a / 1440) : ¬ (On x (k / 1440) ∧ Clock x (k % 1440)) := by
  rintro ⟨g1, g2⟩
  rcases h with h | h
  · exact h (k % 1440) (by omega) g2
  · rw [h2] at g1; exact h g1
theorem fo_none {x : SpecN} {a : Nat} (h : OverDay x a) (hd : FirstDay x (a / 1440 + 1) none) : FirstOwn x a none := by
  intro k k1 g
  by_cases e : k / 1440 = a / 1440
  · exact h.no k1 e g
  · exact hd (k / 1440) (by omega) g.1
theorem fo_later {x : SpecN} {a n i : Nat} (h : OverDay x a) (hd : FirstDay x (a / 1440 + 1) (some n)) (hc : FirstClock x 0 (some i)) : FirstOwn x a (some (n * 1440 + i)) := by
  obtain ⟨h1, h2, h3⟩ := hd
  obtain ⟨_, c2, c3⟩ := hc
  have hi := c2.1
  refine ⟨by omega, ?_, ?_, fun k k1 k2 g => ?_⟩
  · rw [show (n * 1440 + i) / 1440 = n by omega]; exact h2
  · rw [show (n * 1440 + i) % 1440 = i by omega]; exact c2
  · by_cases e : k / 1440 = a / 1440
    · exact h.no k1 e g
    · by_cases e2 : k / 1440 = n
      · exact c3 (k % 1440) (Nat.zero_le _) (by omega) g.2
      · exact h3 (k / 1440) (by omega) (by omega) g.1
theorem clock_some {x : SpecN} (h : right x = true) (hn : FirstClock x 0 none) : False := by
  obtain ⟨i, hi⟩ := some_clock h
  exact hn i (Nat.zero_le _) hi
set_option maxRecDepth 100000 in
set_option maxHeartbeats 1000000 in
theorem ownFrom_any (x : SpecN) (hx : Fits x) (hr : right x = true) (a : Nat) (ha : a ≤ 1000000000000000000) (w : World) (t : NTab w) :
    Calls Tryz.prog 125 #[specV x, .int .i64 a] w fun e w' => Found (FirstOwn x a) 0 e ∧ Below w.heap.size w w' := by
  have Cc : Hid (∀ (i : Nat) W, i < 1440 → NTab W → Calls Tryz.prog 163 #[specV x, .int .i64 i] W fun e w' => Found (FirstClock x i) 0 e ∧ Below W.heap.size W w') := fun i W h1 h2 => minuteFrom_any x hx hr i h1 W h2
  have Co : Hid (∀ W, NTab W → Calls Tryz.prog 164 #[specV x, .int .i64 (a / 1440 : Nat)] W fun e w' => e = .returned (.bool (onB x (a / 1440))) ∧ Below W.heap.size W w') := fun W h => isOn_any x hx (a / 1440) (by omega) W h
  have Cd : Hid (∀ W, NTab W → Calls Tryz.prog 165 #[specV x, .int .i64 (a / 1440 + 1 : Nat)] W fun e w' => Found (FirstDay x (a / 1440 + 1)) 0 e ∧ Below W.heap.size W w') := fun W h => dayFrom_any x hx (a / 1440 + 1) (by omega) W h
  have F1 : Hid (∀ i, FirstClock x (a % 1440) (some i) → onB x (a / 1440) = true → FirstOwn x a (some (a / 1440 * 1440 + i))) := fun i h1 h2 => fo_today h1 (onB_true.1 h2)
  have F2 : Hid (OverDay x a → FirstDay x (a / 1440 + 1) none → FirstOwn x a none) := fun h1 h2 => fo_none h1 h2
  have F3 : Hid (∀ n i, OverDay x a → FirstDay x (a / 1440 + 1) (some n) → FirstClock x 0 (some i) → n ≤ 2932896 ∧ i < 1440 ∧ FirstOwn x a (some (n * 1440 + i))) := fun n i h1 h2 h3 => ⟨by have := h2.2.1.lt; omega, h3.2.1.1, fo_later h1 h2 h3⟩
  have F4 : Hid (FirstClock x 0 none → False) := fun h => clock_some hr h
  have O1 : Hid (FirstClock x (a % 1440) none → OverDay x a) := fun h => Or.inl h
  have O2 : Hid (onB x (a / 1440) = false → OverDay x a) := fun h => Or.inr (onB_false.1 h)
  have hc : Hid (∀ i k, FirstClock x k (some i) → i < 1440) := fun i k h => h.2.1.1
  generalize FirstOwn x a = FO at *
  generalize OverDay x a = OD at *
  generalize FirstClock x = FC at *
  generalize FirstDay x = FD at *
  generalize onB x (a / 1440) = ob at *
  rw [show ((a / 1440 : Nat) : Int) = (a : Int) / 1440 by omega] at Co
  rw [show ((a / 1440 + 1 : Nat) : Int) = (a : Int) / 1440 + 1 by omega] at Cd
  obtain ⟨x0, x1, x2, x3, x4, x5, x6, x7⟩ := x
  simp only [specV, cellsN] at *
  clear hx hr
  have t1 := Lib.hid (t.alloc (.cells #[.int .u64 x0, .int .u64 x1, .int .u64 x2, .int .u64 x3, .int .u64 x4, .bool x5, .bool x6, .int .i64 x7] 157))
  have B1 := Lib.hid (Box.start w x0 x1 x2 x3 x4 x5 x6 x7)
  have b1 := Lib.hid ((Below.refl w.heap.size w).alloc (Nat.le_refl _) (.cells #[.int .u64 x0, .int .u64 x1, .int .u64 x2, .int .u64 x3, .int .u64 x4, .bool x5, .bool x6, .int .i64 x7] 157))
  clear t
  have c1 := Lib.hid (Cc.out (a % 1440) _ (Nat.mod_lt _ (by omega)) t1.out)
  rw [show ((a % 1440 : Nat) : Int) = (a : Int) % 1440 by omega] at c1
  go_enter Tryz.func125, Tryz.ntmps125
  go_wp2_with fail
  refine c1.out.mono ?_
  rintro e w1 ⟨⟨r, hr1, rfl⟩, k1⟩
  have t2 := Lib.hid (t1.out.below k1)
  have B2 := Lib.hid (B1.out.step k1)
  have b2 := Lib.hid (b1.out.trans (k1.mono b1.out.size))
  replace hr1 := Lib.hid hr1
  clear k1 c1 t1 B1 b1
  obtain ⟨q0, q1, q2, q3, q4, q5, q6, q7⟩ := B2.out.all
  cases r with
  | none =>
    rw [answerF_none]
    have ov := Lib.hid (O1.out hr1.out)
    have c2 := Lib.hid (Cd.out _ t2.out)
    go_wp2_with fail
    refine c2.out.mono ?_
    rintro e w2 ⟨⟨r, hr2, rfl⟩, k2⟩
    have t3 := Lib.hid (t2.out.below k2)
    have B3 := Lib.hid (B2.out.step k2)
    have b3 := Lib.hid (b2.out.trans (k2.mono b2.out.size))
    replace hr2 := Lib.hid hr2
    clear k2 c2 t2 B2 b2 q0 q1 q2 q3 q4 q5 q6 q7
    cases r with
    | none =>
      rw [answerF_none]
      go_wp2_with fail
      go_ret2
      exact ⟨⟨_, F2.out ov.out hr2.out, rfl⟩, b3.out⟩
    | some n =>
      rw [answerF_some]
      obtain ⟨q0, q1, q2, q3, q4, q5, q6, q7⟩ := B3.out.all
      have c3 := Lib.hid (Cc.out 0 _ (by omega) t3.out)
      go_wp2_with fail
      refine c3.out.mono ?_
      rintro e w3 ⟨⟨r, hr3, rfl⟩, k3⟩
      have b4 := Lib.hid (b3.out.trans (k3.mono b3.out.size))
      replace hr3 := Lib.hid hr3
      cases r with
      | none => exact absurd hr3.out (fun h => F4.out h)
      | some i =>
        rw [answerF_some]
        obtain ⟨g1, g2, g3⟩ := F3.out n i ov.out hr2.out hr3.out
        replace g3 := Lib.hid g3
        clear k3 c3
        go_wp2_with fail
        go_ret2
        exact ⟨⟨_, g3.out, by rw [answerF_some]; go_num⟩, b4.out⟩
  | some i0 =>
    rw [answerF_some]
    have hi0 := hc.out i0 _ hr1.out
    have c2 := Lib.hid (Co.out _ t2.out)
    go_wp2_with fail
    refine c2.out.mono ?_
    rintro e w4 ⟨rfl, k4⟩
    have t5 := Lib.hid (t2.out.below k4)
    have B5 := Lib.hid (B2.out.step k4)
    have b5 := Lib.hid (b2.out.trans (k4.mono b2.out.size))
    clear k4 c2 t2 B2 b2 q0 q1 q2 q3 q4 q5 q6 q7
    cases ob with
    | true =>
      have fin := Lib.hid (F1.out i0 hr1.out (by trivial))
      go_wp2_with fail
      go_ret2
      exact ⟨⟨_, fin.out, by rw [answerF_some]; go_num⟩, b5.out⟩
    | false =>
      have ov := Lib.hid (O2.out (by trivial))
      obtain ⟨q0, q1, q2, q3, q4, q5, q6, q7⟩ := B5.out.all
      have c2 := Lib.hid (Cd.out _ t5.out)
      go_wp2_with fail
      refine c2.out.mono ?_
      rintro e w2 ⟨⟨r, hr2, rfl⟩, k2⟩
      have t3 := Lib.hid (t5.out.below k2)
      have B3 := Lib.hid (B5.out.step k2)
      have b3 := Lib.hid (b5.out.trans (k2.mono b5.out.size))
      replace hr2 := Lib.hid hr2
      clear k2 c2 t5 B5 b5 q0 q1 q2 q3 q4 q5 q6 q7
      cases r with
      | none =>
        rw [answerF_none]
        go_wp2_with fail
        go_ret2
        exact ⟨⟨_, F2.out ov.out hr2.out, rfl⟩, b3.out⟩
      | some n =>
        rw [answerF_some]
        obtain ⟨q0, q1, q2, q3, q4, q5, q6, q7⟩ := B3.out.all
        have c3 := Lib.hid (Cc.out 0 _ (by omega) t3.out)
        go_wp2_with fail
        refine c3.out.mono ?_
        rintro e w3 ⟨⟨r, hr3, rfl⟩, k3⟩
        have b4 := Lib.hid (b3.out.trans (k3.mono b3.out.size))
        replace hr3 := Lib.hid hr3
        cases r with
        | none => exact absurd hr3.out (fun h => F4.out h)
        | some i =>
          rw [answerF_some]
          obtain ⟨g1, g2, g3⟩ := F3.out n i ov.out hr2.out hr3.out
          replace g3 := Lib.hid g3
          clear k3 c3
          go_wp2_with fail
          go_ret2
          exact ⟨⟨_, g3.out, by rw [answerF_some]; go_num⟩, b4.out⟩
end Go.Proofs.YtoihekgmomjhpaaGreatDoor
namespace Go.Proofs.YtoihekgmomjhpaaGreatDoor
open Go.RowKit Crn Nxt Civ
/-- From the spec's own clock to seconds. -/
theorem at_own {x : SpecN} (h : right x = true) {o : Nat} (h1 : On x (o / 1440)) (h2 : Clock x (o % 1440)) (lo : 0 ≤ ((o : Int) - x.ahead) * 60) (hi : ((o : Int) - x.ahead) * 60 ≤ last) : At x (((o : Int) - x.ahead) * 60) :=
  ⟨h, lo, hi, o / 1440, o % 1440, h1, h2, by omega⟩
theorem own_at {x : SpecN} {s : Int} (h : At x s) : ∃ o : Nat, On x (o / 1440) ∧ Clock x (o % 1440) ∧ s = ((o : Int) - x.ahead) * 60 := by
  obtain ⟨n, i, h1, h2, e⟩ := h.own
  have := h2.1
  refine ⟨n * 1440 + i, ?_, ?_, by omega⟩
  · rw [show (n * 1440 + i) / 1440 = n by omega]; exact h1
  · rw [show (n * 1440 + i) % 1440 = i by omega]; exact h2
theorem behind_iff {s q : Int} (hq : 0 ≤ q) : s < q * 60 ↔ behind s ≤ q := by
  unfold behind
  split <;> omega
/-- Where the own clock is looked at first. -/
def startN (x : SpecN) (s : Int) : Int := max (behind s + x.ahead) 0
theorem next_own_none {x : SpecN} {s : Int} {a : Nat} (ha : (a : Int) = startN x s) (h : FirstOwn x a none) : nextN x s = none := by
  apply nextN_of
  intro t ht hat
  obtain ⟨o, h1, h2, e⟩ := own_at hat
  have hlo := hat.lo
  have hb := (behind_iff (s := s) (q := (o : Int) - x.ahead) (by omega)).1 (by omega)
  unfold startN at ha
  exact h o (by omega) ⟨h1, h2⟩
theorem next_own_late {x : SpecN} {s : Int} {a o : Nat} (ha : (a : Int) = startN x s) (h : FirstOwn x a (some o)) (hl : last < ((o : Int) - x.ahead) * 60) : nextN x s = none := by
  apply nextN_of
  intro t ht hat
  obtain ⟨p, h1, h2, e⟩ := own_at hat
  have hlo := hat.lo
  have hhi := hat.hi
  have hb := (behind_iff (s := s) (q := (p : Int) - x.ahead) (by omega)).1 (by omega)
  unfold startN at ha
  exact h.2.2.2 p (by omega) (by omega) ⟨h1, h2⟩
theorem next_own {x : SpecN} (hr : right x = true) {s : Int} {a o : Nat} (ha : (a : Int) = startN x s) (h : FirstOwn x a (some o)) (hl : ((o : Int) - x.ahead) * 60 ≤ last) : nextN x s = some (((o : Int) - x.ahead) * 60) := by
  obtain ⟨h1, h2, h3, h4⟩ := h
  have h5 : behind s + x.ahead ≤ (o : Int) := by unfold startN at ha; omega
  have h6 : 0 ≤ behind s := by unfold behind; split <;> omega
  apply nextN_of
  refine ⟨at_own hr h2 h3 (by omega) hl, (behind_iff (by omega)).2 (by omega), fun t t1 t2 hat => ?_⟩
  obtain ⟨p, g1, g2, e⟩ := own_at hat
  have hlo := hat.lo
  have hb := (behind_iff (s := s) (q := (p : Int) - x.ahead) (by omega)).1 (by omega)
  unfold startN at ha
  exact h4 p (by omega) (by omega) ⟨g1, g2⟩
/-- What Next answers. -/
def answerX (r : Option Int) : Ending := .returned (.tuple #[.int .i64 (r.getD 0), .bool r.isSome])
theorem answerX_none : answerX none = .returned (.tuple #[.int .i64 0, .bool false]) := rfl
theorem answerX_some (n : Int) : answerX (some n) = .returned (.tuple #[.int .i64 n, .bool true]) := rfl
theorem behind_ge (s : Int) : 0 ≤ behind s := by unfold behind; split <;> omega
theorem behind_le {s : Int} (h : s ≤ 9223372036854775807) : behind s ≤ 200000000000000000 := by unfold behind; split <;> omega
theorem fo_bound {x : SpecN} {a o : Nat} (h : FirstOwn x a (some o)) : o < 4223371680 := by
  have := h.2.1.lt
  omega
set_option maxRecDepth 100000 in
set_option maxHeartbeats 1000000 in
theorem cNext_any (x : SpecN) (hx : Fits x) (s : Int) (s1 : -9223372036854775808 ≤ s) (s2 : s ≤ 9223372036854775807) (w : World) (tb : Tab w) (t : NTab w) :
    Calls Tryz.prog 90 #[specV x, .int .i64 s] w fun e w' => e = answerX (nextN x s) ∧ Below w.heap.size w w' := by
  have Cr := Lib.hid (fun W tb => cRight_any x hx W tb)
  have Cb := Lib.hid (fun W => minuteBehind_any s W s1 s2)
  have Co : Hid (right x = true → ∀ (a : Nat) W, a ≤ 1000000000000000000 → NTab W → Calls Tryz.prog 125 #[specV x, .int .i64 a] W fun e w' => Found (FirstOwn x a) 0 e ∧ Below W.heap.size W w') := fun hr a W h1 h2 => ownFrom_any x hx hr a h1 W h2
  have Hw : Hid (right x = false → nextN x s = none) := fun h => nextN_bad h s
  have H1 : Hid (∀ a : Nat, (a : Int) = startN x s → FirstOwn x a none → nextN x s = none) := fun a h1 h2 => next_own_none h1 h2
  have H2 : Hid (∀ a o : Nat, (a : Int) = startN x s → FirstOwn x a (some o) → last < ((o : Int) - x.ahead) * 60 → nextN x s = none) := fun a o h1 h2 h3 => next_own_late h1 h2 h3
  have H3 : Hid (right x = true → ∀ a o : Nat, (a : Int) = startN x s → FirstOwn x a (some o) → ((o : Int) - x.ahead) * 60 ≤ last → nextN x s = some (((o : Int) - x.ahead) * 60)) := fun hr a o h1 h2 h3 => next_own hr h1 h2 h3
  have Hb : Hid (∀ a o, FirstOwn x a (some o) → o < 4223371680) := fun a o h => fo_bound h
  have Ha : Hid (right x = true → -899 ≤ x.ahead ∧ x.ahead ≤ 899) := fun h => (right_parts h).2.2.2.2.2
  have g1 := behind_ge s
  have g2 := behind_le s2
  have hst : Hid (startN x s = max (behind s + x.ahead) 0) := rfl
  generalize nextN x s = res at *
  generalize FirstOwn x = FO at *
  generalize startN x s = st at *
  generalize behind s = bh at *
  generalize right x = rt at *
  obtain ⟨x0, x1, x2, x3, x4, x5, x6, x7⟩ := x
  simp only [specV, cellsN] at *
  clear hx
  have t1 := Lib.hid (t.alloc (.cells #[.int .u64 x0, .int .u64 x1, .int .u64 x2, .int .u64 x3, .int .u64 x4, .bool x5, .bool x6, .int .i64 x7] 157))
  have tb1 := Lib.hid (tb.alloc (.cells #[.int .u64 x0, .int .u64 x1, .int .u64 x2, .int .u64 x3, .int .u64 x4, .bool x5, .bool x6, .int .i64 x7] 157))
  have B1 := Lib.hid (Box.start w x0 x1 x2 x3 x4 x5 x6 x7)
  have b1 := Lib.hid ((Below.refl w.heap.size w).alloc (Nat.le_refl _) (.cells #[.int .u64 x0, .int .u64 x1, .int .u64 x2, .int .u64 x3, .int .u64 x4, .bool x5, .bool x6, .int .i64 x7] 157))
  have cr := Lib.hid (Cr.out _ tb1.out)
  clear t tb Cr
  go_enter Tryz.func90, Tryz.ntmps90
  go_wp2_with fail
  refine cr.out.mono ?_
  rintro e w1 ⟨rfl, k1⟩
  have t2 := Lib.hid (t1.out.below k1)
  have B2 := Lib.hid (B1.out.step k1)
  have b2 := Lib.hid (b1.out.trans (k1.mono b1.out.size))
  clear k1 cr t1 tb1 B1 b1
  cases rt with
  | false =>
    have hres := Lib.hid (Hw.out (by trivial))
    go_wp2_with fail
    go_ret2
    exact ⟨by rw [hres.out]; rfl, b2.out⟩
  | true =>
    replace Co := Lib.hid (Co.out (by trivial))
    replace H3 := Lib.hid (H3.out (by trivial))
    obtain ⟨a1, a2⟩ := Ha.out (by trivial)
    obtain ⟨a, ha⟩ : ∃ a : Nat, (a : Int) = st := ⟨st.toNat, by have := hst.out; omega⟩
    have ha9 : a ≤ 1000000000000000000 := by have := hst.out; omega
    have e1 : IntKind.i64.wrap (bh + x7) = bh + x7 := IntWalk.i64_in _ (by omega)
    have e2 : max (bh + x7) 0 = (a : Int) := by rw [ha, hst.out]
    replace ha := Lib.hid ha
    clear Hw Ha hst
    have co := Lib.hid (Co.out a w1.drew ha9 (t2.out.below (Below.refl _ _).drew))
    have hcA := B2.out.all
    have hcB := (B2.out.step (Below.refl _ _).drew).all
    have hb : Hid (Below w1.heap.size w1 w1.drew) := (Below.refl _ _).drew
    clear Co
    go_wp2_with fail
    go_region_held3 (fun w' => w'.cell? ⟨w.heap.size, 0, none⟩ = some (.int .u64 x0) ∧ w'.cell? ⟨w.heap.size, 1, none⟩ = some (.int .u64 x1) ∧ w'.cell? ⟨w.heap.size, 2, none⟩ = some (.int .u64 x2) ∧ w'.cell? ⟨w.heap.size, 3, none⟩ = some (.int .u64 x3) ∧ w'.cell? ⟨w.heap.size, 4, none⟩ = some (.int .u64 x4) ∧ w'.cell? ⟨w.heap.size, 5, none⟩ = some (.bool x5) ∧ w'.cell? ⟨w.heap.size, 6, none⟩ = some (.bool x6) ∧ w'.cell? ⟨w.heap.size, 7, none⟩ = some (.int .i64 x7)) (first | (with_reducible exact hc6) | (with_reducible exact hcB) | (with_reducible exact hcA) | go_keep)
      (first
        | (go_at_call 126; (with_reducible refine (Cb.out _).mono ?_); rintro e w6 ⟨rfl, rfl⟩)
        | (go_at_call 125; (with_reducible refine co.out.mono ?_); rintro e w6 ⟨⟨r, hr, rfl⟩, k6⟩; unfold answerF; replace hb := Lib.hid (hb.out.trans (k6.mono hb.out.size)); have hc6 := (B2.out.step hb.out).all; replace hr := Lib.hid hr; clear k6))
    all_goals
      have q7 := hc6.2.2.2.2.2.2.2
      replace b2 := Lib.hid (b2.out.trans (hb.out.mono b2.out.size))
      clear hcA hcB hc6 hb co e1 e2 t2 B2
      have cl := Lib.hid (V.last_any w6)
      cases r with
      | none =>
        have fin := Lib.hid (H1.out a ha.out hr.out)
        simp only [Option.getD_none, Option.isSome_none]
        go_wp2_with fail
        go_ret2
        exact ⟨by rw [fin.out]; rfl, b2.out⟩
      | some o =>
        have ho := Hb.out a o hr.out
        simp only [Option.getD_some, Option.isSome_some]
        by_cases hlast : ((o : Int) - x7) * 60 ≤ 253402300799
        · have fin := Lib.hid (H3.out a o ha.out hr.out hlast)
          go_wp2_with fail
          refine cl.out.mono ?_
          rintro e w7 ⟨rfl, rfl⟩
          go_wp2_with fail
          go_ret2
          exact ⟨by rw [fin.out]; rfl, b2.out⟩
        · have fin := Lib.hid (H2.out a o ha.out hr.out (by unfold last; omega))
          go_wp2_with fail
          refine cl.out.mono ?_
          rintro e w7 ⟨rfl, rfl⟩
          go_wp2_with fail
          go_ret2
          exact ⟨by rw [fin.out]; rfl, b2.out⟩
/-! Is. -/
end Go.Proofs.YtoihekgmomjhpaaGreatDoor
