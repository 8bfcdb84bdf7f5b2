/-
  Texts laid into one (a claim has 60 files at most): NSync, VMath, NMath, NList, NNum, VYear, VMonth, VDays.
-/
import Derived.Test.YtoihekgmomjhpaaGreatDoorKC1
import Derived.Defers
import Derived.Laws.Pointers
import Derived.Laws.LoneSync
import Derived.Laws.NewBlocks
import Derived.RegionTactic
import Derived.RegionCalls
import Derived.ChangeAlike
import Derived.Test.YtoihekgmomjhpaaGreatDoorKC2
import Derived.Lib.TrailingZeros
import Derived.Laws.Bits64b
import Derived.Test.YtoihekgmomjhpaaGreatDoorRows
import Derived.Lib.Hide
import Derived.WalkKit
import Derived.WalkSpells
import Derived.WalkLawsBesides
import Derived.Lib.LaidTab
/-
  The parts of sync.Once and sync/atomic in one goroutine: the lock, the flag and the counter, each a contract of its own. Condition: the cells that are read hold what is said.
-/
namespace Go.Proofs.YtoihekgmomjhpaaGreatDoor
open Go.RowKit
theorem disable (w : World) : (callFunc 176 #[]).run Tryz.prog w = .ok (.value (.tuple #[])) w := run_call_mark0 Tryz.func176 (by kernel_rfl) (by kernel_rfl) (by kernel_rfl) .disable (by kernel_rfl) w
theorem enable (w : World) : (callFunc 178 #[]).run Tryz.prog w = .ok (.value (.tuple #[])) w := run_call_mark0 Tryz.func178 (by kernel_rfl) (by kernel_rfl) (by kernel_rfl) .enable (by kernel_rfl) w
theorem acquire (a : Addr) (w : World) : (callFunc 179 #[.pointer (some a)]).run Tryz.prog w = .ok (.value (.tuple #[])) w := run_call_marked Tryz.func179 (by kernel_rfl) (by kernel_rfl) (by kernel_rfl) .acquire (by kernel_rfl) a w
theorem releaseMerge (a : Addr) (w : World) : (callFunc 181 #[.pointer (some a)]).run Tryz.prog w = .ok (.value (.tuple #[])) w := run_call_marked Tryz.func181 (by kernel_rfl) (by kernel_rfl) (by kernel_rfl) .releaseMerge (by kernel_rfl) a w
/-- '(*sync/atomic.Bool).Store(true)', entered as a deferred call. -/
theorem store_deferred (a : Addr) (x : Value) (u : FrameMode) (w : World) (hc : w.cell? a = some x) (hz : w.frozen? a = false) :
    CallsD Tryz.prog 156 #[.pointer (some a), .bool true] u w fun e u' w' => u' = u ∧ (e = .returned (.tuple #[]) ∧ w' = w.drew.setCell a (.int .u32 1)) := by
  have hc' : w.drew.cell? a = some x := by go_simp
  have hz' : w.drew.frozen? a = false := by go_simp
  have hst := run_call_store (P := Tryz.prog) Tryz.func184 (by kernel_rfl) (by kernel_rfl) (by kernel_rfl) (by kernel_rfl) (k := .u32) (y := 1) hc' hz'
  go_enter_d Tryz.func156, Tryz.ntmps156
  go_wp2
  go_region_calls
  all_goals (go_end0; exact ⟨rfl, rfl⟩)
set_option maxRecDepth 100000 in
/-- '(*sync.Mutex).Unlock', entered as a deferred call, the lock held and nobody waiting. -/
theorem unlock_deferred (a : Addr) (u : FrameMode) (w : World) (hc : w.cell? a = some (.int .i32 1)) (hz : w.frozen? a = false) :
    CallsD Tryz.prog 117 #[.pointer (some a)] u w fun e u' w' => u' = u ∧ (e = .returned (.tuple #[]) ∧ w' = w.setCell a (.int .i32 0)) := by
  have hd := disable
  have he := enable
  have hr := releaseMerge
  have hadd := run_call_add (P := Tryz.prog) Tryz.func182 (by kernel_rfl) (by kernel_rfl) (by kernel_rfl) .i32 (by kernel_rfl) (y := -1) (s := 0) hc hz (by simp [go_sem]; rfl)
  have hcv := run_convert_to_unsafe (P := Tryz.prog) (src := 259) (dst := 263) Tryz.underlying259 Tryz.underlying263 (by kernel_rfl) hc
  go_enter_d Tryz.func117, Tryz.ntmps117
  go_wp2
  go_end0
  go_wp2
  go_end0
  exact ⟨rfl, rfl⟩
set_option maxRecDepth 100000 in
/-- '(*sync.Mutex).Lock', the lock free. -/
theorem lock_free (a : Addr) (w : World) (hc : w.cell? a = some (.int .i32 0)) (hz : w.frozen? a = false) :
    Calls Tryz.prog 116 #[.pointer (some a)] w fun e w' => e = .returned (.tuple #[]) ∧ w' = w.setCell a (.int .i32 1) := by
  have hd := disable
  have he := enable
  have ha := acquire
  have hcas := run_call_cas_hit (P := Tryz.prog) Tryz.func177 (by kernel_rfl) (by kernel_rfl) (by kernel_rfl) .i32 (by kernel_rfl) (y := 1) hc hz
  have hc' : (w.setCell a (.int .i32 1)).cell? a = some (.int .i32 1) := World.cell?_setCell_same w a _ hc
  have hcv := run_convert_to_unsafe (P := Tryz.prog) (src := 259) (dst := 263) Tryz.underlying259 Tryz.underlying263 (by kernel_rfl) hc'
  go_enter Tryz.func116, Tryz.ntmps116
  go_wp2
  first | go_end0 | (simp only [Exit.inBlock, Exit.then]; refine bodyPost_ret (results_none rfl _ _ _) rfl ?_) | refine bodyPost_ret (results_none rfl _ _ _) rfl ?_
  go_wp2
  go_end0
  exact ⟨rfl, rfl⟩
/-- '(*sync/atomic.Bool).Load'. -/
theorem boolLoad (a : Addr) (d : Int) (w : World) (h0 : w.cell? a = some (.int .u32 d)) :
    Calls Tryz.prog 118 #[.pointer (some a)] w fun e w' => e = .returned (.bool (d != 0)) ∧ w = w' := by
  have hl := run_call_load (P := Tryz.prog) Tryz.func155 (by kernel_rfl) (by kernel_rfl) (by kernel_rfl) .u32 (by kernel_rfl) h0
  go_enter Tryz.func118, Tryz.ntmps118
  go_wp2
  go_ret
  exact ⟨rfl, rfl⟩
/-- '(*sync/atomic.Int64).Add(1)'. -/
theorem int64Add (a : Addr) (d : Nat) (w : World) (hd : d ≤ 1000000) (hc : w.cell? a = some (.int .i64 d)) (hz : w.frozen? a = false) :
    Calls Tryz.prog 85 #[.pointer (some a), .int .i64 1] w fun e w' => e = .returned (.int .i64 (d + 1 : Nat)) ∧ w' = w.setCell a (.int .i64 (d + 1 : Nat)) := by
  have hadd := run_call_add (P := Tryz.prog) Tryz.func115 (by kernel_rfl) (by kernel_rfl) (by kernel_rfl) .i64 (by kernel_rfl) (y := 1) (s := (d + 1 : Nat)) hc hz (by simp [go_sem]; exact (IntWalk.i64_in _ (by omega)))
  go_enter Tryz.func85, Tryz.ntmps85
  go_wp2
  go_ret
  exact ⟨rfl, rfl⟩
theorem not_run : ∀ (x : Bool) (w : World), (Op.unary .not (.bool x)).run Tryz.prog w = .ok (.bool (!x)) w := fun _ _ => rfl
end Go.Proofs.YtoihekgmomjhpaaGreatDoor

/-
  The calendar in plain numbers (no program): leap years, how many days go by ahead of a year and of a month, and what it is for the day n to be the date y, m, d; a day has one date and a date one day, in the same order.
-/
namespace Civ
def leap (y : Nat) : Bool := y % 4 == 0 && y % 100 != 0 || y % 400 == 0
/-- Leap years from the year 1 on, ahead of that one. -/
def lb (y : Nat) : Nat := (y - 1) / 4 - (y - 1) / 100 + (y - 1) / 400
/-- Days from the day 0 to the first one of a year. -/
def ay (y : Nat) : Nat := (y - 1970) * 365 + lb y - 477
def tab : List Nat := [0, 31, 59, 90, 120, 151, 181, 212, 243, 273, 304, 334, 365]
/-- Days of its year ahead of a month. -/
def am (y m : Nat) : Nat := tab.getD (m - 1) 0 + if 2 < m ∧ leap y = true then 1 else 0
def long (y m : Nat) : Nat := am y (m + 1) - am y m
theorem months {m : Nat} (h1 : 1 ≤ m) (h2 : m ≤ 12) : m = 1 ∨ m = 2 ∨ m = 3 ∨ m = 4 ∨ m = 5 ∨ m = 6 ∨ m = 7 ∨ m = 8 ∨ m = 9 ∨ m = 10 ∨ m = 11 ∨ m = 12 := by omega
theorem long_is (y : Nat) {m : Nat} (h1 : 1 ≤ m) (h2 : m ≤ 12) :
    am y (m + 1) = am y m + long y m ∧ 28 ≤ long y m ∧ long y m ≤ 31 ∧ long y m = if m = 2 then (if leap y = true then 29 else 28) else if m = 4 ∨ m = 6 ∨ m = 9 ∨ m = 11 then 30 else 31 := by
  unfold long
  cases hl : leap y <;> rcases months h1 h2 with rfl | rfl | rfl | rfl | rfl | rfl | rfl | rfl | rfl | rfl | rfl | rfl <;> simp [am, tab, hl]
theorem am_step (y : Nat) {m : Nat} (h1 : 1 ≤ m) (h2 : m ≤ 12) : am y (m + 1) = am y m + long y m := (long_is y h1 h2).1
theorem long_ge (y : Nat) {m : Nat} (h1 : 1 ≤ m) (h2 : m ≤ 12) : 28 ≤ long y m := (long_is y h1 h2).2.1
theorem long_le (y : Nat) {m : Nat} (h1 : 1 ≤ m) (h2 : m ≤ 12) : long y m ≤ 31 := (long_is y h1 h2).2.2.1
theorem am_one (y : Nat) : am y 1 = 0 := by simp [am, tab]
theorem am_end (y : Nat) : am y 13 = if leap y = true then 366 else 365 := by cases hl : leap y <;> simp [am, tab, hl]
theorem am_mono (y : Nat) {a b : Nat} (h1 : 1 ≤ a) (hab : a ≤ b) (h2 : b ≤ 13) : am y a ≤ am y b := by
  obtain ⟨k, rfl⟩ : ∃ k, b = a + k := ⟨b - a, by omega⟩
  induction k with
  | zero => exact Nat.le_refl _
  | succ k ih =>
    have := am_step y (m := a + k) (by omega) (by omega)
    have := ih (by omega) (by omega)
    show am y a ≤ am y (a + k + 1)
    omega
theorem leap_true {y : Nat} : leap y = true ↔ (y % 4 = 0 ∧ y % 100 ≠ 0) ∨ y % 400 = 0 := by
  unfold leap; simp
theorem ay_first : ay 1970 = 0 := by decide
theorem ay_last : ay 10000 = 2932897 := by decide
theorem quo_step (y k : Nat) (h : 1 ≤ y) : y / k = (y - 1) / k + if y % k = 0 then 1 else 0 := by
  obtain ⟨z, rfl⟩ : ∃ z, y = z + 1 := ⟨y - 1, by omega⟩
  rw [Nat.add_sub_cancel, Nat.succ_div]
  simp [Nat.dvd_iff_mod_eq_zero]
theorem ay_step {y : Nat} (h : 1970 ≤ y) : ay (y + 1) = ay y + am y 13 := by
  rw [am_end]
  have q4 := quo_step y 4 (by omega)
  have q1 := quo_step y 100 (by omega)
  have q2 := quo_step y 400 (by omega)
  have g4 : 492 ≤ (y - 1) / 4 := by omega
  have g1 : (y - 1) / 100 * 25 ≤ (y - 1) / 4 := by omega
  have g2 : 4 ≤ (y - 1) / 400 := by omega
  have m1 : y % 100 = 0 → y % 4 = 0 := by omega
  have m2 : y % 400 = 0 → y % 100 = 0 := by omega
  have hl := leap_true (y := y)
  unfold ay lb
  rw [Nat.add_sub_cancel, q4, q1, q2]
  have g5 : 477 ≤ (y - 1) / 4 - (y - 1) / 100 + (y - 1) / 400 := by omega
  clear q4 q1 q2
  generalize (y - 1) / 4 = a at *
  generalize (y - 1) / 100 = b at *
  generalize (y - 1) / 400 = c at *
  by_cases l : leap y = true
  · rw [if_pos l]
    rcases hl.1 l with ⟨l1, l2⟩ | l1
    · rw [if_pos l1, if_neg l2, if_neg (fun e => l2 (m2 e))]; omega
    · rw [if_pos (m1 (m2 l1)), if_pos (m2 l1), if_pos l1]; omega
  · rw [if_neg l]
    have l4 : y % 400 ≠ 0 := fun e => l (hl.2 (Or.inr e))
    rw [if_neg l4]
    by_cases l1 : y % 100 = 0
    · rw [if_pos (m1 l1), if_pos l1]; omega
    · have l2 : y % 4 ≠ 0 := fun e => l (hl.2 (Or.inl ⟨e, l1⟩))
      rw [if_neg l2, if_neg l1]; omega
theorem am_end_ge (y : Nat) : 365 ≤ am y 13 := by rw [am_end]; split <;> omega
theorem am_end_le (y : Nat) : am y 13 ≤ 366 := by rw [am_end]; split <;> omega
theorem ay_mono {a b : Nat} (h : 1970 ≤ a) (hab : a ≤ b) : ay a ≤ ay b := by
  obtain ⟨k, rfl⟩ : ∃ k, b = a + k := ⟨b - a, by omega⟩
  induction k with
  | zero => exact Nat.le_refl _
  | succ k ih =>
    have := ay_step (y := a + k) (by omega)
    have := ih (by omega)
    show ay a ≤ ay (a + k + 1)
    omega
theorem ay_ge {y : Nat} (h : 1970 ≤ y) : (y - 1970) * 365 ≤ ay y := by
  unfold ay lb; omega
theorem ay_le {y : Nat} (h : 1970 ≤ y) : ay y ≤ (y - 1970) * 366 := by
  obtain ⟨k, rfl⟩ : ∃ k, y = 1970 + k := ⟨y - 1970, by omega⟩
  induction k with
  | zero => decide
  | succ k ih =>
    have := ay_step (y := 1970 + k) (by omega)
    have := ih (by omega)
    have := am_end_le (1970 + k)
    show ay (1970 + k + 1) ≤ _
    omega
/-- The day n is the date y, m, d. -/
structure Day (n y m d : Nat) : Prop where
  y1 : 1970 ≤ y
  y2 : y ≤ 9999
  m1 : 1 ≤ m
  m2 : m ≤ 12
  d1 : 1 ≤ d
  d2 : d ≤ long y m
  e : n + 1 = ay y + am y m + d
theorem Day.lt {n y m d : Nat} (h : Day n y m d) : n < 2932897 := by
  have h1 := am_step y h.m1 h.m2
  have h2 := am_mono y (a := m + 1) (b := 13) (by omega) (by have := h.m2; omega) (by omega)
  have h3 := ay_step h.y1
  have h4 := ay_mono (a := y + 1) (b := 10000) (by have := h.y1; omega) (by have := h.y2; omega)
  have h5 := ay_last
  have := h.d2; have := h.e
  omega
/-- Dates stand in the order of their days. -/
theorem Day.less {n y m d n' y' m' d' : Nat} (h : Day n y m d) (h' : Day n' y' m' d') (l : y < y' ∨ y = y' ∧ (m < m' ∨ m = m' ∧ d < d')) : n < n' := by
  have h1 := am_step y h.m1 h.m2
  have := h.d2; have := h.e; have := h'.e; have := h'.d1
  rcases l with l | ⟨rfl, l | ⟨rfl, l⟩⟩
  · have h2 := am_mono y (a := m + 1) (b := 13) (by omega) (by have := h.m2; omega) (by omega)
    have h3 := ay_step h.y1
    have h4 := ay_mono (a := y + 1) (b := y') (by have := h.y1; omega) (by omega)
    omega
  · have h2 := am_mono y (a := m + 1) (b := m') (by omega) (by omega) (by have := h'.m2; omega)
    omega
  · omega
theorem Day.same {n y m d n' y' m' d' : Nat} (h : Day n y m d) (h' : Day n' y' m' d') (e : n = n') : y = y' ∧ m = m' ∧ d = d' := by
  subst e
  have a := h.less h'
  have b := h'.less h
  omega
theorem Day.one {n y m d n' : Nat} (h : Day n y m d) (h' : Day n' y m d) : n = n' := by
  have := h.e; have := h'.e; omega
/-- The year that has the day n, the month, the day. -/
theorem Day.mk' {n y m : Nat} (y1 : 1970 ≤ y) (h1 : ay y ≤ n) (hn : n < 2932897) (m1 : 1 ≤ m) (m2 : m ≤ 12) (h3 : am y m ≤ n - ay y) (h4 : n - ay y < am y (m + 1)) : Day n y m (n - ay y - am y m + 1) := by
  have y2 : y ≤ 9999 := by
    rcases Nat.lt_or_ge y 10000 with h | h
    · omega
    · have := ay_mono (a := 10000) (b := y) (by omega) h
      have := ay_last
      omega
  have := am_step y m1 m2
  exact ⟨y1, y2, m1, m2, by omega, by omega, by omega⟩
/-- The date of the next day. -/
theorem Day.next {n y m d : Nat} (h : Day n y m d) :
    (d < long y m ∧ Day (n + 1) y m (d + 1)) ∨ (d = long y m ∧ m < 12 ∧ Day (n + 1) y (m + 1) 1) ∨ (d = long y m ∧ m = 12 ∧ y < 9999 ∧ Day (n + 1) (y + 1) 1 1) ∨ (y = 9999 ∧ m = 12 ∧ d = 31 ∧ n = 2932896) := by
  have s := am_step y h.m1 h.m2
  obtain ⟨y1, y2, m1, m2, d1, d2, e⟩ := h
  rcases Nat.lt_or_ge d (long y m) with hd | hd
  · exact Or.inl ⟨hd, y1, y2, m1, m2, by omega, by omega, by omega⟩
  · have hd' : d = long y m := by omega
    rcases Nat.lt_or_ge m 12 with hm | hm
    · have := long_ge y (m := m + 1) (by omega) (by omega)
      exact Or.inr (Or.inl ⟨hd', hm, y1, y2, by omega, by omega, by omega, by omega, by omega⟩)
    · obtain rfl : m = 12 := by omega
      replace s : am y 13 = am y 12 + long y 12 := s
      have s2 := ay_step y1
      rcases Nat.lt_or_ge y 9999 with hy | hy
      · have := long_ge (y + 1) (m := 1) (by omega) (by omega)
        have := am_one (y + 1)
        exact Or.inr (Or.inr (Or.inl ⟨hd', rfl, hy, by omega, by omega, by omega, by omega, by omega, by omega, by omega⟩))
      · obtain rfl : y = 9999 := by omega
        have l : long 9999 12 = 31 := by decide
        replace s2 : ay 10000 = ay 9999 + am 9999 13 := s2
        have := ay_last
        exact Or.inr (Or.inr (Or.inr ⟨rfl, rfl, by omega, by omega⟩))
end Civ

/-
  When a spec is at a second (no program): its days and minutes, that some day like any other lies within forty years ahead of it, and how far the next time can be.
-/
set_option linter.unusedVariables false
namespace Nxt
open Civ Crn
/-- The spec is on the day n. -/
def On (x : SpecN) (n : Nat) : Prop := ∃ y m d, Day n y m d ∧ day x (m : Int) (d : Int) ((n + 4) % 7 : Nat) = true
/-- The spec is at the minute i of a day. -/
def Clock (x : SpecN) (i : Nat) : Prop := i < 1440 ∧ minute x ((i / 60 : Nat) : Int) ((i % 60 : Nat) : Int) = true
def last : Int := 253402300799
/-- The spec is at the second s: its own clock then stands at the minute i of the day n. -/
structure At (x : SpecN) (s : Int) : Prop where
  right : right x = true
  lo : 0 ≤ s
  hi : s ≤ last
  own : ∃ n i : Nat, On x n ∧ Clock x i ∧ s + 60 * x.ahead = 86400 * (n : Int) + 60 * (i : Int)
theorem On.lt {x : SpecN} {n : Nat} (h : On x n) : n < 2932897 := by
  obtain ⟨y, m, d, hd, _⟩ := h
  exact hd.lt
/-! A day like it, within forty years. -/
theorem back_four : ∀ r, r < 400 → ∃ k, k < 41 ∧ (1 ≤ k ∧ leap (2010 + r - k) = leap (2010 + r) ∧ (ay (2010 + r) - ay (2010 + r - k)) % 7 = 0 ∧ ay (2010 + r) - ay (2010 + r - k) ≤ 14610 ∧ ay (2010 + r - k) < ay (2010 + r)) := by
  have key : ∀ r, r < 400 → ((List.range 41).any fun k => decide (1 ≤ k) && (leap (2010 + r - k) == leap (2010 + r)) && (ay (2010 + r) - ay (2010 + r - k)) % 7 == 0 && decide (ay (2010 + r) - ay (2010 + r - k) ≤ 14610) && decide (ay (2010 + r - k) < ay (2010 + r))) = true := by decide +kernel
  intro r hr
  obtain ⟨k, hk, h⟩ := List.any_eq_true.1 (key r hr)
  simp only [Bool.and_eq_true, decide_eq_true_eq, beq_iff_eq] at h
  exact ⟨k, List.mem_range.1 hk, h.1.1.1.1, h.1.1.1.2, h.1.1.2, h.1.2, h.2⟩
theorem leap_four (y q : Nat) : leap (y + 400 * q) = leap y := by
  unfold leap
  rw [show (y + 400 * q) % 4 = y % 4 by omega, show (y + 400 * q) % 100 = y % 100 by omega, show (y + 400 * q) % 400 = y % 400 by omega]
theorem ay_four {y : Nat} (h : 1970 ≤ y) (q : Nat) : ay (y + 400 * q) = ay y + 146097 * q := by
  have g1 : (y + 400 * q - 1) / 4 = (y - 1) / 4 + 100 * q := by omega
  have g2 : (y + 400 * q - 1) / 100 = (y - 1) / 100 + 4 * q := by omega
  have g3 : (y + 400 * q - 1) / 400 = (y - 1) / 400 + q := by omega
  have e1 : 492 ≤ (y - 1) / 4 := by omega
  have e2 : (y - 1) / 100 * 25 ≤ (y - 1) / 4 := by omega
  have e3 : 4 ≤ (y - 1) / 400 := by omega
  unfold ay lb
  rw [g1, g2, g3]
  generalize (y - 1) / 4 = a at *
  generalize (y - 1) / 100 = b at *
  generalize (y - 1) / 400 = c at *
  omega
theorem back_year {y : Nat} (h : 2010 ≤ y) : ∃ z, 1970 ≤ z ∧ z < y ∧ leap z = leap y ∧ (ay y - ay z) % 7 = 0 ∧ ay y - ay z ≤ 14610 ∧ ay z < ay y := by
  obtain ⟨r, q, hr, rfl⟩ : ∃ r q, r < 400 ∧ y = 2010 + r + 400 * q := ⟨(y - 2010) % 400, (y - 2010) / 400, by omega, by omega⟩
  obtain ⟨k, hk, h1, h2, h3, h4, h5⟩ := back_four r hr
  refine ⟨2010 + r - k + 400 * q, by omega, by omega, ?_, ?_, ?_, ?_⟩
  · rw [leap_four, leap_four, h2]
  · rw [ay_four (by omega), ay_four (by omega), Nat.add_sub_add_right]; exact h3
  · rw [ay_four (by omega), ay_four (by omega), Nat.add_sub_add_right]; exact h4
  · rw [ay_four (by omega), ay_four (by omega)]; omega
theorem am_leap {y z m : Nat} (h : leap z = leap y) : am z m = am y m := by unfold am; rw [h]
theorem long_leap {y z m : Nat} (h : leap z = leap y) : long z m = long y m := by unfold long; rw [am_leap h, am_leap h]
theorem ay_2010 : ay 2010 = 14610 := by decide
theorem On.back {x : SpecN} {n : Nat} (h : On x n) (hn : 14610 ≤ n) : ∃ k, k < n ∧ n ≤ k + 14610 ∧ On x k := by
  obtain ⟨y, m, d, hd, ho⟩ := h
  have hy : 2010 ≤ y := by
    rcases Nat.lt_or_ge y 2010 with hlt | hge
    · have h1 := am_step y hd.m1 hd.m2
      have h2 := am_mono y (a := m + 1) (b := 13) (by omega) (by have := hd.m2; omega) (by omega)
      have h3 := ay_step hd.y1
      have h4 := ay_mono (a := y + 1) (b := 2010) (by have := hd.y1; omega) (by omega)
      have := ay_2010; have := hd.d2; have := hd.e
      omega
    · exact hge
  obtain ⟨z, z1, z2, z3, z4, z5, z6⟩ := back_year hy
  have he := hd.e
  have hd1 := hd.d1
  refine ⟨n - (ay y - ay z), by omega, by omega, z, m, d, ⟨z1, by have := hd.y2; omega, hd.m1, hd.m2, hd.d1, by rw [long_leap z3]; exact hd.d2, by rw [am_leap z3]; omega⟩, ?_⟩
  rw [show (n - (ay y - ay z) + 4) % 7 = (n + 4) % 7 by omega]
  exact ho
/-- Where the spec is on a day behind k, it is on one that is at most 14610 days behind k. -/
theorem On.window {x : SpecN} {n k : Nat} (h : On x n) (hk : k ≤ n) : ∃ j, k ≤ j ∧ j ≤ n ∧ j ≤ k + 14610 ∧ On x j := by
  induction n using Nat.strongRecOn with
  | ind n ih =>
    rcases Nat.lt_or_ge (k + 14610) n with hlt | hge
    · obtain ⟨j, h1, h2, h3⟩ := h.back (by omega)
      obtain ⟨i, i1, i2, i3, i4⟩ := ih j h1 h3 (by omega)
      exact ⟨i, i1, by omega, i3, i4⟩
    · exact ⟨n, hk, Nat.le_refl _, hge, h⟩
/-! Some minute. -/
theorem okSet_some {f set : Nat} (hf : f < 5) (h : okSet f set = true) : ∃ n, low f ≤ n ∧ n ≤ top f ∧ set.testBit n = true := by
  have hne := members_ne hf h
  cases hm : members set with
  | nil => exact absurd hm hne
  | cons a r =>
    have ha : a ∈ members set := by rw [hm]; simp
    obtain ⟨_, ht⟩ := mem_members.1 ha
    obtain ⟨_, h1, h2⟩ := sub_bit hf (okSet_iff.1 h).2 ht
    exact ⟨a, h1, h2, ht⟩
theorem has_bit {set n : Nat} (h : n < 64) : has set (n : Int) = set.testBit n := by
  unfold has
  rw [Int.toNat_natCast, show decide (0 ≤ (n : Int) ∧ (n : Int) ≤ 63) = true by simp; omega]
  exact Bool.true_and _
theorem some_clock {x : SpecN} (h : right x = true) : ∃ i, Clock x i := by
  obtain ⟨h0, h1, _⟩ := right_parts h
  obtain ⟨a, a1, a2, a3⟩ := okSet_some (by omega) h0
  obtain ⟨b, b1, b2, b3⟩ := okSet_some (by omega) h1
  have a2' : a ≤ 59 := a2
  have b2' : b ≤ 23 := b2
  refine ⟨60 * b + a, by omega, ?_⟩
  unfold minute
  rw [show (60 * b + a) / 60 = b by omega, show (60 * b + a) % 60 = a by omega, has_bit (by omega), has_bit (by omega), a3, b3]
  rfl
/-- What Next answers. -/
def IsNext (x : SpecN) (after : Int) : Option Int → Prop
  | some s => At x s ∧ after < s ∧ ∀ t, after < t → t < s → ¬ At x t
  | none => ∀ t, after < t → ¬ At x t
theorem IsNext.one {x : SpecN} {after : Int} {a b : Option Int} (ha : IsNext x after a) (hb : IsNext x after b) : a = b := by
  cases a with
  | none =>
    cases b with
    | none => rfl
    | some s => exact absurd hb.1 (ha s hb.2.1)
  | some s =>
    cases b with
    | none => exact absurd ha.1 (hb s ha.2.1)
    | some t =>
      have h1 : ¬ t < s := fun h => ha.2.2 t hb.2.1 h hb.1
      have h2 : ¬ s < t := fun h => hb.2.2 s ha.2.1 h ha.1
      rw [show s = t by omega]
end Nxt

/-
  The times of a spec between two seconds as a list, what Next answers as a function, and what a clock that is ahead changes (no program).
-/
set_option linter.unusedVariables false
namespace Nxt
open Civ Crn
theorem at_minute {x : SpecN} {s : Int} (h : At x s) : s % 60 = 0 := by
  obtain ⟨n, i, _, _, e⟩ := h.own
  omega
/-! What comes next, as a function. -/
theorem exists_next (x : SpecN) (after : Int) : ∃ r, IsNext x after r := by
  by_cases h : ∃ t, after < t ∧ At x t
  · obtain ⟨t, h1, h2⟩ := h
    have key : ∀ k : Nat, ∀ t, after < t → At x t → t ≤ after + k → ∃ s, At x s ∧ after < s ∧ ∀ u, after < u → u < s → ¬ At x u := by
      intro k
      induction k with
      | zero => intro t a b c; omega
      | succ k ih =>
        intro t a b c
        by_cases hu : ∃ u, after < u ∧ u < t ∧ At x u
        · obtain ⟨u, u1, u2, u3⟩ := hu
          exact ih u u1 u3 (by omega)
        · exact ⟨t, b, a, fun u u1 u2 u3 => hu ⟨u, u1, u2, u3⟩⟩
    obtain ⟨s, s1, s2, s3⟩ := key (t - after).toNat t h1 h2 (by omega)
    exact ⟨some s, s1, s2, s3⟩
  · exact ⟨none, fun t h1 h2 => h ⟨t, h1, h2⟩⟩
noncomputable def nextN (x : SpecN) (after : Int) : Option Int := Classical.choose (exists_next x after)
theorem nextN_is (x : SpecN) (after : Int) : IsNext x after (nextN x after) := Classical.choose_spec (exists_next x after)
theorem nextN_of {x : SpecN} {after : Int} {r : Option Int} (h : IsNext x after r) : nextN x after = r := (nextN_is x after).one h
theorem nextN_bad {x : SpecN} (h : right x = false) (a : Int) : nextN x a = none := nextN_of fun t _ ht => by have := ht.right; rw [h] at this; cases this
theorem nextN_range {x : SpecN} {a s : Int} (h : nextN x a = some s) : a < s ∧ 0 ≤ s ∧ s ≤ last ∧ s % 60 = 0 := by
  have := nextN_is x a
  rw [h] at this
  exact ⟨this.2.1, this.1.lo, this.1.hi, at_minute this.1⟩
/-! The times between two seconds. -/
noncomputable def isAt (x : SpecN) (s : Int) : Bool := @decide (At x s) (Classical.propDecidable _)
theorem isAt_true {x : SpecN} {s : Int} : isAt x s = true ↔ At x s := by unfold isAt; exact @decide_eq_true_iff _ (Classical.propDecidable _)
/-- k seconds from a on. -/
def secs (a : Int) (k : Nat) : List Int := (List.range k).map fun (i : Nat) => a + (i : Int)
theorem secs_add (a : Int) (j k : Nat) : secs a (j + k) = secs a j ++ secs (a + j) k := by
  unfold secs
  rw [List.range_add, List.map_append, List.map_map]
  congr 1
  apply List.map_congr_left
  intro i _
  simp only [Function.comp]
  omega
theorem mem_secs {a t : Int} {k : Nat} : t ∈ secs a k ↔ a ≤ t ∧ t < a + k := by
  unfold secs
  simp only [List.mem_map, List.mem_range]
  constructor
  · rintro ⟨i, h1, rfl⟩; omega
  · rintro ⟨h1, h2⟩; exact ⟨(t - a).toNat, by omega, by omega⟩
/-- All times from a to b, both with them. -/
noncomputable def allN (x : SpecN) (a b : Int) : List Int := (secs a (b + 1 - a).toNat).filter (isAt x)
theorem allN_split (x : SpecN) {a m b : Int} (h1 : a ≤ m + 1) (h2 : m ≤ b) : allN x a b = allN x a m ++ allN x (m + 1) b := by
  unfold allN
  rw [← List.filter_append, show (b + 1 - a).toNat = (m + 1 - a).toNat + (b + 1 - (m + 1)).toNat by omega, secs_add, show a + ((m + 1 - a).toNat : Int) = m + 1 by omega]
theorem allN_none {x : SpecN} {a b : Int} (h : ∀ t, a ≤ t → t ≤ b → ¬ At x t) : allN x a b = [] := by
  unfold allN
  rw [List.filter_eq_nil_iff]
  intro t ht
  obtain ⟨h1, h2⟩ := mem_secs.1 ht
  rw [isAt_true]
  exact h t h1 (by omega)
theorem allN_empty (x : SpecN) {a b : Int} (h : b < a) : allN x a b = [] := allN_none fun t h1 h2 => by omega
theorem allN_one {x : SpecN} {s : Int} (h : At x s) : allN x s s = [s] := by
  unfold allN
  rw [show (s + 1 - s).toNat = 1 by omega]
  simp [secs, isAt_true.2 h]
/-- One time more. -/
theorem allN_next {x : SpecN} {a m s : Int} (h1 : a ≤ m + 1) (h : nextN x m = some s) : allN x a s = allN x a m ++ [s] := by
  have hn := nextN_is x m
  rw [h] at hn
  have h2 := hn.2.1
  rw [allN_split x (m := m) h1 (by omega), allN_split x (a := m + 1) (m := s - 1) (b := s) (by omega) (by omega), allN_none (a := m + 1) (b := s - 1) (fun t a b => hn.2.2 t (by omega) (by omega)), List.nil_append, show s - 1 + 1 = s by omega, allN_one hn.1]
theorem allN_end {x : SpecN} {a m b : Int} (h1 : a ≤ m + 1) (h2 : m ≤ b) (h : ∀ s, nextN x m = some s → b < s) : allN x a b = allN x a m := by
  rw [allN_split x h1 h2, allN_none (a := m + 1) (b := b) ?_, List.append_nil]
  intro t t1 t2 t3
  have hn := nextN_is x m
  cases hr : nextN x m with
  | none => rw [hr] at hn; exact hn t (by omega) t3
  | some s => rw [hr] at hn; exact hn.2.2 t (by omega) (by have := h s hr; omega) t3
/-! A clock that is ahead. -/
end Nxt

/-
  Layer 5: math/bits.TrailingZeros64 over its table, the program's numberFrom and minuteBehind.
-/
set_option linter.unusedVariables false
namespace Go.Proofs.YtoihekgmomjhpaaGreatDoor
open Go.RowKit Crn
/-- The library's table of de Bruijn's numbers lies in the world. -/
def Bru (w : World) : Prop := ∀ j, j < 64 → w.cell? ⟨0, j, none⟩ = some (.int .u8 (Lib.deBruijn64tab.getD j 0 : Nat))
theorem low_key (x a : Nat) (hx : x < 18446744073709551616) (hx0 : x ≠ 0) (hlow : x &&& (18446744073709551616 - x) = a) :
    IntKind.u64.wrap (bits BinOp.and IntKind.u64 (x : Int) (IntKind.u64.wrap (-(x : Int))) * 285870213051353865) / 288230376151711744 = ((a * 285870213051353865 % 18446744073709551616 / 288230376151711744 : Nat) : Int) := by
  have e1 : IntKind.u64.wrap (-(x : Int)) = ((18446744073709551616 - x : Nat) : Int) := by rw [IntKind.wrap_u64]; omega
  rw [e1, bits_and_u64_nat x _ hx (by omega), hlow, IntKind.wrap_u64]
  omega
set_option maxHeartbeats 1000000 in
theorem zeros_core (x k idx : Nat) (w : World) (hx0 : ((x : Int) == 0) = false)
    (key : IntKind.u64.wrap (bits BinOp.and IntKind.u64 (x : Int) (IntKind.u64.wrap (-(x : Int))) * 285870213051353865) / 288230376151711744 = (idx : Int))
    (hi : idx < 64) (hk : k < 64) (hcell : w.cell? ⟨0, idx, none⟩ = some (.int .u8 k)) :
    Calls Tryz.prog 111 #[.int .u64 x] w fun e w' => e = .returned (.int .i64 k) ∧ w = w' := by
  go_enter Tryz.func111, Tryz.ntmps111
  go_wp2_with (simp only [key])
  go_ret
  exact ⟨rfl, rfl⟩
theorem zeros_none (w : World) : Calls Tryz.prog 111 #[.int .u64 0] w fun e w' => e = .returned (.int .i64 64) ∧ w = w' := by
  go_enter Tryz.func111, Tryz.ntmps111
  go_wp2
  go_ret
  exact ⟨rfl, rfl⟩
theorem zeros_any (x : Nat) (hx : x < 18446744073709551616) (w : World) (t : Bru w) : Calls Tryz.prog 111 #[.int .u64 x] w fun e w' => e = .returned (.int .i64 (Lib.ctz 64 x : Nat)) ∧ w = w' := by
  by_cases hx0 : x = 0
  · subst hx0
    exact zeros_none w
  · obtain ⟨hlow, hk⟩ := Lib.lowest_bit 64 x hx0 hx
    obtain ⟨hi, htab⟩ := Lib.deBruijn64_at _ hk
    have hcell := t _ hi
    rw [htab] at hcell
    exact zeros_core x _ _ w (by simp; omega) (low_key x _ hx hx0 hlow) hi hk hcell
/-- The least number of a set, from one on. -/
def First (set a : Nat) : Option Nat → Prop
  | some n => a ≤ n ∧ n < 64 ∧ set.testBit n = true ∧ ∀ k, a ≤ k → k < n → set.testBit k = false
  | none => ∀ k, a ≤ k → set.testBit k = false
theorem rest_bit (set a k : Nat) : (set / 2 ^ a * 2 ^ a).testBit k = (decide (a ≤ k) && set.testBit k) := by
  rw [Nat.testBit_mul_two_pow]
  by_cases h : a ≤ k
  · rw [Nat.testBit_div_two_pow, show k - a + a = k by omega]
  · simp [h]
theorem zeros_first (x : Nat) (h0 : x ≠ 0) (hx : x < 18446744073709551616) : Lib.ctz 64 x < 64 ∧ x.testBit (Lib.ctz 64 x) = true ∧ ∀ k, k < Lib.ctz 64 x → x.testBit k = false := by
  obtain ⟨m, hm, hk⟩ := Lib.ctzFrom_spec 64 x (by omega) hx
  have e : Lib.ctz 64 x = Lib.ctzFrom 64 x := by simp [Lib.ctz, h0]
  rw [e]
  generalize Lib.ctzFrom 64 x = c at *
  subst hm
  refine ⟨hk, ?_, fun k h => ?_⟩
  · rw [Nat.mul_comm, Nat.testBit_mul_two_pow]
    simp
  · rw [Nat.mul_comm, Nat.testBit_mul_two_pow]
    simp
    omega
theorem first_of (set a : Nat) (hs : set < 18446744073709551616) : First set a (if set / 2 ^ a * 2 ^ a = 0 then none else some (Lib.ctz 64 (set / 2 ^ a * 2 ^ a))) := by
  have hle : set / 2 ^ a * 2 ^ a ≤ set := Nat.div_mul_le_self _ _
  have hb := rest_bit set a
  generalize set / 2 ^ a * 2 ^ a = r at *
  by_cases h0 : r = 0
  · rw [if_pos h0]
    intro k hk
    have := hb k
    rw [h0] at this
    simp [hk] at this
    exact this
  · rw [if_neg h0]
    obtain ⟨h1, h2, h3⟩ := zeros_first r h0 (by omega)
    generalize Lib.ctz 64 r = n at *
    rw [hb n] at h2
    simp at h2
    refine ⟨h2.1, h1, h2.2, fun k k1 k2 => ?_⟩
    have := h3 k k2
    rw [hb k] at this
    simpa [k1] using this
def answerF (r : Option Nat) (d : Nat) : Ending := .returned (.tuple #[.int .i64 (r.getD d : Nat), .bool r.isSome])
def Found (P : Option Nat → Prop) (d : Nat) (e : Ending) : Prop := ∃ r, P r ∧ e = answerF r d
set_option maxHeartbeats 400000 in
theorem numberFrom_any (set a : Nat) (hs : set < 18446744073709551616) (ha : a < 64) (w : World) (t : Bru w) :
    Calls Tryz.prog 189 #[.int .u64 set, .int .i64 a] w fun e w' => Found (First set a) 64 e ∧ w = w' := by
  have hF := Lib.hid (first_of set a hs)
  have hle : set / 2 ^ a * 2 ^ a ≤ set := Nat.div_mul_le_self _ _
  have hw : IntKind.u64.wrap ((set : Int) / 2 ^ a * 2 ^ a) = ((set / 2 ^ a * 2 ^ a : Nat) : Int) := by
    have e0 : (set : Int) / 2 ^ a * 2 ^ a = ((set / 2 ^ a * 2 ^ a : Nat) : Int) := by simp
    rw [e0]
    exact IntWalk.u64_in _ (by omega)
  have c1 := Lib.hid (zeros_any (set / 2 ^ a * 2 ^ a) (by omega) w t)
  generalize set / 2 ^ a * 2 ^ a = r at *
  clear hle t
  by_cases h0 : r = 0
  · have hr : Hid (answerF (if r = 0 then none else some (Lib.ctz 64 r)) 64 = .returned (.tuple #[.int .i64 (Lib.ctz 64 r : Nat), .bool false])) := by
      rw [if_pos h0, h0]
      rfl
    have e1 : ((r : Int) != 0) = false := by simp [h0]
    clear h0
    go_enter Tryz.func189, Tryz.ntmps189
    go_wp2_with (simp only [hw])
    refine c1.out.mono ?_
    rintro e w' ⟨rfl, rfl⟩
    go_wp2_with fail
    go_ret2
    exact ⟨⟨_, hF.out, by rw [hr.out]; rfl⟩, rfl⟩
  · have hr : Hid (answerF (if r = 0 then none else some (Lib.ctz 64 r)) 64 = .returned (.tuple #[.int .i64 (Lib.ctz 64 r : Nat), .bool true])) := by
      rw [if_neg h0]
      rfl
    have e1 : ((r : Int) != 0) = true := by simp [h0]
    clear h0
    go_enter Tryz.func189, Tryz.ntmps189
    go_wp2_with (simp only [hw])
    refine c1.out.mono ?_
    rintro e w' ⟨rfl, rfl⟩
    go_wp2_with fail
    go_ret2
    exact ⟨⟨_, hF.out, by rw [hr.out]; rfl⟩, rfl⟩
/-- The first whole minute behind a second. -/
def behind (s : Int) : Int := if s < 0 then 0 else s / 60 + 1
theorem minuteBehind_any (s : Int) (w : World) (h1 : -9223372036854775808 ≤ s) (h2 : s ≤ 9223372036854775807) :
    Calls Tryz.prog 126 #[.int .i64 s] w fun e w' => e = .returned (.int .i64 (behind s)) ∧ w = w' := by
  by_cases h : s < 0
  · have hb : Hid (behind s = 0) := if_pos h
    go_enter Tryz.func126, Tryz.ntmps126
    go_wp2_with fail
    go_ret
    exact ⟨ret_int (by rw [hb.out]), rfl⟩
  · have hb : Hid (behind s = s / 60 + 1) := if_neg h
    go_enter Tryz.func126, Tryz.ntmps126
    go_wp2_with fail
    go_ret
    exact ⟨ret_int (by rw [hb.out]), rfl⟩
end Go.Proofs.YtoihekgmomjhpaaGreatDoor

/-
  Years: isLeap, leapsBefore and aheadOfYear of the program, leap and year of the document, for every year that they are asked for here.
-/
namespace Go.Proofs.YtoihekgmomjhpaaGreatDoor.V
open Go.RowKit Civ
theorem ret_int {k : IntKind} {a b : Int} (h : a = b) : Ending.returned (.int k a) = .returned (.int k b) := by rw [h]
theorem ret_bool {a b : Bool} (h : a = b) : Ending.returned (.bool a) = .returned (.bool b) := by rw [h]
set_option maxHeartbeats 400000 in
theorem leapsBefore_any (y : Nat) (w : World) (h1 : 1 ≤ y) (h2 : y ≤ 100000) :
    Calls Tryz.prog 195 #[.int .i64 y] w fun e w' => e = .returned (.int .i64 (lb y : Nat)) ∧ w = w' := by
  obtain ⟨z, rfl⟩ : ∃ z, y = z + 1 := ⟨y - 1, by omega⟩
  go_enter Tryz.func195, Tryz.ntmps195
  go_wp2
  go_ret
  exact ⟨ret_int (by unfold lb; omega), rfl⟩
theorem isLeap_any (y : Nat) (w : World) (h2 : y ≤ 100000) :
    Calls Tryz.prog 223 #[.int .i64 y] w fun e w' => e = .returned (.bool (leap y)) ∧ w = w' := by
  go_enter Tryz.func223, Tryz.ntmps223
  go_wp2
  all_goals go_ret
  all_goals exact ⟨ret_bool (by rw [Bool.eq_iff_iff, leap_true]; simp; omega), rfl⟩
theorem refLeap_any (y : Nat) (w : World) (h2 : y ≤ 100000) :
    Calls Tryz.prog 142 #[.int .i64 y] w fun e w' => e = .returned (.bool (leap y)) ∧ w = w' := by
  go_enter Tryz.func142, Tryz.ntmps142
  go_wp2
  all_goals go_ret
  all_goals exact ⟨ret_bool (by rw [Bool.eq_iff_iff, leap_true]; simp; omega), rfl⟩
theorem refYear_any (y : Nat) (w : World) (h2 : y ≤ 100000) :
    Calls Tryz.prog 139 #[.int .i64 y] w fun e w' => e = .returned (.int .i64 (am y 13 : Nat)) ∧ w = w' := by
  have he := Lib.hid (am_end y)
  cases hl : leap y
  all_goals
    have H := Lib.hid hl
    clear hl
    go_enter Tryz.func139, Tryz.ntmps139
    go_wp2_with fail
    refine (refLeap_any y w h2).mono ?_
    rintro e w' ⟨rfl, rfl⟩
    rw [H.out]
    go_wp2_with fail
    go_ret
    exact ⟨ret_int (by rw [he.out, H.out]; rfl), rfl⟩
theorem lb_1970 : lb 1970 = 477 := by decide
theorem lb_le (y : Nat) : lb y ≤ y := by unfold lb; omega
theorem lb_ge {y : Nat} (h : 1970 ≤ y) : 477 ≤ lb y := by unfold lb; omega
set_option maxHeartbeats 400000 in
theorem aheadOfYear_any (y : Nat) (w : World) (h1 : 1970 ≤ y) (h2 : y ≤ 20000) :
    Calls Tryz.prog 166 #[.int .i64 y] w fun e w' => e = .returned (.int .i64 (ay y : Nat)) ∧ w = w' := by
  have hl := lb_le y
  have hg := lb_ge h1
  have ha : Hid (ay y = (y - 1970) * 365 + lb y - 477) := rfl
  have c1 : Hid (Calls Tryz.prog 195 #[.int .i64 y] w fun e w' => e = .returned (.int .i64 (lb y : Nat)) ∧ w = w') := leapsBefore_any y w (by omega) (by omega)
  have c2 : Hid (Calls Tryz.prog 195 #[.int .i64 1970] w fun e w' => e = .returned (.int .i64 477) ∧ w = w') := by
    have := leapsBefore_any 1970 w (by omega) (by omega)
    rw [lb_1970] at this
    exact this
  generalize lb y = l at *
  go_enter Tryz.func166, Tryz.ntmps166
  go_wp2_with fail
  refine c1.out.mono ?_
  rintro e w' ⟨rfl, rfl⟩
  go_wp2_with fail
  refine c2.out.mono ?_
  rintro e w' ⟨rfl, rfl⟩
  go_wp2_with fail
  go_ret
  exact ⟨ret_int (by rw [ha.out]; omega), rfl⟩
theorem ahead10000 (w : World) : Calls Tryz.prog 166 #[.int .i64 10000] w fun e w' => e = .returned (.int .i64 2932897) ∧ w = w' := by
  have := aheadOfYear_any 10000 w (by omega) (by omega)
  rw [ay_last] at this
  exact this
theorem isDay_any (n : Int) (w : World) (h1 : -9223372036854775808 ≤ n) (h2 : n ≤ 9223372036854775807) :
    Calls Tryz.prog 212 #[.int .i64 n] w fun e w' => e = .returned (.bool (decide (0 ≤ n ∧ n < 2932897))) ∧ w = w' := by
  by_cases h : 0 ≤ n
  · go_enter Tryz.func212, Tryz.ntmps212
    go_wp2_with fail
    refine (ahead10000 w).mono ?_
    rintro e w' ⟨rfl, rfl⟩
    go_wp2_with fail
    all_goals go_ret
    all_goals exact ⟨ret_bool (by simp [h]), rfl⟩
  · go_enter Tryz.func212, Tryz.ntmps212
    go_wp2_with fail
    go_ret
    exact ⟨ret_bool (by simp; omega), rfl⟩
theorem last_any (w : World) : Calls Tryz.prog 127 #[] w fun e w' => e = .returned (.int .i64 253402300799) ∧ w = w' := by
  go_enter Tryz.func127, Tryz.ntmps127
  go_wp2_with fail
  refine (ahead10000 w).mono ?_
  rintro e w' ⟨rfl, rfl⟩
  go_wp2_with fail
  go_ret
  exact ⟨rfl, rfl⟩
/-- What Weekday answers: the day of the week and the error. -/
def weekday (n : Int) : Int × Int := if 0 ≤ n ∧ n < 2932897 then ((n + 4) % 7, 0) else (0, 2)
theorem weekday_any (n : Int) (w : World) (h1 : -9223372036854775808 ≤ n) (h2 : n ≤ 9223372036854775807) :
    Calls Tryz.prog 192 #[.int .i64 n] w fun e w' => e = .returned (.tuple #[.int .i64 (weekday n).1, .int .i64 (weekday n).2]) ∧ w = w' := by
  by_cases h : 0 ≤ n ∧ n < 2932897
  · have H : Hid (weekday n = ((n + 4) % 7, 0)) := if_pos h
    have hd : decide (0 ≤ n ∧ n < 2932897) = true := by simp [h]
    obtain ⟨ha, hb⟩ := h
    go_enter Tryz.func192, Tryz.ntmps192
    go_wp2_with fail
    refine (isDay_any n w h1 h2).mono ?_
    rintro e w' ⟨rfl, rfl⟩
    rw [hd]
    go_wp2_with fail
    go_ret2
    exact ⟨by rw [H.out]; rfl, rfl⟩
  · have H : Hid (weekday n = (0, 2)) := if_neg h
    have hd : decide (0 ≤ n ∧ n < 2932897) = false := by simp only [h, decide_false]
    go_enter Tryz.func192, Tryz.ntmps192
    go_wp2_with fail
    refine (isDay_any n w h1 h2).mono ?_
    rintro e w' ⟨rfl, rfl⟩
    rw [hd]
    go_wp2_with fail
    go_ret2
    exact ⟨by rw [H.out]; rfl, rfl⟩
end Go.Proofs.YtoihekgmomjhpaaGreatDoor.V

/-
  Months: aheadOfMonth and Long of the program in a world that holds the table, Long of the document, for every month.
-/
namespace Go.Proofs.YtoihekgmomjhpaaGreatDoor.V
open Go.RowKit Civ
/-- The table's cells hold its numbers. -/
def Tab (w : World) : Prop := ∀ i, i < 13 → w.cell? ⟨2, i, none⟩ = some (.int .i64 (tab.getD i 0 : Nat))
theorem tab_le (i : Nat) (h : i < 13) : tab.getD i 0 ≤ 365 := by
  have : ∀ i, i < 13 → tab.getD i 0 ≤ 365 := by decide
  exact this i h
set_option maxHeartbeats 400000 in
theorem aheadOfMonth_any (y m : Nat) (w : World) (t : Tab w) (hy : y ≤ 100000) (m1 : 1 ≤ m) (m2 : m ≤ 13) :
    Calls Tryz.prog 215 #[.int .i64 y, .int .i64 m] w fun e w' => e = .returned (.int .i64 (am y m : Nat)) ∧ w = w' := by
  obtain ⟨i, rfl⟩ : ∃ i, m = i + 1 := ⟨m - 1, by omega⟩
  have hc := t i (by omega)
  have hb := tab_le i (by omega)
  have ha : Hid (am y (i + 1) = tab.getD i 0 + if 2 < i + 1 ∧ leap y = true then 1 else 0) := rfl
  generalize tab.getD i 0 = v at *
  clear t
  go_enter Tryz.func215, Tryz.ntmps215
  by_cases hm : 2 ≤ i
  · go_wp2_with fail
    refine (isLeap_any y w hy).mono ?_
    rintro e w' ⟨rfl, rfl⟩
    cases hl : leap y
    · go_wp2_with fail
      go_ret
      exact ⟨ret_int (by rw [ha.out, hl, if_neg (by simp)]; omega), rfl⟩
    · go_wp2_with fail
      go_ret
      exact ⟨ret_int (by rw [ha.out, hl, if_pos ⟨by omega, rfl⟩]; omega), rfl⟩
  · go_wp2_with fail
    go_ret
    exact ⟨ret_int (by rw [ha.out, if_neg (by omega)]; omega), rfl⟩
theorem am_le (y : Nat) {m : Nat} (m1 : 1 ≤ m) (m2 : m ≤ 13) : am y m ≤ 366 := by
  have := am_mono y m1 m2 (by omega)
  have := am_end_le y
  omega
set_option maxHeartbeats 400000 in
theorem long_some (y m : Nat) (w : World) (t : Tab w) (y1 : 1970 ≤ y) (y2 : y ≤ 9999) (m1 : 1 ≤ m) (m2 : m ≤ 12) :
    Calls Tryz.prog 217 #[.int .i64 y, .int .i64 m] w fun e w' => e = .returned (.int .i64 (long y m : Nat)) ∧ w = w' := by
  have hs := am_step y m1 m2
  have hl1 := am_le y m1 (by omega)
  have hl2 := am_le y (m := m + 1) (by omega) (by omega)
  have c1 : Hid (Calls Tryz.prog 215 #[.int .i64 y, .int .i64 (m + 1 : Int)] w fun e w' => e = .returned (.int .i64 (am y (m + 1) : Nat)) ∧ w = w') := aheadOfMonth_any y (m + 1) w t (by omega) (by omega) (by omega)
  have c2 : Hid (Calls Tryz.prog 215 #[.int .i64 y, .int .i64 m] w fun e w' => e = .returned (.int .i64 (am y m : Nat)) ∧ w = w') := aheadOfMonth_any y m w t (by omega) m1 (by omega)
  generalize am y (m + 1) = a at *
  generalize am y m = b at *
  generalize long y m = c at *
  clear t
  go_enter Tryz.func217, Tryz.ntmps217
  go_wp2_with fail
  refine c1.out.mono ?_
  rintro e w' ⟨rfl, rfl⟩
  go_wp2_with fail
  refine c2.out.mono ?_
  rintro e w' ⟨rfl, rfl⟩
  go_wp2_with fail
  go_ret
  exact ⟨ret_int (by omega), rfl⟩
end Go.Proofs.YtoihekgmomjhpaaGreatDoor.V

/-
  Days of the program and Days and Most of the document: a date's days, or that there is none.
-/
namespace Go.Proofs.YtoihekgmomjhpaaGreatDoor.V
open Go.RowKit Civ
set_option maxHeartbeats 400000 in
theorem days_some {n y m d : Nat} (h : Day n y m d) (w : World) (t : Tab w) :
    Calls Tryz.prog 216 #[.int .i64 y, .int .i64 m, .int .i64 d] w fun e w' => e = .returned (.tuple #[.int .i64 n, .int .i64 0]) ∧ w = w' := by
  have hlt := h.lt
  have c1 := Lib.hid (long_some y m w t h.y1 h.y2 h.m1 h.m2)
  have c2 := Lib.hid (aheadOfYear_any y w h.y1 (by have := h.y2; omega))
  have c3 := Lib.hid (aheadOfMonth_any y m w t (by have := h.y2; omega) h.m1 (by have := h.m2; omega))
  obtain ⟨y1, y2, m1, m2, d1, d2, e⟩ := h
  generalize ay y = a at *
  generalize am y m = b at *
  generalize long y m = l at *
  clear t
  go_enter Tryz.func216, Tryz.ntmps216
  go_wp2_with fail
  refine c1.out.mono ?_
  rintro e w' ⟨rfl, rfl⟩
  go_wp2_with fail
  refine c2.out.mono ?_
  rintro e w' ⟨rfl, rfl⟩
  go_wp2_with fail
  refine c3.out.mono ?_
  rintro e w' ⟨rfl, rfl⟩
  go_wp2_with fail
  go_ret2
  have E : (a : Int) + b + d - 1 = n := by omega
  refine ⟨?_, rfl⟩
  rw [← E]; rfl
end Go.Proofs.YtoihekgmomjhpaaGreatDoor.V
