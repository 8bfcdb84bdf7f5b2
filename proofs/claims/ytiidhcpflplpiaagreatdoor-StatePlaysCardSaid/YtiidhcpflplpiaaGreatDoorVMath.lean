/-
  The calendar in plain numbers (no program): leap years, how many days go by ahead of a year and of a month, and what it is for the day n to be the date y, m, d; a day has one date and a date one day, in the same order.
-/
namespace Civ

def leap (y : Nat) : Bool := y % 4 == 0 && y % 100 != 0 || y % 400 == 0
/-- Leap years from the year 1 on, ahead of that one. -/
def lb (y : Nat) : Nat := (y - 1) / 4 - (y - 1) / 100 + (y - 1) / 400
/-- Days from the day 0 to the first one of a year. -/
def ay (y : Nat) : Nat := (y - 1970) * 365 + lb y - 477
def tab : List Nat := [0, 31, 59, 90, 120, 151, 181, 212, 243, 273, 304, 334, 365]
/-- Days of its year ahead of a month. -/
def am (y m : Nat) : Nat := tab.getD (m - 1) 0 + if 2 < m ∧ leap y = true then 1 else 0
def long (y m : Nat) : Nat := am y (m + 1) - am y m

theorem months {m : Nat} (h1 : 1 ≤ m) (h2 : m ≤ 12) : m = 1 ∨ m = 2 ∨ m = 3 ∨ m = 4 ∨ m = 5 ∨ m = 6 ∨ m = 7 ∨ m = 8 ∨ m = 9 ∨ m = 10 ∨ m = 11 ∨ m = 12 := by omega

theorem long_is (y : Nat) {m : Nat} (h1 : 1 ≤ m) (h2 : m ≤ 12) :
    am y (m + 1) = am y m + long y m ∧ 28 ≤ long y m ∧ long y m ≤ 31 ∧ long y m = if m = 2 then (if leap y = true then 29 else 28) else if m = 4 ∨ m = 6 ∨ m = 9 ∨ m = 11 then 30 else 31 := by
  unfold long
  cases hl : leap y <;> rcases months h1 h2 with rfl | rfl | rfl | rfl | rfl | rfl | rfl | rfl | rfl | rfl | rfl | rfl <;> simp [am, tab, hl]

theorem am_step (y : Nat) {m : Nat} (h1 : 1 ≤ m) (h2 : m ≤ 12) : am y (m + 1) = am y m + long y m := (long_is y h1 h2).1
theorem long_ge (y : Nat) {m : Nat} (h1 : 1 ≤ m) (h2 : m ≤ 12) : 28 ≤ long y m := (long_is y h1 h2).2.1
theorem long_le (y : Nat) {m : Nat} (h1 : 1 ≤ m) (h2 : m ≤ 12) : long y m ≤ 31 := (long_is y h1 h2).2.2.1
theorem long_eq (y : Nat) {m : Nat} (h1 : 1 ≤ m) (h2 : m ≤ 12) : long y m = if m = 2 then (if leap y = true then 29 else 28) else if m = 4 ∨ m = 6 ∨ m = 9 ∨ m = 11 then 30 else 31 := (long_is y h1 h2).2.2.2

theorem am_one (y : Nat) : am y 1 = 0 := by simp [am, tab]
theorem am_end (y : Nat) : am y 13 = if leap y = true then 366 else 365 := by cases hl : leap y <;> simp [am, tab, hl]
theorem am_mono (y : Nat) {a b : Nat} (h1 : 1 ≤ a) (hab : a ≤ b) (h2 : b ≤ 13) : am y a ≤ am y b := by
  obtain ⟨k, rfl⟩ : ∃ k, b = a + k := ⟨b - a, by omega⟩
  induction k with
  | zero => exact Nat.le_refl _
  | succ k ih =>
    have := am_step y (m := a + k) (by omega) (by omega)
    have := ih (by omega) (by omega)
    show am y a ≤ am y (a + k + 1)
    omega

theorem leap_true {y : Nat} : leap y = true ↔ (y % 4 = 0 ∧ y % 100 ≠ 0) ∨ y % 400 = 0 := by
  unfold leap; simp

theorem ay_first : ay 1970 = 0 := by decide
theorem ay_last : ay 10000 = 2932897 := by decide
theorem quo_step (y k : Nat) (h : 1 ≤ y) : y / k = (y - 1) / k + if y % k = 0 then 1 else 0 := by
  obtain ⟨z, rfl⟩ : ∃ z, y = z + 1 := ⟨y - 1, by omega⟩
  rw [Nat.add_sub_cancel, Nat.succ_div]
  simp [Nat.dvd_iff_mod_eq_zero]
theorem ay_step {y : Nat} (h : 1970 ≤ y) : ay (y + 1) = ay y + am y 13 := by
  rw [am_end]
  have q4 := quo_step y 4 (by omega)
  have q1 := quo_step y 100 (by omega)
  have q2 := quo_step y 400 (by omega)
  have g4 : 492 ≤ (y - 1) / 4 := by omega
  have g1 : (y - 1) / 100 * 25 ≤ (y - 1) / 4 := by omega
  have g2 : 4 ≤ (y - 1) / 400 := by omega
  have m1 : y % 100 = 0 → y % 4 = 0 := by omega
  have m2 : y % 400 = 0 → y % 100 = 0 := by omega
  have hl := leap_true (y := y)
  unfold ay lb
  rw [Nat.add_sub_cancel, q4, q1, q2]
  have g5 : 477 ≤ (y - 1) / 4 - (y - 1) / 100 + (y - 1) / 400 := by omega
  clear q4 q1 q2
  generalize (y - 1) / 4 = a at *
  generalize (y - 1) / 100 = b at *
  generalize (y - 1) / 400 = c at *
  by_cases l : leap y = true
  · rw [if_pos l]
    rcases hl.1 l with ⟨l1, l2⟩ | l1
    · rw [if_pos l1, if_neg l2, if_neg (fun e => l2 (m2 e))]; omega
    · rw [if_pos (m1 (m2 l1)), if_pos (m2 l1), if_pos l1]; omega
  · rw [if_neg l]
    have l4 : y % 400 ≠ 0 := fun e => l (hl.2 (Or.inr e))
    rw [if_neg l4]
    by_cases l1 : y % 100 = 0
    · rw [if_pos (m1 l1), if_pos l1]; omega
    · have l2 : y % 4 ≠ 0 := fun e => l (hl.2 (Or.inl ⟨e, l1⟩))
      rw [if_neg l2, if_neg l1]; omega
theorem am_end_ge (y : Nat) : 365 ≤ am y 13 := by rw [am_end]; split <;> omega
theorem am_end_le (y : Nat) : am y 13 ≤ 366 := by rw [am_end]; split <;> omega
theorem ay_mono {a b : Nat} (h : 1970 ≤ a) (hab : a ≤ b) : ay a ≤ ay b := by
  obtain ⟨k, rfl⟩ : ∃ k, b = a + k := ⟨b - a, by omega⟩
  induction k with
  | zero => exact Nat.le_refl _
  | succ k ih =>
    have := ay_step (y := a + k) (by omega)
    have := ih (by omega)
    show ay a ≤ ay (a + k + 1)
    omega
theorem ay_ge {y : Nat} (h : 1970 ≤ y) : (y - 1970) * 365 ≤ ay y := by
  unfold ay lb; omega
theorem ay_le {y : Nat} (h : 1970 ≤ y) : ay y ≤ (y - 1970) * 366 := by
  obtain ⟨k, rfl⟩ : ∃ k, y = 1970 + k := ⟨y - 1970, by omega⟩
  induction k with
  | zero => decide
  | succ k ih =>
    have := ay_step (y := 1970 + k) (by omega)
    have := ih (by omega)
    have := am_end_le (1970 + k)
    show ay (1970 + k + 1) ≤ _
    omega

/-- The day n is the date y, m, d. -/
structure Day (n y m d : Nat) : Prop where
  y1 : 1970 ≤ y
  y2 : y ≤ 9999
  m1 : 1 ≤ m
  m2 : m ≤ 12
  d1 : 1 ≤ d
  d2 : d ≤ long y m
  e : n + 1 = ay y + am y m + d

theorem Day.lt {n y m d : Nat} (h : Day n y m d) : n < 2932897 := by
  have h1 := am_step y h.m1 h.m2
  have h2 := am_mono y (a := m + 1) (b := 13) (by omega) (by have := h.m2; omega) (by omega)
  have h3 := ay_step h.y1
  have h4 := ay_mono (a := y + 1) (b := 10000) (by have := h.y1; omega) (by have := h.y2; omega)
  have h5 := ay_last
  have := h.d2; have := h.e
  omega

/-- Dates stand in the order of their days. -/
theorem Day.less {n y m d n' y' m' d' : Nat} (h : Day n y m d) (h' : Day n' y' m' d') (l : y < y' ∨ y = y' ∧ (m < m' ∨ m = m' ∧ d < d')) : n < n' := by
  have h1 := am_step y h.m1 h.m2
  have := h.d2; have := h.e; have := h'.e; have := h'.d1
  rcases l with l | ⟨rfl, l | ⟨rfl, l⟩⟩
  · have h2 := am_mono y (a := m + 1) (b := 13) (by omega) (by have := h.m2; omega) (by omega)
    have h3 := ay_step h.y1
    have h4 := ay_mono (a := y + 1) (b := y') (by have := h.y1; omega) (by omega)
    omega
  · have h2 := am_mono y (a := m + 1) (b := m') (by omega) (by omega) (by have := h'.m2; omega)
    omega
  · omega
theorem Day.same {n y m d n' y' m' d' : Nat} (h : Day n y m d) (h' : Day n' y' m' d') (e : n = n') : y = y' ∧ m = m' ∧ d = d' := by
  subst e
  have a := h.less h'
  have b := h'.less h
  omega
theorem Day.one {n y m d n' : Nat} (h : Day n y m d) (h' : Day n' y m d) : n = n' := by
  have := h.e; have := h'.e; omega

/-- The year that has the day n, the month, the day. -/
theorem Day.mk' {n y m : Nat} (y1 : 1970 ≤ y) (h1 : ay y ≤ n) (hn : n < 2932897) (m1 : 1 ≤ m) (m2 : m ≤ 12) (h3 : am y m ≤ n - ay y) (h4 : n - ay y < am y (m + 1)) : Day n y m (n - ay y - am y m + 1) := by
  have y2 : y ≤ 9999 := by
    rcases Nat.lt_or_ge y 10000 with h | h
    · omega
    · have := ay_mono (a := 10000) (b := y) (by omega) h
      have := ay_last
      omega
  have := am_step y m1 m2
  exact ⟨y1, y2, m1, m2, by omega, by omega, by omega⟩

/-- The date of the next day. -/
theorem Day.next {n y m d : Nat} (h : Day n y m d) :
    (d < long y m ∧ Day (n + 1) y m (d + 1)) ∨ (d = long y m ∧ m < 12 ∧ Day (n + 1) y (m + 1) 1) ∨ (d = long y m ∧ m = 12 ∧ y < 9999 ∧ Day (n + 1) (y + 1) 1 1) ∨ (y = 9999 ∧ m = 12 ∧ d = 31 ∧ n = 2932896) := by
  have s := am_step y h.m1 h.m2
  obtain ⟨y1, y2, m1, m2, d1, d2, e⟩ := h
  rcases Nat.lt_or_ge d (long y m) with hd | hd
  · exact Or.inl ⟨hd, y1, y2, m1, m2, by omega, by omega, by omega⟩
  · have hd' : d = long y m := by omega
    rcases Nat.lt_or_ge m 12 with hm | hm
    · have := long_ge y (m := m + 1) (by omega) (by omega)
      exact Or.inr (Or.inl ⟨hd', hm, y1, y2, by omega, by omega, by omega, by omega, by omega⟩)
    · obtain rfl : m = 12 := by omega
      replace s : am y 13 = am y 12 + long y 12 := s
      have s2 := ay_step y1
      rcases Nat.lt_or_ge y 9999 with hy | hy
      · have := long_ge (y + 1) (m := 1) (by omega) (by omega)
        have := am_one (y + 1)
        exact Or.inr (Or.inr (Or.inl ⟨hd', rfl, hy, by omega, by omega, by omega, by omega, by omega, by omega, by omega⟩))
      · obtain rfl : y = 9999 := by omega
        have l : long 9999 12 = 31 := by decide
        replace s2 : ay 10000 = ay 9999 + am 9999 13 := s2
        have := ay_last
        exact Or.inr (Or.inr (Or.inr ⟨rfl, rfl, by omega, by omega⟩))
end Civ
