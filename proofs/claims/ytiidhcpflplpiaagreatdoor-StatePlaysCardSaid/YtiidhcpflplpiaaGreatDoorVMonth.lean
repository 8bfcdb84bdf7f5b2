/-
  Months: aheadOfMonth and Long of the program in a world that holds the table, Long of the document, for every month.
-/
import Derived.Test.YtiidhcpflplpiaaGreatDoorVYear
import Derived.Lib.LaidTab
namespace Go.Proofs.YtiidhcpflplpiaaGreatDoor.V
open Go.RowKit Civ

/-- The table's cells hold its numbers. -/
def Tab (w : World) : Prop := ∀ i, i < 13 → w.cell? ⟨2, i, none⟩ = some (.int .i64 (tab.getD i 0 : Nat))

theorem tab_le (i : Nat) (h : i < 13) : tab.getD i 0 ≤ 365 := by
  have : ∀ i, i < 13 → tab.getD i 0 ≤ 365 := by decide
  exact this i h

set_option maxHeartbeats 400000 in
theorem aheadOfMonth_any (y m : Nat) (w : World) (t : Tab w) (hy : y ≤ 100000) (m1 : 1 ≤ m) (m2 : m ≤ 13) :
    Calls Tryz.prog 170 #[.int .i64 y, .int .i64 m] w fun e w' => e = .returned (.int .i64 (am y m : Nat)) ∧ w = w' := by
  obtain ⟨i, rfl⟩ : ∃ i, m = i + 1 := ⟨m - 1, by omega⟩
  have hc := t i (by omega)
  have hb := tab_le i (by omega)
  have ha : Hid (am y (i + 1) = tab.getD i 0 + if 2 < i + 1 ∧ leap y = true then 1 else 0) := rfl
  generalize tab.getD i 0 = v at *
  clear t
  go_enter Tryz.func170, Tryz.ntmps170
  by_cases hm : 2 ≤ i
  · go_wp2_with fail
    refine (isLeap_any y w hy).mono ?_
    rintro e w' ⟨rfl, rfl⟩
    cases hl : leap y
    · go_wp2_with fail
      go_ret
      exact ⟨ret_int (by rw [ha.out, hl, if_neg (by simp)]; omega), rfl⟩
    · go_wp2_with fail
      go_ret
      exact ⟨ret_int (by rw [ha.out, hl, if_pos ⟨by omega, rfl⟩]; omega), rfl⟩
  · go_wp2_with fail
    go_ret
    exact ⟨ret_int (by rw [ha.out, if_neg (by omega)]; omega), rfl⟩

/-- How many days a month has, whatever the numbers. -/
def longZ (y m : Int) : Int := if 1970 ≤ y ∧ y ≤ 9999 ∧ 1 ≤ m ∧ m ≤ 12 then (long y.toNat m.toNat : Nat) else 0
theorem longZ_some {y m : Nat} (y1 : 1970 ≤ y) (y2 : y ≤ 9999) (m1 : 1 ≤ m) (m2 : m ≤ 12) : longZ y m = (long y m : Nat) := by
  unfold longZ
  rw [if_pos (by omega)]
  simp
theorem longZ_none {y m : Int} (h : ¬ (1970 ≤ y ∧ y ≤ 9999 ∧ 1 ≤ m ∧ m ≤ 12)) : longZ y m = 0 := if_neg h
theorem am_le (y : Nat) {m : Nat} (m1 : 1 ≤ m) (m2 : m ≤ 13) : am y m ≤ 366 := by
  have := am_mono y m1 m2 (by omega)
  have := am_end_le y
  omega

set_option maxHeartbeats 400000 in
theorem long_some (y m : Nat) (w : World) (t : Tab w) (y1 : 1970 ≤ y) (y2 : y ≤ 9999) (m1 : 1 ≤ m) (m2 : m ≤ 12) :
    Calls Tryz.prog 172 #[.int .i64 y, .int .i64 m] w fun e w' => e = .returned (.int .i64 (long y m : Nat)) ∧ w = w' := by
  have hs := am_step y m1 m2
  have hl1 := am_le y m1 (by omega)
  have hl2 := am_le y (m := m + 1) (by omega) (by omega)
  have c1 : Hid (Calls Tryz.prog 170 #[.int .i64 y, .int .i64 (m + 1 : Int)] w fun e w' => e = .returned (.int .i64 (am y (m + 1) : Nat)) ∧ w = w') := aheadOfMonth_any y (m + 1) w t (by omega) (by omega) (by omega)
  have c2 : Hid (Calls Tryz.prog 170 #[.int .i64 y, .int .i64 m] w fun e w' => e = .returned (.int .i64 (am y m : Nat)) ∧ w = w') := aheadOfMonth_any y m w t (by omega) m1 (by omega)
  generalize am y (m + 1) = a at *
  generalize am y m = b at *
  generalize long y m = c at *
  clear t
  go_enter Tryz.func172, Tryz.ntmps172
  go_wp2_with fail
  refine c1.out.mono ?_
  rintro e w' ⟨rfl, rfl⟩
  go_wp2_with fail
  refine c2.out.mono ?_
  rintro e w' ⟨rfl, rfl⟩
  go_wp2_with fail
  go_ret
  exact ⟨ret_int (by omega), rfl⟩

set_option maxHeartbeats 400000 in
theorem long_none (y m : Int) (w : World) (h : ¬ (1970 ≤ y ∧ y ≤ 9999 ∧ 1 ≤ m ∧ m ≤ 12)) :
    Calls Tryz.prog 172 #[.int .i64 y, .int .i64 m] w fun e w' => e = .returned (.int .i64 0) ∧ w = w' := by
  by_cases h1 : 1970 ≤ y
  · by_cases h2 : y ≤ 9999
    · by_cases h3 : 1 ≤ m
      · have h4 : ¬ m ≤ 12 := fun h4 => h ⟨h1, h2, h3, h4⟩
        clear h
        go_enter Tryz.func172, Tryz.ntmps172
        go_wp2_with fail
        go_ret
        exact ⟨rfl, rfl⟩
      · clear h
        go_enter Tryz.func172, Tryz.ntmps172
        go_wp2_with fail
        go_ret
        exact ⟨rfl, rfl⟩
    · clear h
      go_enter Tryz.func172, Tryz.ntmps172
      go_wp2_with fail
      go_ret
      exact ⟨rfl, rfl⟩
  · clear h
    go_enter Tryz.func172, Tryz.ntmps172
    go_wp2_with fail
    go_ret
    exact ⟨rfl, rfl⟩

theorem long_any (y m : Int) (w : World) (t : Tab w) :
    Calls Tryz.prog 172 #[.int .i64 y, .int .i64 m] w fun e w' => e = .returned (.int .i64 (longZ y m)) ∧ w = w' := by
  by_cases h : 1970 ≤ y ∧ y ≤ 9999 ∧ 1 ≤ m ∧ m ≤ 12
  · obtain ⟨y, rfl⟩ : ∃ n : Nat, y = (n : Int) := ⟨y.toNat, by omega⟩
    obtain ⟨m, rfl⟩ : ∃ n : Nat, m = (n : Int) := ⟨m.toNat, by omega⟩
    rw [longZ_some (by omega) (by omega) (by omega) (by omega)]
    exact long_some y m w t (by omega) (by omega) (by omega) (by omega)
  · rw [longZ_none h]
    exact long_none y m w h

set_option maxHeartbeats 400000 in
theorem refLong_some (y m : Nat) (w : World) (y1 : 1970 ≤ y) (y2 : y ≤ 9999) (m1 : 1 ≤ m) (m2 : m ≤ 12) :
    Calls Tryz.prog 55 #[.int .i64 y, .int .i64 m] w fun e w' => e = .returned (.int .i64 (long y m : Nat)) ∧ w = w' := by
  have hl : Hid (Calls Tryz.prog 70 #[.int .i64 y] w fun e w' => e = .returned (.bool (leap y)) ∧ w = w') := refLeap_any y w (by omega)
  rw [long_eq y m1 m2]
  generalize leap y = b at *
  rcases months m1 m2 with rfl | rfl | rfl | rfl | rfl | rfl | rfl | rfl | rfl | rfl | rfl | rfl
  all_goals
    clear m1 m2
    go_enter Tryz.func55, Tryz.ntmps55
    go_wp2_with fail
    first
      | (go_ret; exact ⟨rfl, rfl⟩)
      | (refine hl.out.mono ?_
         rintro e w' ⟨rfl, rfl⟩
         cases b
         all_goals (go_wp2_with fail; go_ret; exact ⟨rfl, rfl⟩))

set_option maxHeartbeats 400000 in
theorem refLong_none (y m : Int) (w : World) (h : ¬ (1970 ≤ y ∧ y ≤ 9999 ∧ 1 ≤ m ∧ m ≤ 12)) :
    Calls Tryz.prog 55 #[.int .i64 y, .int .i64 m] w fun e w' => e = .returned (.int .i64 0) ∧ w = w' := by
  by_cases h1 : 1970 ≤ y
  · by_cases h2 : y ≤ 9999
    · by_cases h3 : 1 ≤ m
      · have h4 : ¬ m ≤ 12 := fun h4 => h ⟨h1, h2, h3, h4⟩
        clear h
        go_enter Tryz.func55, Tryz.ntmps55
        go_wp2_with fail
        go_ret
        exact ⟨rfl, rfl⟩
      · clear h
        go_enter Tryz.func55, Tryz.ntmps55
        go_wp2_with fail
        go_ret
        exact ⟨rfl, rfl⟩
    · clear h
      go_enter Tryz.func55, Tryz.ntmps55
      go_wp2_with fail
      go_ret
      exact ⟨rfl, rfl⟩
  · clear h
    go_enter Tryz.func55, Tryz.ntmps55
    go_wp2_with fail
    go_ret
    exact ⟨rfl, rfl⟩

theorem refLong_any (y m : Int) (w : World) :
    Calls Tryz.prog 55 #[.int .i64 y, .int .i64 m] w fun e w' => e = .returned (.int .i64 (longZ y m)) ∧ w = w' := by
  by_cases h : 1970 ≤ y ∧ y ≤ 9999 ∧ 1 ≤ m ∧ m ≤ 12
  · obtain ⟨y, rfl⟩ : ∃ n : Nat, y = (n : Int) := ⟨y.toNat, by omega⟩
    obtain ⟨m, rfl⟩ : ∃ n : Nat, m = (n : Int) := ⟨m.toNat, by omega⟩
    rw [longZ_some (by omega) (by omega) (by omega) (by omega)]
    exact refLong_some y m w (by omega) (by omega) (by omega) (by omega)
  · rw [longZ_none h]
    exact refLong_none y m w h
end Go.Proofs.YtiidhcpflplpiaaGreatDoor.V
