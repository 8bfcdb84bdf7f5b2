/-
  Years: isLeap, leapsBefore and aheadOfYear of the program, leap and year of the document, for every year that they are asked for here.
-/
import Derived.Test.YtiidhcpflplpiaaGreatDoorRows
import Derived.Test.YtiidhcpflplpiaaGreatDoorVMath
import Derived.Lib.Hide
import Derived.WalkKit
import Derived.WalkSpells
import Derived.WalkLawsBesides
namespace Go.Proofs.YtiidhcpflplpiaaGreatDoor.V
open Go.RowKit Civ

theorem ret_int {k : IntKind} {a b : Int} (h : a = b) : Ending.returned (.int k a) = .returned (.int k b) := by rw [h]
theorem ret_bool {a b : Bool} (h : a = b) : Ending.returned (.bool a) = .returned (.bool b) := by rw [h]

set_option maxHeartbeats 400000 in
theorem leapsBefore_any (y : Nat) (w : World) (h1 : 1 ≤ y) (h2 : y ≤ 100000) :
    Calls Tryz.prog 152 #[.int .i64 y] w fun e w' => e = .returned (.int .i64 (lb y : Nat)) ∧ w = w' := by
  obtain ⟨z, rfl⟩ : ∃ z, y = z + 1 := ⟨y - 1, by omega⟩
  go_enter Tryz.func152, Tryz.ntmps152
  go_wp2
  go_ret
  exact ⟨ret_int (by unfold lb; omega), rfl⟩

theorem isLeap_any (y : Nat) (w : World) (h2 : y ≤ 100000) :
    Calls Tryz.prog 178 #[.int .i64 y] w fun e w' => e = .returned (.bool (leap y)) ∧ w = w' := by
  go_enter Tryz.func178, Tryz.ntmps178
  go_wp2
  all_goals go_ret
  all_goals exact ⟨ret_bool (by rw [Bool.eq_iff_iff, leap_true]; simp; omega), rfl⟩

theorem refLeap_any (y : Nat) (w : World) (h2 : y ≤ 100000) :
    Calls Tryz.prog 70 #[.int .i64 y] w fun e w' => e = .returned (.bool (leap y)) ∧ w = w' := by
  go_enter Tryz.func70, Tryz.ntmps70
  go_wp2
  all_goals go_ret
  all_goals exact ⟨ret_bool (by rw [Bool.eq_iff_iff, leap_true]; simp; omega), rfl⟩

theorem refYear_any (y : Nat) (w : World) (h2 : y ≤ 100000) :
    Calls Tryz.prog 67 #[.int .i64 y] w fun e w' => e = .returned (.int .i64 (am y 13 : Nat)) ∧ w = w' := by
  have he := Lib.hid (am_end y)
  cases hl : leap y
  all_goals
    have H := Lib.hid hl
    clear hl
    go_enter Tryz.func67, Tryz.ntmps67
    go_wp2_with fail
    refine (refLeap_any y w h2).mono ?_
    rintro e w' ⟨rfl, rfl⟩
    rw [H.out]
    go_wp2_with fail
    go_ret
    exact ⟨ret_int (by rw [he.out, H.out]; rfl), rfl⟩

theorem lb_1970 : lb 1970 = 477 := by decide
theorem lb_le (y : Nat) : lb y ≤ y := by unfold lb; omega
theorem lb_ge {y : Nat} (h : 1970 ≤ y) : 477 ≤ lb y := by unfold lb; omega

set_option maxHeartbeats 400000 in
theorem aheadOfYear_any (y : Nat) (w : World) (h1 : 1970 ≤ y) (h2 : y ≤ 20000) :
    Calls Tryz.prog 127 #[.int .i64 y] w fun e w' => e = .returned (.int .i64 (ay y : Nat)) ∧ w = w' := by
  have hl := lb_le y
  have hg := lb_ge h1
  have ha : Hid (ay y = (y - 1970) * 365 + lb y - 477) := rfl
  have c1 : Hid (Calls Tryz.prog 152 #[.int .i64 y] w fun e w' => e = .returned (.int .i64 (lb y : Nat)) ∧ w = w') := leapsBefore_any y w (by omega) (by omega)
  have c2 : Hid (Calls Tryz.prog 152 #[.int .i64 1970] w fun e w' => e = .returned (.int .i64 477) ∧ w = w') := by
    have := leapsBefore_any 1970 w (by omega) (by omega)
    rw [lb_1970] at this
    exact this
  generalize lb y = l at *
  go_enter Tryz.func127, Tryz.ntmps127
  go_wp2_with fail
  refine c1.out.mono ?_
  rintro e w' ⟨rfl, rfl⟩
  go_wp2_with fail
  refine c2.out.mono ?_
  rintro e w' ⟨rfl, rfl⟩
  go_wp2_with fail
  go_ret
  exact ⟨ret_int (by rw [ha.out]; omega), rfl⟩

theorem ay_10000 : Hid (ay 10000 = 2932897) := ay_last
theorem ahead10000 (w : World) : Calls Tryz.prog 127 #[.int .i64 10000] w fun e w' => e = .returned (.int .i64 2932897) ∧ w = w' := by
  have := aheadOfYear_any 10000 w (by omega) (by omega)
  rw [ay_last] at this
  exact this

theorem isDay_any (n : Int) (w : World) (h1 : -9223372036854775808 ≤ n) (h2 : n ≤ 9223372036854775807) :
    Calls Tryz.prog 167 #[.int .i64 n] w fun e w' => e = .returned (.bool (decide (0 ≤ n ∧ n < 2932897))) ∧ w = w' := by
  by_cases h : 0 ≤ n
  · go_enter Tryz.func167, Tryz.ntmps167
    go_wp2_with fail
    refine (ahead10000 w).mono ?_
    rintro e w' ⟨rfl, rfl⟩
    go_wp2_with fail
    all_goals go_ret
    all_goals exact ⟨ret_bool (by simp [h]), rfl⟩
  · go_enter Tryz.func167, Tryz.ntmps167
    go_wp2_with fail
    go_ret
    exact ⟨ret_bool (by simp; omega), rfl⟩

theorem last_any (w : World) : Calls Tryz.prog 100 #[] w fun e w' => e = .returned (.int .i64 253402300799) ∧ w = w' := by
  go_enter Tryz.func100, Tryz.ntmps100
  go_wp2_with fail
  refine (ahead10000 w).mono ?_
  rintro e w' ⟨rfl, rfl⟩
  go_wp2_with fail
  go_ret
  exact ⟨rfl, rfl⟩

/-- What Weekday answers: the day of the week and the error. -/
def weekday (n : Int) : Int × Int := if 0 ≤ n ∧ n < 2932897 then ((n + 4) % 7, 0) else (0, 2)
theorem weekday_any (n : Int) (w : World) (h1 : -9223372036854775808 ≤ n) (h2 : n ≤ 9223372036854775807) :
    Calls Tryz.prog 149 #[.int .i64 n] w fun e w' => e = .returned (.tuple #[.int .i64 (weekday n).1, .int .i64 (weekday n).2]) ∧ w = w' := by
  by_cases h : 0 ≤ n ∧ n < 2932897
  · have H : Hid (weekday n = ((n + 4) % 7, 0)) := if_pos h
    have hd : decide (0 ≤ n ∧ n < 2932897) = true := by simp [h]
    obtain ⟨ha, hb⟩ := h
    go_enter Tryz.func149, Tryz.ntmps149
    go_wp2_with fail
    refine (isDay_any n w h1 h2).mono ?_
    rintro e w' ⟨rfl, rfl⟩
    rw [hd]
    go_wp2_with fail
    go_ret2
    exact ⟨by rw [H.out]; rfl, rfl⟩
  · have H : Hid (weekday n = (0, 2)) := if_neg h
    have hd : decide (0 ≤ n ∧ n < 2932897) = false := by simp only [h, decide_false]
    go_enter Tryz.func149, Tryz.ntmps149
    go_wp2_with fail
    refine (isDay_any n w h1 h2).mono ?_
    rintro e w' ⟨rfl, rfl⟩
    rw [hd]
    go_wp2_with fail
    go_ret2
    exact ⟨by rw [H.out]; rfl, rfl⟩
end Go.Proofs.YtiidhcpflplpiaaGreatDoor.V
