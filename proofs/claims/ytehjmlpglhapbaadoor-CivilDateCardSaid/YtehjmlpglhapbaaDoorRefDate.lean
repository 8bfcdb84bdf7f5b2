/-
  Date of the document: the one date of a day, or that there is none.
-/
import Derived.Test.YtehjmlpglhapbaaDoorDate
namespace Go.Proofs.YtehjmlpglhapbaaDoor
open Go.RowKit Civ

set_option maxRecDepth 100000 in
set_option maxHeartbeats 1000000 in
theorem refDate_some (n : Nat) (w : World) (hn : n < 2932897) :
    Calls Tryd.prog 15 #[.int .i64 n] w fun e w' => (∃ y m d : Nat, e = .returned (.tuple #[.int .i64 y, .int .i64 m, .int .i64 d, .bool true]) ∧ Day n y m d) ∧ w = w' := by
  have c1 := Lib.hid (most_any w)
  have e1 : decide (2932896 < (n : Int)) = false := by simp; omega
  have e2 : decide ((n : Int) < 0) = false := by simp
  go_enter Tryd.func15, Tryd.ntmps15
  go_wp2_with fail
  refine c1.out.mono ?_
  rintro e w' ⟨rfl, rfl⟩
  go_wp2_with fail
  clear e1 e2
  go_loop [0, 6] (fun a i => ∃ y q : Nat, 1970 ≤ y ∧ y ≤ 9999 ∧ ay y + q = n ∧ i = .int .i64 y ∧ a = .int .i64 q) (fun a _ => (intOf a).toNat)
  case atStart => exact ⟨1970, n, by omega, by omega, by rw [ay_first]; omega, rfl, rfl⟩
  case round =>
    obtain ⟨y, q, y1, y2, hq, rfl, rfl⟩ := hrel
    have c2 := Lib.hid (refYear_any y w (by omega))
    have h1 := am_end_ge y
    have h2 := am_end_le y
    have hs : Hid (ay (y + 1) = ay y + am y 13) := ay_step y1
    by_cases hy : am y 13 ≤ q
    · have y3 := Lib.hid (year_lt (n := n) (y := y + 1) hn (by omega) (by rw [hs.out]; omega))
      generalize am y 13 = l at *
      generalize ay y = a at *
      go_wp2_with fail
      refine c2.out.mono ?_
      rintro e w' ⟨rfl, rfl⟩
      go_wp2_with fail
      refine c2.out.mono ?_
      rintro e w' ⟨rfl, rfl⟩
      go_wp2_with fail
      go_round
      case rel => exact ⟨y + 1, q - l, by omega, y3.out, by rw [hs.out]; omega, by go_num, by go_num⟩
      case measure => simp [intOf]; omega
    · have hlt : Hid (∀ m, m = 13 → q < am y m) := fun m e => by rw [e]; exact Nat.lt_of_not_le hy
      have fin : ∀ m, 1 ≤ m → m ≤ 12 → am y m ≤ q → q < am y (m + 1) → Hid (Day n y m (q - am y m + 1)) := fun m m1 m2 h3 h4 => by
        have e : n - ay y = q := by omega
        have := Day.mk' (n := n) (y := y) (m := m) y1 (by omega) hn m1 m2 (by rw [e]; exact h3) (by rw [e]; exact h4)
        rw [e] at this
        exact this
      have Fin := Lib.hid fin
      clear fin
      have hqb : q < 366 := by omega
      generalize am y 13 = l at *
      go_wp2_with fail
      refine c2.out.mono ?_
      rintro e w' ⟨rfl, rfl⟩
      go_wp2_with fail
      clear hy c2 h1 h2
      go_loop [0, 7] (fun a i => ∃ m p : Nat, 1 ≤ m ∧ m ≤ 12 ∧ am y m + p = q ∧ i = .int .i64 m ∧ a = .int .i64 p) (fun a _ => (intOf a).toNat)
      case atStart => exact ⟨1, q, by omega, by omega, by rw [am_one]; omega, rfl, rfl⟩
      case round =>
        obtain ⟨m, p, m1, m2, hp, rfl, rfl⟩ := hrel
        have c3 := Lib.hid (refLong_some y m w y1 y2 m1 m2)
        have hm : Hid (am y (m + 1) = am y m + long y m) := am_step y m1 m2
        have l1 := long_ge y m1 m2
        have l2 := long_le y m1 m2
        by_cases hl : long y m ≤ p
        · have m3 : Hid (m < 12) := by
            rcases Nat.lt_or_ge m 12 with h | h
            · exact h
            · have := hlt.out (m + 1) (by omega)
              rw [hm.out] at this
              omega
          generalize long y m = k at *
          generalize am y m = b at *
          go_wp2_with fail
          refine c3.out.mono ?_
          rintro e w' ⟨rfl, rfl⟩
          go_wp2_with fail
          refine c3.out.mono ?_
          rintro e w' ⟨rfl, rfl⟩
          go_wp2_with fail
          go_round
          case rel => have := m3.out; exact ⟨m + 1, p - k, by omega, by omega, by rw [hm.out]; omega, by go_num, by go_num⟩
          case measure => simp [intOf]; omega
        · have fin := Lib.hid (Fin.out m m1 m2 (by omega) (by rw [hm.out]; omega)).out
          have e : q - am y m + 1 = p + 1 := by omega
          rw [e] at fin
          clear e
          generalize long y m = k at *
          generalize am y m = b at *
          go_wp2_with fail
          refine c3.out.mono ?_
          rintro e w' ⟨rfl, rfl⟩
          go_wp2_with fail
          (try simp only [Exit.inBlock, Exit.then])
          refine bodyPost_ret (results_four rfl _ _ _) rfl ?_
          exact ⟨⟨y, m, p + 1, rfl, fin.out⟩, rfl⟩

set_option maxRecDepth 100000 in
theorem refDate_none (n : Int) (w : World) (h : ¬ (0 ≤ n ∧ n < 2932897)) :
    Calls Tryd.prog 15 #[.int .i64 n] w fun e w' => e = .returned (.tuple #[.int .i64 0, .int .i64 0, .int .i64 0, .bool false]) ∧ w = w' := by
  have c1 := Lib.hid (most_any w)
  by_cases h1 : 0 ≤ n
  · have h2 : 2932896 < n := by omega
    clear h
    go_enter Tryd.func15, Tryd.ntmps15
    go_wp2_with fail
    refine c1.out.mono ?_
    rintro e w' ⟨rfl, rfl⟩
    go_wp2_with fail
    (try simp only [Exit.inBlock, Exit.then])
    refine bodyPost_ret (results_four rfl _ _ _) rfl ?_
    exact ⟨rfl, rfl⟩
  · clear h
    go_enter Tryd.func15, Tryd.ntmps15
    go_wp2_with fail
    (try simp only [Exit.inBlock, Exit.then])
    refine bodyPost_ret (results_four rfl _ _ _) rfl ?_
    exact ⟨rfl, rfl⟩

theorem day_a : Day 11017 2000 3 1 := ⟨by decide, by decide, by decide, by decide, by decide, by decide, by decide⟩
theorem day_b : Day 19723 2024 1 1 := ⟨by decide, by decide, by decide, by decide, by decide, by decide, by decide⟩
theorem no_day : ¬ IsDate 1900 1 1 := by
  unfold IsDate
  rw [longZ_none (by omega)]
  omega

/-- The answers that the document fixes. -/
theorem awake_any (w : World) (t : Tab w) : Calls Tryd.prog 11 #[] w fun e w' => e = .returned (.bool true) ∧ w = w' := by
  have c1 : Hid (Calls Tryd.prog 9 #[.int .i64 2000, .int .i64 3, .int .i64 1] w fun e w' => e = .returned (.tuple #[.int .i64 11017, .int .i64 0]) ∧ w = w') := days_some day_a w t
  have c2 : Hid (Calls Tryd.prog 14 #[.int .i64 19723] w fun e w' => e = .returned (.tuple #[.int .i64 2024, .int .i64 1, .int .i64 1, .int .i64 0]) ∧ w = w') := by
    refine (date_some 19723 w t (by omega)).mono ?_
    rintro e w' ⟨⟨y, m, d, rfl, h⟩, rfl⟩
    obtain ⟨rfl, rfl, rfl⟩ := h.same day_b rfl
    exact ⟨rfl, rfl⟩
  have c3 : Hid (Calls Tryd.prog 16 #[.int .i64 19723] w fun e w' => e = .returned (.tuple #[.int .i64 1, .int .i64 0]) ∧ w = w') := weekday_any 19723 w (by omega) (by omega)
  have c4 : Hid (Calls Tryd.prog 9 #[.int .i64 1900, .int .i64 1, .int .i64 1] w fun e w' => e = .returned (.tuple #[.int .i64 0, .int .i64 2]) ∧ w = w') := days_none 1900 1 1 no_day w t
  clear t
  go_enter Tryd.func11, Tryd.ntmps11
  go_wp2_with fail
  refine c1.out.mono ?_
  rintro e w' ⟨rfl, rfl⟩
  go_wp2_with fail
  refine c2.out.mono ?_
  rintro e w' ⟨rfl, rfl⟩
  go_wp2_with fail
  refine c3.out.mono ?_
  rintro e w' ⟨rfl, rfl⟩
  go_wp2_with fail
  refine c4.out.mono ?_
  rintro e w' ⟨rfl, rfl⟩
  go_wp2_with fail
  go_ret
  exact ⟨rfl, rfl⟩
end Go.Proofs.YtehjmlpglhapbaaDoor
