/-
  Days of the program and Days and Most of the document: a date's days, or that there is none.
-/
import Derived.Test.YtiidhcpflplpiaaGreatDoorVMonth
namespace Go.Proofs.YtiidhcpflplpiaaGreatDoor.V
open Go.RowKit Civ

/-- Whether there is such a date. -/
def IsDate (y m d : Int) : Prop := 1 ≤ d ∧ d ≤ longZ y m
theorem isDate_day {y m d : Int} (h : IsDate y m d) : ∃ n a b c : Nat, y = a ∧ m = b ∧ d = c ∧ Day n a b c := by
  obtain ⟨h1, h2⟩ := h
  by_cases hr : 1970 ≤ y ∧ y ≤ 9999 ∧ 1 ≤ m ∧ m ≤ 12
  · obtain ⟨y, rfl⟩ : ∃ n : Nat, y = (n : Int) := ⟨y.toNat, by omega⟩
    obtain ⟨m, rfl⟩ : ∃ n : Nat, m = (n : Int) := ⟨m.toNat, by omega⟩
    obtain ⟨d, rfl⟩ : ∃ n : Nat, d = (n : Int) := ⟨d.toNat, by omega⟩
    rw [longZ_some (by omega) (by omega) (by omega) (by omega)] at h2
    exact ⟨ay y + am y m + d - 1, y, m, d, rfl, rfl, rfl, by omega, by omega, by omega, by omega, by omega, by omega, by omega⟩
  · rw [longZ_none hr] at h2
    omega
theorem day_longZ {n y m d : Nat} (h : Day n y m d) : longZ y m = (long y m : Nat) := longZ_some h.y1 h.y2 h.m1 h.m2
theorem day_isDate {n y m d : Nat} (h : Day n y m d) : IsDate y m d := by
  have := h.d1; have := h.d2
  refine ⟨by omega, ?_⟩
  rw [day_longZ h]
  omega
theorem longZ_le (y m : Int) : 0 ≤ longZ y m ∧ longZ y m ≤ 31 := by
  by_cases hr : 1970 ≤ y ∧ y ≤ 9999 ∧ 1 ≤ m ∧ m ≤ 12
  · obtain ⟨y, rfl⟩ : ∃ n : Nat, y = (n : Int) := ⟨y.toNat, by omega⟩
    obtain ⟨m, rfl⟩ : ∃ n : Nat, m = (n : Int) := ⟨m.toNat, by omega⟩
    rw [longZ_some (by omega) (by omega) (by omega) (by omega)]
    have := long_le y (m := m) (by omega) (by omega)
    omega
  · rw [longZ_none hr]; omega

set_option maxHeartbeats 400000 in
theorem days_some {n y m d : Nat} (h : Day n y m d) (w : World) (t : Tab w) :
    Calls Tryz.prog 171 #[.int .i64 y, .int .i64 m, .int .i64 d] w fun e w' => e = .returned (.tuple #[.int .i64 n, .int .i64 0]) ∧ w = w' := by
  have hlt := h.lt
  have c1 := Lib.hid (long_some y m w t h.y1 h.y2 h.m1 h.m2)
  have c2 := Lib.hid (aheadOfYear_any y w h.y1 (by have := h.y2; omega))
  have c3 := Lib.hid (aheadOfMonth_any y m w t (by have := h.y2; omega) h.m1 (by have := h.m2; omega))
  obtain ⟨y1, y2, m1, m2, d1, d2, e⟩ := h
  generalize ay y = a at *
  generalize am y m = b at *
  generalize long y m = l at *
  clear t
  go_enter Tryz.func171, Tryz.ntmps171
  go_wp2_with fail
  refine c1.out.mono ?_
  rintro e w' ⟨rfl, rfl⟩
  go_wp2_with fail
  refine c2.out.mono ?_
  rintro e w' ⟨rfl, rfl⟩
  go_wp2_with fail
  refine c3.out.mono ?_
  rintro e w' ⟨rfl, rfl⟩
  go_wp2_with fail
  go_ret2
  have E : (a : Int) + b + d - 1 = n := by omega
  refine ⟨?_, rfl⟩
  rw [← E]; rfl

set_option maxHeartbeats 400000 in
theorem days_none (y m d : Int) (h : ¬ IsDate y m d) (w : World) (t : Tab w) :
    Calls Tryz.prog 171 #[.int .i64 y, .int .i64 m, .int .i64 d] w fun e w' => e = .returned (.tuple #[.int .i64 0, .int .i64 2]) ∧ w = w' := by
  have c1 := Lib.hid (long_any y m w t)
  unfold IsDate at h
  generalize longZ y m = l at *
  clear t
  by_cases h1 : 1 ≤ d
  · have h2 : ¬ d ≤ l := fun h2 => h ⟨h1, h2⟩
    clear h
    go_enter Tryz.func171, Tryz.ntmps171
    go_wp2_with fail
    refine c1.out.mono ?_
    rintro e w' ⟨rfl, rfl⟩
    go_wp2_with fail
    go_ret2
    exact ⟨rfl, rfl⟩
  · clear h
    go_enter Tryz.func171, Tryz.ntmps171
    go_wp2_with fail
    go_ret2
    exact ⟨rfl, rfl⟩

set_option maxHeartbeats 400000 in
theorem refDays_none (y m d : Int) (h : ¬ IsDate y m d) (w : World) :
    Calls Tryz.prog 69 #[.int .i64 y, .int .i64 m, .int .i64 d] w fun e w' => e = .returned (.int .i64 (-1)) ∧ w = w' := by
  have c1 := Lib.hid (refLong_any y m w)
  have hl := longZ_le y m
  unfold IsDate at h
  generalize longZ y m = l at *
  by_cases h0 : l = 0
  · subst h0
    clear h
    go_enter Tryz.func69, Tryz.ntmps69
    go_wp2_with fail
    refine c1.out.mono ?_
    rintro e w' ⟨rfl, rfl⟩
    go_wp2_with fail
    go_ret
    exact ⟨rfl, rfl⟩
  · have e0 : (l == 0) = false := by simpa using h0
    by_cases h1 : 1 ≤ d
    · have h2 : ¬ d ≤ l := fun h2 => h ⟨h1, h2⟩
      clear h
      go_enter Tryz.func69, Tryz.ntmps69
      go_wp2_with fail
      refine c1.out.mono ?_
      rintro e w' ⟨rfl, rfl⟩
      go_wp2_with fail
      refine c1.out.mono ?_
      rintro e w' ⟨rfl, rfl⟩
      go_wp2_with fail
      go_ret
      exact ⟨rfl, rfl⟩
    · clear h
      go_enter Tryz.func69, Tryz.ntmps69
      go_wp2_with fail
      refine c1.out.mono ?_
      rintro e w' ⟨rfl, rfl⟩
      go_wp2_with fail
      go_ret
      exact ⟨rfl, rfl⟩

set_option maxRecDepth 100000 in
set_option maxHeartbeats 1000000 in
theorem refDays_some {n y m d : Nat} (h : Day n y m d) (w : World) :
    Calls Tryz.prog 69 #[.int .i64 y, .int .i64 m, .int .i64 d] w fun e w' => e = .returned (.int .i64 n) ∧ w = w' := by
  have hlt := h.lt
  have c1 := Lib.hid (refLong_some y m w h.y1 h.y2 h.m1 h.m2)
  obtain ⟨y1, y2, m1, m2, d1, d2, e⟩ := h
  have hge := long_ge y m1 m2
  have e0 : (((long y m : Nat) : Int) == 0) = false := by simp; omega
  have e1 : decide ((d : Int) < 1) = false := by simp; omega
  have e2 : decide (long y m < d) = false := by simp; omega
  generalize long y m = l at *
  go_enter Tryz.func69, Tryz.ntmps69
  go_wp2_with fail
  refine c1.out.mono ?_
  rintro e w' ⟨rfl, rfl⟩
  go_wp2_with fail
  refine c1.out.mono ?_
  rintro e w' ⟨rfl, rfl⟩
  go_wp2_with fail
  clear e0 e1 e2 d2 hge
  go_loop [7, 8] (fun a i => ∃ k : Nat, 1970 ≤ k ∧ k ≤ y ∧ i = .int .i64 k ∧ a = .int .i64 (ay k : Nat)) (fun _ i => y - (intOf i).toNat)
  case atStart => exact ⟨1970, by omega, by omega, rfl, rfl⟩
  case round =>
    obtain ⟨k, k1, k2, rfl, rfl⟩ := hrel
    by_cases hk : k < y
    · have hs := ay_step k1
      have hb := ay_le k1
      have hb2 := am_end_le k
      have c2 := Lib.hid (refYear_any k w (by omega))
      have hs' : Hid (ay (k + 1) = ay k + am k 13) := hs
      clear hs
      generalize ay k = a at *
      generalize am k 13 = b at *
      go_wp2_with fail
      refine c2.out.mono ?_
      rintro e w' ⟨rfl, rfl⟩
      go_wp2_with fail
      go_round
      case rel => exact ⟨k + 1, by omega, by omega, by go_num, by rw [hs'.out]; go_num⟩
      case measure => simp [intOf]; omega
    · obtain rfl : k = y := by omega
      have hb := ay_le k1
      go_wp2_with fail
      go_loop [7, 9] (fun a i => ∃ j : Nat, 1 ≤ j ∧ j ≤ m ∧ i = .int .i64 j ∧ a = .int .i64 (ay k + am k j : Nat)) (fun _ i => m - (intOf i).toNat)
      case atStart => exact ⟨1, by omega, by omega, rfl, by rw [am_one]; rfl⟩
      case round =>
        obtain ⟨j, j1, j2, rfl, rfl⟩ := hrel
        have hb2 := am_le k j1 (by omega)
        by_cases hj : j < m
        · have hs : Hid (am k (j + 1) = am k j + long k j) := am_step k j1 (by omega)
          have hl := long_le k j1 (by omega)
          have c2 := Lib.hid (refLong_some k j w y1 y2 j1 (by omega))
          generalize long k j = l at *
          generalize hA : am k j = b at *
          generalize hB : ay k = a at *
          go_wp2_with fail
          refine c2.out.mono ?_
          rintro e w' ⟨rfl, rfl⟩
          go_wp2_with fail
          go_round
          case rel => exact ⟨j + 1, by omega, by omega, by go_num, by rw [hs.out]; go_num⟩
          case measure => simp [intOf]; omega
        · obtain rfl : j = m := by omega
          generalize hA : am k j = b at *
          generalize hB : ay k = a at *
          go_wp2_with fail
          go_ret
          exact ⟨ret_int (by omega), rfl⟩

theorem day_last : Day 2932896 9999 12 31 := ⟨by decide, by decide, by decide, by decide, by decide, by decide, by decide⟩
theorem most_any (w : World) : Calls Tryz.prog 53 #[] w fun e w' => e = .returned (.int .i64 2932896) ∧ w = w' := by
  go_enter Tryz.func53, Tryz.ntmps53
  go_wp2_with fail
  refine (refDays_some day_last w).mono ?_
  rintro e w' ⟨rfl, rfl⟩
  go_wp2_with fail
  go_ret
  exact ⟨rfl, rfl⟩
end Go.Proofs.YtiidhcpflplpiaaGreatDoor.V
