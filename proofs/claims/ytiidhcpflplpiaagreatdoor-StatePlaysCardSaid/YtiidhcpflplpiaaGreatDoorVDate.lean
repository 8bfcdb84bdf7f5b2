/-
  Date of the program and Date of the document: the one date of a day, or that there is none.
-/
import Derived.Test.YtiidhcpflplpiaaGreatDoorVDays
namespace Go.Proofs.YtiidhcpflplpiaaGreatDoor.V
open Go.RowKit Civ

theorem year_lt {n y : Nat} (hn : n < 2932897) (h1 : 1970 ≤ y) (h : ay y ≤ n) : y ≤ 9999 := by
  rcases Nat.lt_or_ge y 10000 with h | h
  · omega
  · have := ay_mono (a := 10000) (b := y) (by omega) h
    have := ay_last
    omega

set_option maxRecDepth 100000 in
set_option maxHeartbeats 400000 in
theorem yearOf_any (n : Nat) (w : World) (hn : n < 2932897) :
    Calls Tryz.prog 168 #[.int .i64 n] w fun e w' => ∃ y : Nat, e = .returned (.int .i64 y) ∧ 1970 ≤ y ∧ ay y ≤ n ∧ n < ay (y + 1) ∧ w = w' := by
  go_enter Tryz.func168, Tryz.ntmps168
  go_wp2_with fail
  go_loop [3] (fun i => ∃ y : Nat, 1970 ≤ y ∧ y ≤ 10010 ∧ i = .int .i64 y ∧ n < ay (y + 1)) (fun i => (intOf i).toNat)
  case atStart =>
    have := ay_ge (y := 1970 + n / 365 + 1) (by omega)
    exact ⟨1970 + n / 365, by omega, by omega, by go_num, by omega⟩
  case round =>
    obtain ⟨y, y1, y2, rfl, h⟩ := hrel
    have h' : Hid (n < ay (y + 1)) := h
    have h0 := Lib.hid ay_first
    have c := Lib.hid (aheadOfYear_any y w y1 (by omega))
    have hE := ay_le y1
    clear h
    by_cases hy : ay y ≤ n
    · have hy' : Hid (ay y ≤ n) := hy
      generalize hA : ay y = a at *
      go_wp2_with fail
      refine c.out.mono ?_
      rintro e w' ⟨rfl, rfl⟩
      go_wp2_with fail
      go_ret
      exact ⟨y, rfl, y1, by omega, h'.out, rfl⟩
    · have hne : Hid (1970 < y) := by
        rcases Nat.lt_or_ge 1970 y with h | h
        · exact h
        · obtain rfl : y = 1970 := by omega
          exact absurd (by rw [h0.out]; omega) hy
      have hlt : Hid (n < ay (y - 1 + 1)) := by rw [Nat.sub_add_cancel (by omega)]; exact Nat.lt_of_not_le hy
      generalize hA : ay y = a at *
      go_wp2_with fail
      refine c.out.mono ?_
      rintro e w' ⟨rfl, rfl⟩
      go_wp2_with fail
      go_round
      case rel => have := hne.out; exact ⟨y - 1, by omega, by omega, by go_num, hlt.out⟩
      case measure => simp [intOf]; omega

set_option maxRecDepth 100000 in
set_option maxHeartbeats 400000 in
theorem monthOf_any (y d : Nat) (w : World) (t : Tab w) (hy : y ≤ 100000) (hd : d < am y 13) :
    Calls Tryz.prog 169 #[.int .i64 y, .int .i64 d] w fun e w' => ∃ m : Nat, e = .returned (.int .i64 m) ∧ 1 ≤ m ∧ m ≤ 12 ∧ am y m ≤ d ∧ d < am y (m + 1) ∧ w = w' := by
  have t' := Lib.hid t
  clear t
  have h13 := am_end_le y
  go_enter Tryz.func169, Tryz.ntmps169
  go_wp2_with fail
  go_loop [5] (fun i => ∃ m : Nat, 1 ≤ m ∧ m ≤ 12 ∧ i = .int .i64 m ∧ d < am y (m + 1)) (fun i => (intOf i).toNat)
  case atStart => exact ⟨12, by omega, by omega, rfl, hd⟩
  case round =>
    obtain ⟨m, m1, m2, rfl, h⟩ := hrel
    have h' : Hid (d < am y (m + 1)) := h
    have h0 := Lib.hid (am_one y)
    have c := Lib.hid (aheadOfMonth_any y m w t'.out hy m1 (by omega))
    have hE := am_le y m1 (by omega)
    clear h
    by_cases hm : am y m ≤ d
    · generalize hA : am y m = a at *
      go_wp2_with fail
      refine c.out.mono ?_
      rintro e w' ⟨rfl, rfl⟩
      go_wp2_with fail
      go_ret
      exact ⟨m, rfl, m1, m2, by omega, h'.out, rfl⟩
    · have hne : Hid (1 < m) := by
        rcases Nat.lt_or_ge 1 m with h | h
        · exact h
        · obtain rfl : m = 1 := by omega
          exact absurd (by rw [h0.out]; omega) hm
      have hlt : Hid (d < am y (m - 1 + 1)) := by rw [Nat.sub_add_cancel (by omega)]; exact Nat.lt_of_not_le hm
      generalize hA : am y m = a at *
      go_wp2_with fail
      refine c.out.mono ?_
      rintro e w' ⟨rfl, rfl⟩
      go_wp2_with fail
      go_round
      case rel => have := hne.out; exact ⟨m - 1, by omega, by omega, by go_num, hlt.out⟩
      case measure => simp [intOf]; omega

theorem results_four {fn : Func} {t u v x : Tmp} (h : fn.results = #[.tmp t, .tmp u, .tmp v, .tmp x]) (tmps : Array Value) (P : Program) (w : World) :
    (results fn tmps).run P w = .ok (.tuple #[tmps.getD t undef, tmps.getD u undef, tmps.getD v undef, tmps.getD x undef]) w := by
  simp [results, h]

set_option maxRecDepth 100000 in
set_option maxHeartbeats 400000 in
theorem date_some (n : Nat) (w : World) (t : Tab w) (hn : n < 2932897) :
    Calls Tryz.prog 148 #[.int .i64 n] w fun e w' => (∃ y m d : Nat, e = .returned (.tuple #[.int .i64 y, .int .i64 m, .int .i64 d, .int .i64 0]) ∧ Day n y m d) ∧ w = w' := by
  have hd : decide (0 ≤ (n : Int) ∧ (n : Int) < 2932897) = true := by simp; omega
  have c1 := Lib.hid (isDay_any n w (by omega) (by omega))
  rw [hd] at c1
  have c2 := Lib.hid (yearOf_any n w hn)
  clear hd
  go_enter Tryz.func148, Tryz.ntmps148
  go_wp2_with fail
  refine c1.out.mono ?_
  rintro e w' ⟨rfl, rfl⟩
  go_wp2_with fail
  refine c2.out.mono ?_
  rintro e w' ⟨y, rfl, y1, h1, h2, rfl⟩
  have y2 := year_lt hn y1 h1
  have hs := ay_step y1
  have hS := am_end_le y
  have c3 := Lib.hid (aheadOfYear_any y w y1 (by omega))
  have c4 := Lib.hid (monthOf_any y (n - ay y) w t (by omega) (by omega))
  have hin : Hid (n < 2932897 ∧ ay y ≤ n) := ⟨hn, h1⟩
  have hlt : n - ay y < 366 := by omega
  have hB := ay_le y1
  clear hs hS h2
  go_wp2_with fail
  refine c3.out.mono ?_
  rintro e w' ⟨rfl, rfl⟩
  have hsub : (n : Int) - (ay y : Nat) = ((n - ay y : Nat) : Int) := by omega
  go_wp2_with fail
  refine c4.out.mono ?_
  rintro e w' ⟨m, rfl, m1, m2, h3, h4, rfl⟩
  have c5 := Lib.hid (aheadOfMonth_any y m w t (by omega) m1 (by omega))
  have fin := Lib.hid (Day.mk' y1 hin.out.2 hin.out.1 m1 m2 h3 h4)
  clear h4 t
  generalize hq : n - ay y = q at *
  generalize hp : am y m = p at *
  go_wp2_with fail
  refine c5.out.mono ?_
  rintro e w' ⟨rfl, rfl⟩
  go_wp2_with fail
  (try simp only [Exit.inBlock, Exit.then])
  refine bodyPost_ret (results_four rfl _ _ _) rfl ?_
  have E : (q : Int) - p + 1 = ((q - p + 1 : Nat) : Int) := by omega
  refine ⟨⟨y, m, q - p + 1, ?_, fin.out⟩, rfl⟩
  rw [← E]; rfl

theorem date_none (n : Int) (w : World) (h1 : -9223372036854775808 ≤ n) (h2 : n ≤ 9223372036854775807) (h : ¬ (0 ≤ n ∧ n < 2932897)) :
    Calls Tryz.prog 148 #[.int .i64 n] w fun e w' => e = .returned (.tuple #[.int .i64 0, .int .i64 0, .int .i64 0, .int .i64 2]) ∧ w = w' := by
  have hd : decide (0 ≤ n ∧ n < 2932897) = false := by simp only [h, decide_false]
  have c1 := Lib.hid (isDay_any n w h1 h2)
  rw [hd] at c1
  clear hd h
  go_enter Tryz.func148, Tryz.ntmps148
  go_wp2_with fail
  refine c1.out.mono ?_
  rintro e w' ⟨rfl, rfl⟩
  go_wp2_with fail
  (try simp only [Exit.inBlock, Exit.then])
  refine bodyPost_ret (results_four rfl _ _ _) rfl ?_
  exact ⟨rfl, rfl⟩
end Go.Proofs.YtiidhcpflplpiaaGreatDoor.V
