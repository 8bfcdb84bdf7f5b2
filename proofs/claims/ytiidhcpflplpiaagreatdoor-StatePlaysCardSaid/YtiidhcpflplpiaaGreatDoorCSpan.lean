/-
  The program's has of a span, every, has of a set, Day and Minute (layer 4).
-/
import Derived.Test.YtiidhcpflplpiaaGreatDoorCNum
import Derived.Test.YtiidhcpflplpiaaGreatDoorPart
import Derived.Test.YtiidhcpflplpiaaGreatDoorHas
set_option linter.unusedVariables false
namespace Go.Proofs.YtiidhcpflplpiaaGreatDoor
open Go.RowKit Crn

def spanV (a b : Nat) : Value := .agg #[.int .i64 a, .int .i64 b]

set_option maxRecDepth 100000 in
theorem spanHas_any (a b n : Nat) (w : World) (ha : a ≤ 100) (hb : b ≤ 100) (hn : n ≤ 100) :
    Calls Tryz.prog 183 #[spanV a b, .int .i64 n] w fun e w' => e = .returned (.bool (decide (a ≤ n ∧ n ≤ b))) ∧ Below w.heap.size w w' := by
  unfold spanV
  by_cases h1 : a ≤ n
  · have hd : Hid (decide (a ≤ n ∧ n ≤ b) = decide (n ≤ b)) := by simp [Hid, h1]
    go_enter Tryz.func183, Tryz.ntmps183
    go_wp2_with fail
    go_ret
    exact ⟨ret_bool (by rw [hd.out]), (Below.refl _ _).alloc (Nat.le_refl _) _⟩
  · have hd : Hid (decide (a ≤ n ∧ n ≤ b) = false) := by simp [Hid, h1]
    go_enter Tryz.func183, Tryz.ntmps183
    go_wp2_with fail
    go_ret
    exact ⟨ret_bool (by rw [hd.out]), (Below.refl _ _).alloc (Nat.le_refl _) _⟩

set_option maxRecDepth 100000 in
set_option maxHeartbeats 400000 in
theorem every_any (a b st : Nat) (w : World) (ha : a ≤ 63) (hb : b ≤ 63) (h1 : 1 ≤ st) (h2 : st ≤ 99) :
    Calls Tryz.prog 123 #[spanV a b, .int .i64 st] w fun e w' => e = .returned (.int .u64 (bitsN 0 a b st : Nat)) ∧ Below w.heap.size w w' := by
  unfold spanV
  go_enter Tryz.func123, Tryz.ntmps123
  go_wp2_with fail
  go_loop [5, 6] (fun set n => ∃ k m t : Nat, n = .int .i64 m ∧ set = .int .u64 t ∧ m ≤ 200 ∧ t < 18446744073709551616 ∧ b + 1 - m ≤ k ∧ Hid (gatherN 0 b st k m t = bitsN 0 a b st)) (fun _ n => b + 1 - (intOf n).toNat)
  case atStart => exact ⟨64, a, 0, rfl, rfl, by omega, by omega, by omega, rfl⟩
  case round =>
    obtain ⟨k, m, t, rfl, rfl, hm200, ht64, hfuel, hg⟩ := hrel
    by_cases hmt : m ≤ b
    · have hm64 : m < 64 := by omega
      have hn := Lib.hid (gather_next hmt hfuel hg.out)
      rw [show bitN 0 m = 2 ^ m from rfl] at hn
      go_wp2_with fail
      refine ⟨⟨k - 1, m + st, t ||| 2 ^ m, by go_num, by rw [or_pow t m ht64 hm64], by omega, or_lt ht64 hm64, by omega, hn⟩, by simp [intOf]; omega⟩
    · have hn := Lib.hid (run_stop (st := st) (k := k) (set := t) (f := 0) hmt)
      go_wp2_with fail
      go_ret
      exact ⟨ret_int (by rw [← hg.out, hn.out]), (Below.refl _ _).alloc (Nat.le_refl _) _⟩

set_option maxRecDepth 100000 in
theorem setHas_any (set : Nat) (n : Int) (w : World) (hs : set < 18446744073709551616) (h1 : -9223372036854775808 ≤ n) (h2 : n ≤ 9223372036854775807) :
    Calls Tryz.prog 166 #[.int .u64 set, .int .i64 n] w fun e w' => e = .returned (.bool (has set n)) ∧ w = w' := by
  by_cases g1 : 0 ≤ n
  · by_cases g2 : n < 64
    · obtain ⟨k, rfl⟩ : ∃ k : Nat, n = (k : Int) := ⟨n.toNat, by omega⟩
      have hb := Lib.hid (bit_test set k hs)
      have hh : Hid (has set (k : Int) = set.testBit k) := by
        unfold has
        rw [Int.toNat_natCast, show decide (0 ≤ (k : Int) ∧ (k : Int) ≤ 63) = true by simp; omega]
        exact Bool.true_and _
      go_enter Tryz.func166, Tryz.ntmps166
      go_wp2_with fail
      go_ret
      exact ⟨ret_bool (by rw [hh.out]; exact hb.out), rfl⟩
    · have hh : Hid (has set n = false) := by
        unfold has
        rw [show decide (0 ≤ n ∧ n ≤ 63) = false by simp; omega]
        exact Bool.false_and _
      go_enter Tryz.func166, Tryz.ntmps166
      go_wp2_with fail
      go_ret
      exact ⟨ret_bool (by rw [hh.out]), rfl⟩
  · have hh : Hid (has set n = false) := by
      unfold has
      rw [show decide (0 ≤ n ∧ n ≤ 63) = false by simp; omega]
      exact Bool.false_and _
    go_enter Tryz.func166, Tryz.ntmps166
    go_wp2_with fail
    go_ret
    exact ⟨ret_bool (by rw [hh.out]), rfl⟩

set_option maxRecDepth 100000 in
set_option maxHeartbeats 400000 in
theorem cMinute_any (x : SpecN) (hx : Fits x) (hour m : Int) (w : World) (h1 : -9223372036854775808 ≤ hour) (h2 : hour ≤ 9223372036854775807) (m1 : -9223372036854775808 ≤ m) (m2 : m ≤ 9223372036854775807) :
    Calls Tryz.prog 147 #[specV x, .int .i64 hour, .int .i64 m] w fun e w' => e = .returned (.bool (minute x hour m)) ∧ Below w.heap.size w w' := by
  have ca := Lib.hid (fun W => setHas_any x.hour hour W hx.hour h1 h2)
  have cb := Lib.hid (fun W => setHas_any x.min m W hx.min m1 m2)
  have hm : Hid (minute x hour m = (has x.hour hour && has x.min m)) := rfl
  obtain ⟨x0, x1, x2, x3, x4, x5, x6, x7⟩ := x
  simp only [specV, cellsN] at *
  generalize has x1 hour = p at *
  generalize has x0 m = q at *
  go_enter Tryz.func147, Tryz.ntmps147
  go_wp2_with fail
  refine (ca.out _).mono ?_
  rintro e w' ⟨rfl, rfl⟩
  cases p
  · go_wp2_with fail
    go_ret
    exact ⟨ret_bool (by rw [hm.out]; rfl), (Below.refl _ _).alloc (Nat.le_refl _) _⟩
  · go_wp2_with fail
    refine (cb.out _).mono ?_
    rintro e w' ⟨rfl, rfl⟩
    go_wp2_with fail
    go_ret
    exact ⟨ret_bool (by rw [hm.out]; rfl), (Below.refl _ _).alloc (Nat.le_refl _) _⟩

set_option maxRecDepth 100000 in
set_option maxHeartbeats 400000 in
theorem cDay_any (x : SpecN) (hx : Fits x) (mo d wd : Int) (w : World) (h1 : -9223372036854775808 ≤ mo) (h2 : mo ≤ 9223372036854775807) (d1 : -9223372036854775808 ≤ d) (d2 : d ≤ 9223372036854775807) (w1 : -9223372036854775808 ≤ wd) (w2 : wd ≤ 9223372036854775807) :
    Calls Tryz.prog 150 #[specV x, .int .i64 mo, .int .i64 d, .int .i64 wd] w fun e w' => e = .returned (.bool (day x mo d wd)) ∧ Below w.heap.size w w' := by
  have ca := Lib.hid (fun W => setHas_any x.dom d W hx.dom d1 d2)
  have cb := Lib.hid (fun W => setHas_any x.dow wd W hx.dow w1 w2)
  have cc := Lib.hid (fun W => setHas_any x.mon mo W hx.mon h1 h2)
  have hm : Hid (day x mo d wd = (has x.mon mo && (if x.anyDom || x.anyDow then has x.dom d && has x.dow wd else has x.dom d || has x.dow wd))) := rfl
  obtain ⟨x0, x1, x2, x3, x4, x5, x6, x7⟩ := x
  simp only [specV, cellsN] at *
  generalize has x3 mo = p at *
  generalize has x2 d = q at *
  generalize has x4 wd = r at *
  go_enter Tryz.func150, Tryz.ntmps150
  go_wp2_with fail
  refine (cc.out _).mono ?_
  rintro e w' ⟨rfl, rfl⟩
  cases p
  · go_wp2_with fail
    go_ret
    exact ⟨ret_bool (by rw [hm.out]; rfl), (Below.refl _ _).alloc (Nat.le_refl _) _⟩
  · cases x5 <;> cases x6 <;> cases q
    all_goals
      go_wp2_with fail
      refine (ca.out _).mono ?_
      rintro e w' ⟨rfl, rfl⟩
      go_wp2_with fail
      try
        refine (cb.out _).mono ?_
        rintro e w' ⟨rfl, rfl⟩
        go_wp2_with fail
      go_ret
      exact ⟨ret_bool (by rw [hm.out]; rfl), (Below.refl _ _).alloc (Nat.le_refl _) _⟩
end Go.Proofs.YtiidhcpflplpiaaGreatDoor
