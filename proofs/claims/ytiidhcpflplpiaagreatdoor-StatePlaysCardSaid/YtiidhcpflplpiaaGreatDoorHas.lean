/-
  The document's has, Day and Minute (layer 4).
-/
import Derived.Test.YtiidhcpflplpiaaGreatDoorNum
import Derived.Deep.QuietTactic
import Derived.BigQuiet
import Derived.WalkSmall
namespace Go.Proofs.YtiidhcpflplpiaaGreatDoor
open Go.RowKit Crn

theorem bit_test (set k : Nat) (h : set < 18446744073709551616) : (bits .and .u64 ((set : Int) / 2 ^ k) 1 == 1) = set.testBit k := by
  have e0 : (set : Int) / 2 ^ k = ((set / 2 ^ k : Nat) : Int) := by simp
  have hle : set / 2 ^ k ≤ set := Nat.div_le_self _ _
  rw [e0, Nat.testBit_eq_decide_div_mod_eq]
  generalize set / 2 ^ k = q at *
  rw [and_one_u64 _ (by omega) (by omega), Bool.eq_iff_iff]
  simp only [beq_iff_eq, decide_eq_true_eq]
  omega

set_option maxRecDepth 100000 in
theorem has_any (set : Nat) (n : Int) (w : World) (hs : set < 18446744073709551616) (h1 : -9223372036854775808 ≤ n) (h2 : n ≤ 9223372036854775807) :
    Calls Tryz.prog 68 #[.int .u64 set, .int .i64 n] w fun e w' => e = .returned (.bool (has set n)) ∧ w = w' := by
  by_cases g1 : 0 ≤ n
  · by_cases g2 : n ≤ 63
    · obtain ⟨k, rfl⟩ : ∃ k : Nat, n = (k : Int) := ⟨n.toNat, by omega⟩
      have hb := Lib.hid (bit_test set k hs)
      have hh : Hid (has set (k : Int) = set.testBit k) := by
        unfold has
        rw [Int.toNat_natCast, show decide (0 ≤ (k : Int) ∧ (k : Int) ≤ 63) = true by simpa using g2]
        exact Bool.true_and _
      go_enter Tryz.func68, Tryz.ntmps68
      go_wp2_with fail
      go_ret
      exact ⟨ret_bool (by rw [hh.out]; exact hb.out), rfl⟩
    · have hh : Hid (has set n = false) := by
        unfold has
        rw [show decide (0 ≤ n ∧ n ≤ 63) = false by simp; omega]
        exact Bool.false_and _
      go_enter Tryz.func68, Tryz.ntmps68
      go_wp2_with fail
      go_ret
      exact ⟨ret_bool (by rw [hh.out]), rfl⟩
  · have hh : Hid (has set n = false) := by
      unfold has
      rw [show decide (0 ≤ n ∧ n ≤ 63) = false by simp; omega]
      exact Bool.false_and _
    go_enter Tryz.func68, Tryz.ntmps68
    go_wp2_with fail
    go_ret
    exact ⟨ret_bool (by rw [hh.out]), rfl⟩

/-- A spec as the program holds it. -/
def cellsN (x : SpecN) : Array Value := #[.int .u64 x.min, .int .u64 x.hour, .int .u64 x.dom, .int .u64 x.mon, .int .u64 x.dow, .bool x.anyDom, .bool x.anyDow, .int .i64 x.ahead]
def specV (x : SpecN) : Value := .agg (cellsN x)
/-- Its numbers fit. -/
structure Fits (x : SpecN) : Prop where
  min : x.min < 18446744073709551616
  hour : x.hour < 18446744073709551616
  dom : x.dom < 18446744073709551616
  mon : x.mon < 18446744073709551616
  dow : x.dow < 18446744073709551616
  a1 : -9223372036854775808 ≤ x.ahead
  a2 : x.ahead ≤ 9223372036854775807

theorem has_q (set : Nat) (n : Int) (hs : set < 18446744073709551616) (h1 : -9223372036854775808 ≤ n) (h2 : n ≤ 9223372036854775807) (w : World) (k : Nat) :
    Calls Tryz.prog 68 #[.int .u64 set, .int .i64 n] (w.drewN k) fun e w' => e = .returned (.bool (has set n)) ∧ ∃ m, w' = w.drewN m :=
  (has_any set n _ hs h1 h2).mono fun _ _ ⟨he, hw⟩ => ⟨he, k, hw.symm⟩

set_option maxRecDepth 100000 in
set_option maxHeartbeats 400000 in
theorem minute_any (x : SpecN) (hx : Fits x) (hour m : Int) (w : World) (h1 : -9223372036854775808 ≤ hour) (h2 : hour ≤ 9223372036854775807) (m1 : -9223372036854775808 ≤ m) (m2 : m ≤ 9223372036854775807) :
    Calls Tryz.prog 52 #[specV x, .int .i64 hour, .int .i64 m] w fun e w' => e = .returned (.bool (minute x hour m)) ∧ Below w.heap.size w w' := by
  have ca := Lib.hid (fun W => has_any x.hour hour W hx.hour h1 h2)
  have cb := Lib.hid (fun W => has_any x.min m W hx.min m1 m2)
  have hm : Hid (minute x hour m = (has x.hour hour && has x.min m)) := rfl
  obtain ⟨x0, x1, x2, x3, x4, x5, x6, x7⟩ := x
  simp only [specV, cellsN] at *
  generalize has x1 hour = p at *
  generalize has x0 m = q at *
  go_enter Tryz.func52, Tryz.ntmps52
  go_wp2_with fail
  refine (ca.out _).mono ?_
  rintro e w' ⟨rfl, rfl⟩
  cases p
  · go_wp2_with fail
    go_ret
    exact ⟨ret_bool (by rw [hm.out]; rfl), (Below.refl _ _).alloc (Nat.le_refl _) _⟩
  · go_wp2_with fail
    refine (cb.out _).mono ?_
    rintro e w' ⟨rfl, rfl⟩
    go_wp2_with fail
    go_ret
    exact ⟨ret_bool (by rw [hm.out]; rfl), (Below.refl _ _).alloc (Nat.le_refl _) _⟩

set_option maxRecDepth 100000 in
set_option maxHeartbeats 400000 in
theorem day_any (x : SpecN) (hx : Fits x) (mo d wd : Int) (w : World) (h1 : -9223372036854775808 ≤ mo) (h2 : mo ≤ 9223372036854775807) (d1 : -9223372036854775808 ≤ d) (d2 : d ≤ 9223372036854775807) (w1 : -9223372036854775808 ≤ wd) (w2 : wd ≤ 9223372036854775807) :
    Calls Tryz.prog 51 #[specV x, .int .i64 mo, .int .i64 d, .int .i64 wd] w fun e w' => e = .returned (.bool (day x mo d wd)) ∧ Below w.heap.size w w' := by
  have ca := Lib.hid (fun W k => has_q x.dom d hx.dom d1 d2 W k)
  have cb := Lib.hid (fun W k => has_q x.dow wd hx.dow w1 w2 W k)
  have cc := Lib.hid (fun W => has_any x.mon mo W hx.mon h1 h2)
  have hm : Hid (day x mo d wd = (has x.mon mo && (if x.anyDom || x.anyDow then has x.dom d && has x.dow wd else has x.dom d || has x.dow wd))) := rfl
  obtain ⟨x0, x1, x2, x3, x4, x5, x6, x7⟩ := x
  simp only [specV, cellsN] at *
  generalize has x3 mo = p at *
  generalize has x2 d = q at *
  generalize has x4 wd = r at *
  go_enter Tryz.func51, Tryz.ntmps51
  go_wp2_with fail
  have c2 : (w.alloc (.cells #[.int .u64 x0, .int .u64 x1, .int .u64 x2, .int .u64 x3, .int .u64 x4, .bool x5, .bool x6, .int .i64 x7] 64)).cell? ⟨w.heap.size, 2, none⟩ = some (.int .u64 x2) := by rw [World.cell?_alloc_new]; rfl
  have c3 : (w.alloc (.cells #[.int .u64 x0, .int .u64 x1, .int .u64 x2, .int .u64 x3, .int .u64 x4, .bool x5, .bool x6, .int .i64 x7] 64)).cell? ⟨w.heap.size, 3, none⟩ = some (.int .u64 x3) := by rw [World.cell?_alloc_new]; rfl
  have c4 : (w.alloc (.cells #[.int .u64 x0, .int .u64 x1, .int .u64 x2, .int .u64 x3, .int .u64 x4, .bool x5, .bool x6, .int .i64 x7] 64)).cell? ⟨w.heap.size, 4, none⟩ = some (.int .u64 x4) := by rw [World.cell?_alloc_new]; rfl
  have c5 : (w.alloc (.cells #[.int .u64 x0, .int .u64 x1, .int .u64 x2, .int .u64 x3, .int .u64 x4, .bool x5, .bool x6, .int .i64 x7] 64)).cell? ⟨w.heap.size, 5, none⟩ = some (.bool x5) := by rw [World.cell?_alloc_new]; rfl
  have c6 : (w.alloc (.cells #[.int .u64 x0, .int .u64 x1, .int .u64 x2, .int .u64 x3, .int .u64 x4, .bool x5, .bool x6, .int .i64 x7] 64)).cell? ⟨w.heap.size, 6, none⟩ = some (.bool x6) := by rw [World.cell?_alloc_new]; rfl
  have b1 := Lib.hid ((Below.refl w.heap.size w).alloc (Nat.le_refl _) (.cells #[.int .u64 x0, .int .u64 x1, .int .u64 x2, .int .u64 x3, .int .u64 x4, .bool x5, .bool x6, .int .i64 x7] 64))
  generalize w.alloc (.cells #[.int .u64 x0, .int .u64 x1, .int .u64 x2, .int .u64 x3, .int .u64 x4, .bool x5, .bool x6, .int .i64 x7] 64) = wa at *
  go_quiet (first | (go_at_call 68; with_reducible exact ca.out _ _) | (go_at_call 68; with_reducible exact cb.out _ _))
  replace b1 := Lib.hid (below_drewN b1.out nq)
  have c3' : (wa.drewN nq).cell? ⟨w.heap.size, 3, none⟩ = some (.int .u64 x3) := c3
  have c5' : (wa.drewN nq).cell? ⟨w.heap.size, 5, none⟩ = some (.bool x5) := c5
  have c6' : (wa.drewN nq).cell? ⟨w.heap.size, 6, none⟩ = some (.bool x6) := c6
  clear c2 c3 c4 c5 c6
  generalize wa.drewN nq = wb at *
  go_wp2_with fail
  refine (cc.out _).mono ?_
  rintro e w' ⟨rfl, rfl⟩
  cases p
  · go_wp2_with fail
    go_ret
    exact ⟨ret_bool (by rw [hm.out]; rfl), b1.out⟩
  · cases x5
    · cases x6
      · cases q
        all_goals
          go_wp2_with fail
          go_ret
          exact ⟨ret_bool (by rw [hm.out]; rfl), b1.out⟩
      · cases q
        all_goals
          go_wp2_with fail
          go_ret
          exact ⟨ret_bool (by rw [hm.out]; rfl), b1.out⟩
    · cases q
      all_goals
        go_wp2_with fail
        go_ret
        exact ⟨ret_bool (by rw [hm.out]; rfl), b1.out⟩
end Go.Proofs.YtiidhcpflplpiaaGreatDoor
