/-
  Layer 5: math/bits.TrailingZeros64 over its table, the program's numberFrom and minuteBehind.
-/
import Derived.Test.YtiidhcpflplpiaaGreatDoorCSpan
import Derived.Test.YtiidhcpflplpiaaGreatDoorNList
import Derived.Lib.TrailingZeros
import Derived.Laws.Bits64b
set_option linter.unusedVariables false
namespace Go.Proofs.YtiidhcpflplpiaaGreatDoor
open Go.RowKit Crn

/-- The library's table of de Bruijn's numbers lies in the world. -/
def Bru (w : World) : Prop := ∀ j, j < 64 → w.cell? ⟨1, j, none⟩ = some (.int .u8 (Lib.deBruijn64tab.getD j 0 : Nat))

theorem low_key (x a : Nat) (hx : x < 18446744073709551616) (hx0 : x ≠ 0) (hlow : x &&& (18446744073709551616 - x) = a) :
    IntKind.u64.wrap (bits BinOp.and IntKind.u64 (x : Int) (IntKind.u64.wrap (-(x : Int))) * 285870213051353865) / 288230376151711744 = ((a * 285870213051353865 % 18446744073709551616 / 288230376151711744 : Nat) : Int) := by
  have e1 : IntKind.u64.wrap (-(x : Int)) = ((18446744073709551616 - x : Nat) : Int) := by rw [IntKind.wrap_u64]; omega
  rw [e1, bits_and_u64_nat x _ hx (by omega), hlow, IntKind.wrap_u64]
  omega

set_option maxHeartbeats 1000000 in
theorem zeros_core (x k idx : Nat) (w : World) (hx0 : ((x : Int) == 0) = false)
    (key : IntKind.u64.wrap (bits BinOp.and IntKind.u64 (x : Int) (IntKind.u64.wrap (-(x : Int))) * 285870213051353865) / 288230376151711744 = (idx : Int))
    (hi : idx < 64) (hk : k < 64) (hcell : w.cell? ⟨1, idx, none⟩ = some (.int .u8 k)) :
    Calls Tryz.prog 165 #[.int .u64 x] w fun e w' => e = .returned (.int .i64 k) ∧ w = w' := by
  go_enter Tryz.func165, Tryz.ntmps165
  go_wp2_with (simp only [key])
  go_ret
  exact ⟨rfl, rfl⟩
theorem zeros_none (w : World) : Calls Tryz.prog 165 #[.int .u64 0] w fun e w' => e = .returned (.int .i64 64) ∧ w = w' := by
  go_enter Tryz.func165, Tryz.ntmps165
  go_wp2
  go_ret
  exact ⟨rfl, rfl⟩
theorem zeros_any (x : Nat) (hx : x < 18446744073709551616) (w : World) (t : Bru w) : Calls Tryz.prog 165 #[.int .u64 x] w fun e w' => e = .returned (.int .i64 (Lib.ctz 64 x : Nat)) ∧ w = w' := by
  by_cases hx0 : x = 0
  · subst hx0
    exact zeros_none w
  · obtain ⟨hlow, hk⟩ := Lib.lowest_bit 64 x hx0 hx
    obtain ⟨hi, htab⟩ := Lib.deBruijn64_at _ hk
    have hcell := t _ hi
    rw [htab] at hcell
    exact zeros_core x _ _ w (by simp; omega) (low_key x _ hx hx0 hlow) hi hk hcell

/-- The least number of a set, from one on. -/
def First (set a : Nat) : Option Nat → Prop
  | some n => a ≤ n ∧ n < 64 ∧ set.testBit n = true ∧ ∀ k, a ≤ k → k < n → set.testBit k = false
  | none => ∀ k, a ≤ k → set.testBit k = false
theorem rest_bit (set a k : Nat) : (set / 2 ^ a * 2 ^ a).testBit k = (decide (a ≤ k) && set.testBit k) := by
  rw [Nat.testBit_mul_two_pow]
  by_cases h : a ≤ k
  · rw [Nat.testBit_div_two_pow, show k - a + a = k by omega]
  · simp [h]
theorem zeros_first (x : Nat) (h0 : x ≠ 0) (hx : x < 18446744073709551616) : Lib.ctz 64 x < 64 ∧ x.testBit (Lib.ctz 64 x) = true ∧ ∀ k, k < Lib.ctz 64 x → x.testBit k = false := by
  obtain ⟨m, hm, hk⟩ := Lib.ctzFrom_spec 64 x (by omega) hx
  have e : Lib.ctz 64 x = Lib.ctzFrom 64 x := by simp [Lib.ctz, h0]
  rw [e]
  generalize Lib.ctzFrom 64 x = c at *
  subst hm
  refine ⟨hk, ?_, fun k h => ?_⟩
  · rw [Nat.mul_comm, Nat.testBit_mul_two_pow]
    simp
  · rw [Nat.mul_comm, Nat.testBit_mul_two_pow]
    simp
    omega
theorem first_of (set a : Nat) (hs : set < 18446744073709551616) : First set a (if set / 2 ^ a * 2 ^ a = 0 then none else some (Lib.ctz 64 (set / 2 ^ a * 2 ^ a))) := by
  have hle : set / 2 ^ a * 2 ^ a ≤ set := Nat.div_mul_le_self _ _
  have hb := rest_bit set a
  generalize set / 2 ^ a * 2 ^ a = r at *
  by_cases h0 : r = 0
  · rw [if_pos h0]
    intro k hk
    have := hb k
    rw [h0] at this
    simp [hk] at this
    exact this
  · rw [if_neg h0]
    obtain ⟨h1, h2, h3⟩ := zeros_first r h0 (by omega)
    generalize Lib.ctz 64 r = n at *
    rw [hb n] at h2
    simp at h2
    refine ⟨h2.1, h1, h2.2, fun k k1 k2 => ?_⟩
    have := h3 k k2
    rw [hb k] at this
    simpa [k1] using this

def answerF (r : Option Nat) (d : Nat) : Ending := .returned (.tuple #[.int .i64 (r.getD d : Nat), .bool r.isSome])
def Found (P : Option Nat → Prop) (d : Nat) (e : Ending) : Prop := ∃ r, P r ∧ e = answerF r d

set_option maxHeartbeats 400000 in
theorem numberFrom_any (set a : Nat) (hs : set < 18446744073709551616) (ha : a < 64) (w : World) (t : Bru w) :
    Calls Tryz.prog 146 #[.int .u64 set, .int .i64 a] w fun e w' => Found (First set a) 64 e ∧ w = w' := by
  have hF := Lib.hid (first_of set a hs)
  have hle : set / 2 ^ a * 2 ^ a ≤ set := Nat.div_mul_le_self _ _
  have hw : IntKind.u64.wrap ((set : Int) / 2 ^ a * 2 ^ a) = ((set / 2 ^ a * 2 ^ a : Nat) : Int) := by
    have e0 : (set : Int) / 2 ^ a * 2 ^ a = ((set / 2 ^ a * 2 ^ a : Nat) : Int) := by simp
    rw [e0]
    exact IntWalk.u64_in _ (by omega)
  have c1 := Lib.hid (zeros_any (set / 2 ^ a * 2 ^ a) (by omega) w t)
  generalize set / 2 ^ a * 2 ^ a = r at *
  clear hle t
  by_cases h0 : r = 0
  · have hr : Hid (answerF (if r = 0 then none else some (Lib.ctz 64 r)) 64 = .returned (.tuple #[.int .i64 (Lib.ctz 64 r : Nat), .bool false])) := by
      rw [if_pos h0, h0]
      rfl
    have e1 : ((r : Int) != 0) = false := by simp [h0]
    clear h0
    go_enter Tryz.func146, Tryz.ntmps146
    go_wp2_with (simp only [hw])
    refine c1.out.mono ?_
    rintro e w' ⟨rfl, rfl⟩
    go_wp2_with fail
    go_ret2
    exact ⟨⟨_, hF.out, by rw [hr.out]; rfl⟩, rfl⟩
  · have hr : Hid (answerF (if r = 0 then none else some (Lib.ctz 64 r)) 64 = .returned (.tuple #[.int .i64 (Lib.ctz 64 r : Nat), .bool true])) := by
      rw [if_neg h0]
      rfl
    have e1 : ((r : Int) != 0) = true := by simp [h0]
    clear h0
    go_enter Tryz.func146, Tryz.ntmps146
    go_wp2_with (simp only [hw])
    refine c1.out.mono ?_
    rintro e w' ⟨rfl, rfl⟩
    go_wp2_with fail
    go_ret2
    exact ⟨⟨_, hF.out, by rw [hr.out]; rfl⟩, rfl⟩

/-- The first whole minute behind a second. -/
def behind (s : Int) : Int := if s < 0 then 0 else s / 60 + 1
theorem minuteBehind_any (s : Int) (w : World) (h1 : -9223372036854775808 ≤ s) (h2 : s ≤ 9223372036854775807) :
    Calls Tryz.prog 99 #[.int .i64 s] w fun e w' => e = .returned (.int .i64 (behind s)) ∧ w = w' := by
  by_cases h : s < 0
  · have hb : Hid (behind s = 0) := if_pos h
    go_enter Tryz.func99, Tryz.ntmps99
    go_wp2_with fail
    go_ret
    exact ⟨ret_int (by rw [hb.out]), rfl⟩
  · have hb : Hid (behind s = s / 60 + 1) := if_neg h
    go_enter Tryz.func99, Tryz.ntmps99
    go_wp2_with fail
    go_ret
    exact ⟨ret_int (by rw [hb.out]), rfl⟩
end Go.Proofs.YtiidhcpflplpiaaGreatDoor
