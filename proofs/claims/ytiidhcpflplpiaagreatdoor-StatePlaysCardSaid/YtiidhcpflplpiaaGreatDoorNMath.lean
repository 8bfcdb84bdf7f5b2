/-
  When a spec is at a second (no program): its days and minutes, that some day like any other lies within forty years ahead of it, and how far the next time can be.
-/
import Derived.Test.YtiidhcpflplpiaaGreatDoorVMath
import Derived.Test.YtiidhcpflplpiaaGreatDoorBack
set_option linter.unusedVariables false
namespace Nxt
open Civ Crn

/-- The spec is on the day n. -/
def On (x : SpecN) (n : Nat) : Prop := ∃ y m d, Day n y m d ∧ day x (m : Int) (d : Int) ((n + 4) % 7 : Nat) = true
/-- The spec is at the minute i of a day. -/
def Clock (x : SpecN) (i : Nat) : Prop := i < 1440 ∧ minute x ((i / 60 : Nat) : Int) ((i % 60 : Nat) : Int) = true
def last : Int := 253402300799
/-- The spec is at the second s: its own clock then stands at the minute i of the day n. -/
structure At (x : SpecN) (s : Int) : Prop where
  right : right x = true
  lo : 0 ≤ s
  hi : s ≤ last
  own : ∃ n i : Nat, On x n ∧ Clock x i ∧ s + 60 * x.ahead = 86400 * (n : Int) + 60 * (i : Int)

theorem On.lt {x : SpecN} {n : Nat} (h : On x n) : n < 2932897 := by
  obtain ⟨y, m, d, hd, _⟩ := h
  exact hd.lt

/-! A day like it, within forty years. -/
theorem back_four : ∀ r, r < 400 → ∃ k, k < 41 ∧ (1 ≤ k ∧ leap (2010 + r - k) = leap (2010 + r) ∧ (ay (2010 + r) - ay (2010 + r - k)) % 7 = 0 ∧ ay (2010 + r) - ay (2010 + r - k) ≤ 14610 ∧ ay (2010 + r - k) < ay (2010 + r)) := by
  have key : ∀ r, r < 400 → ((List.range 41).any fun k => decide (1 ≤ k) && (leap (2010 + r - k) == leap (2010 + r)) && (ay (2010 + r) - ay (2010 + r - k)) % 7 == 0 && decide (ay (2010 + r) - ay (2010 + r - k) ≤ 14610) && decide (ay (2010 + r - k) < ay (2010 + r))) = true := by decide +kernel
  intro r hr
  obtain ⟨k, hk, h⟩ := List.any_eq_true.1 (key r hr)
  simp only [Bool.and_eq_true, decide_eq_true_eq, beq_iff_eq] at h
  exact ⟨k, List.mem_range.1 hk, h.1.1.1.1, h.1.1.1.2, h.1.1.2, h.1.2, h.2⟩
theorem leap_four (y q : Nat) : leap (y + 400 * q) = leap y := by
  unfold leap
  rw [show (y + 400 * q) % 4 = y % 4 by omega, show (y + 400 * q) % 100 = y % 100 by omega, show (y + 400 * q) % 400 = y % 400 by omega]
theorem ay_four {y : Nat} (h : 1970 ≤ y) (q : Nat) : ay (y + 400 * q) = ay y + 146097 * q := by
  have g1 : (y + 400 * q - 1) / 4 = (y - 1) / 4 + 100 * q := by omega
  have g2 : (y + 400 * q - 1) / 100 = (y - 1) / 100 + 4 * q := by omega
  have g3 : (y + 400 * q - 1) / 400 = (y - 1) / 400 + q := by omega
  have e1 : 492 ≤ (y - 1) / 4 := by omega
  have e2 : (y - 1) / 100 * 25 ≤ (y - 1) / 4 := by omega
  have e3 : 4 ≤ (y - 1) / 400 := by omega
  unfold ay lb
  rw [g1, g2, g3]
  generalize (y - 1) / 4 = a at *
  generalize (y - 1) / 100 = b at *
  generalize (y - 1) / 400 = c at *
  omega
theorem back_year {y : Nat} (h : 2010 ≤ y) : ∃ z, 1970 ≤ z ∧ z < y ∧ leap z = leap y ∧ (ay y - ay z) % 7 = 0 ∧ ay y - ay z ≤ 14610 ∧ ay z < ay y := by
  obtain ⟨r, q, hr, rfl⟩ : ∃ r q, r < 400 ∧ y = 2010 + r + 400 * q := ⟨(y - 2010) % 400, (y - 2010) / 400, by omega, by omega⟩
  obtain ⟨k, hk, h1, h2, h3, h4, h5⟩ := back_four r hr
  refine ⟨2010 + r - k + 400 * q, by omega, by omega, ?_, ?_, ?_, ?_⟩
  · rw [leap_four, leap_four, h2]
  · rw [ay_four (by omega), ay_four (by omega), Nat.add_sub_add_right]; exact h3
  · rw [ay_four (by omega), ay_four (by omega), Nat.add_sub_add_right]; exact h4
  · rw [ay_four (by omega), ay_four (by omega)]; omega
theorem am_leap {y z m : Nat} (h : leap z = leap y) : am z m = am y m := by unfold am; rw [h]
theorem long_leap {y z m : Nat} (h : leap z = leap y) : long z m = long y m := by unfold long; rw [am_leap h, am_leap h]

theorem ay_2010 : ay 2010 = 14610 := by decide
theorem On.back {x : SpecN} {n : Nat} (h : On x n) (hn : 14610 ≤ n) : ∃ k, k < n ∧ n ≤ k + 14610 ∧ On x k := by
  obtain ⟨y, m, d, hd, ho⟩ := h
  have hy : 2010 ≤ y := by
    rcases Nat.lt_or_ge y 2010 with hlt | hge
    · have h1 := am_step y hd.m1 hd.m2
      have h2 := am_mono y (a := m + 1) (b := 13) (by omega) (by have := hd.m2; omega) (by omega)
      have h3 := ay_step hd.y1
      have h4 := ay_mono (a := y + 1) (b := 2010) (by have := hd.y1; omega) (by omega)
      have := ay_2010; have := hd.d2; have := hd.e
      omega
    · exact hge
  obtain ⟨z, z1, z2, z3, z4, z5, z6⟩ := back_year hy
  have he := hd.e
  have hd1 := hd.d1
  refine ⟨n - (ay y - ay z), by omega, by omega, z, m, d, ⟨z1, by have := hd.y2; omega, hd.m1, hd.m2, hd.d1, by rw [long_leap z3]; exact hd.d2, by rw [am_leap z3]; omega⟩, ?_⟩
  rw [show (n - (ay y - ay z) + 4) % 7 = (n + 4) % 7 by omega]
  exact ho
/-- Where the spec is on a day behind k, it is on one that is at most 14610 days behind k. -/
theorem On.window {x : SpecN} {n k : Nat} (h : On x n) (hk : k ≤ n) : ∃ j, k ≤ j ∧ j ≤ n ∧ j ≤ k + 14610 ∧ On x j := by
  induction n using Nat.strongRecOn with
  | ind n ih =>
    rcases Nat.lt_or_ge (k + 14610) n with hlt | hge
    · obtain ⟨j, h1, h2, h3⟩ := h.back (by omega)
      obtain ⟨i, i1, i2, i3, i4⟩ := ih j h1 h3 (by omega)
      exact ⟨i, i1, by omega, i3, i4⟩
    · exact ⟨n, hk, Nat.le_refl _, hge, h⟩

/-! Some minute. -/
theorem okSet_some {f set : Nat} (hf : f < 5) (h : okSet f set = true) : ∃ n, low f ≤ n ∧ n ≤ top f ∧ set.testBit n = true := by
  have hne := members_ne hf h
  cases hm : members set with
  | nil => exact absurd hm hne
  | cons a r =>
    have ha : a ∈ members set := by rw [hm]; simp
    obtain ⟨_, ht⟩ := mem_members.1 ha
    obtain ⟨_, h1, h2⟩ := sub_bit hf (okSet_iff.1 h).2 ht
    exact ⟨a, h1, h2, ht⟩
theorem has_bit {set n : Nat} (h : n < 64) : has set (n : Int) = set.testBit n := by
  unfold has
  rw [Int.toNat_natCast, show decide (0 ≤ (n : Int) ∧ (n : Int) ≤ 63) = true by simp; omega]
  exact Bool.true_and _
theorem some_clock {x : SpecN} (h : right x = true) : ∃ i, Clock x i := by
  obtain ⟨h0, h1, _⟩ := right_parts h
  obtain ⟨a, a1, a2, a3⟩ := okSet_some (by omega) h0
  obtain ⟨b, b1, b2, b3⟩ := okSet_some (by omega) h1
  have a2' : a ≤ 59 := a2
  have b2' : b ≤ 23 := b2
  refine ⟨60 * b + a, by omega, ?_⟩
  unfold minute
  rw [show (60 * b + a) / 60 = b by omega, show (60 * b + a) % 60 = a by omega, has_bit (by omega), has_bit (by omega), a3, b3]
  rfl

/-- How many days of its own clock lie between a second and the next time behind it. -/
theorem next_near {x : SpecN} {after s : Int} (ha : -1 ≤ after) (h : At x s) (hs : after < s) (hmin : ∀ t, after < t → t < s → ¬ At x t) :
    ∃ n i : Nat, On x n ∧ Clock x i ∧ s + 60 * x.ahead = 86400 * (n : Int) + 60 * (i : Int) ∧ (n : Int) ≤ max ((after + 60 * x.ahead) / 86400) (-1) + 1 + 14610 := by
  obtain ⟨n, i, h1, h2, h3⟩ := h.own
  refine ⟨n, i, h1, h2, h3, ?_⟩
  rcases Int.lt_or_le (max ((after + 60 * x.ahead) / 86400) (-1) + 1 + 14610) (n : Int) with hlt | hge
  · exfalso
    obtain ⟨k, hk⟩ : ∃ k : Nat, (k : Int) = max ((after + 60 * x.ahead) / 86400) (-1) + 1 := ⟨(max ((after + 60 * x.ahead) / 86400) (-1) + 1).toNat, by omega⟩
    obtain ⟨j, j1, j2, j3, j4⟩ := h1.window (k := k) (by omega)
    obtain ⟨c, hc⟩ := some_clock h.right
    have hc1 := hc.1
    have hlo := h.lo
    have hhi := h.hi
    have hi1 := h2.1
    have e1 : after < 86400 * (j : Int) + 60 * (c : Int) - 60 * x.ahead := by omega
    have e2 : 86400 * (j : Int) + 60 * (c : Int) - 60 * x.ahead < s := by omega
    exact hmin _ e1 e2 ⟨h.right, by omega, by omega, j, c, j4, hc, by omega⟩
  · exact hge

/-- What Next answers. -/
def IsNext (x : SpecN) (after : Int) : Option Int → Prop
  | some s => At x s ∧ after < s ∧ ∀ t, after < t → t < s → ¬ At x t
  | none => ∀ t, after < t → ¬ At x t
theorem IsNext.one {x : SpecN} {after : Int} {a b : Option Int} (ha : IsNext x after a) (hb : IsNext x after b) : a = b := by
  cases a with
  | none =>
    cases b with
    | none => rfl
    | some s => exact absurd hb.1 (ha s hb.2.1)
  | some s =>
    cases b with
    | none => exact absurd ha.1 (hb s ha.2.1)
    | some t =>
      have h1 : ¬ t < s := fun h => ha.2.2 t hb.2.1 h hb.1
      have h2 : ¬ s < t := fun h => hb.2.2 s ha.2.1 h ha.1
      rw [show s = t by omega]
end Nxt
