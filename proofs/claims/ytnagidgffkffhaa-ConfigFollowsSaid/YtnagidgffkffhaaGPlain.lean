/-
  Layer 11 (no program): who sits where in a right chain; what a right chain becomes is right and may come behind it.
-/
import Derived.Test.YtnagidgffkffhaaGMath2
set_option linter.unusedVariables false
namespace Cfg
theorem ixN_is {α : Type} {p : α → Bool} {l : List α} {k : Nat} (h : ixN p l = k) : ∃ h : k < l.length, p l[k] = true ∧ ∀ j (hj : j < l.length), j < k → p l[j] = false := by
  rcases ixN_range p l with ⟨e, _⟩ | ⟨j, hj, e, h1, h2⟩
  · rw [e] at h; omega
  · obtain rfl : j = k := by omega
    exact ⟨hj, h1, h2⟩
theorem place_self {l : List StN} (g : Good l) {k : Nat} (hk : k < l.length) : placeN l l[k].m = k := by
  refine ixN_at (p := fun s => decide (s.m = l[k].m)) hk (by simp) fun j hj hlt => ?_
  rw [decide_eq_false]
  intro e
  have := g.once j k hj hk (by rw [e])
  omega
theorem beside_ahead {l : List StN} (g : Good l) {k : Nat} (hk : k < l.length) : besideB l l[k].m (-1) = decide ((0 : Int) < k) ∧ (0 < k → ∃ h : k - 1 < l.length, besideN l l[k].m (-1) = l[k - 1].m) := by
  unfold besideB besideN
  rw [place_self g hk, if_neg (by omega)]
  constructor
  · unfold isN
    by_cases h : 0 < k
    · rw [decide_eq_true (show (0 : Int) < k by omega), decide_eq_false (show ¬ ((k : Int) < 0) by omega), decide_eq_true (show (0 : Int) ≤ (k : Int) + -1 by omega), decide_eq_true (show (k : Int) + -1 < l.length by omega)]; rfl
    · rw [decide_eq_false (show ¬ (0 : Int) < k by omega), decide_eq_false (show ¬ ((k : Int) < 0) by omega), decide_eq_false (show ¬ (0 : Int) ≤ (k : Int) + -1 by omega)]; rfl
  · intro h
    refine ⟨by omega, ?_⟩
    rw [show (k : Int) + -1 = ((k - 1 : Nat) : Int) by omega, atN_yes (by omega)]
theorem beside_next {l : List StN} (g : Good l) {k : Nat} (hk : k < l.length) : besideB l l[k].m 1 = decide ((k : Int) < (l.length : Int) - 1) ∧ ∀ h : k + 1 < l.length, besideN l l[k].m 1 = l[k + 1].m := by
  unfold besideB besideN
  rw [place_self g hk, if_neg (by omega)]
  constructor
  · unfold isN
    by_cases h : k + 1 < l.length
    · rw [decide_eq_true (show (k : Int) < (l.length : Int) - 1 by omega), decide_eq_false (show ¬ ((k : Int) < 0) by omega), decide_eq_true (show (0 : Int) ≤ (k : Int) + 1 by omega), decide_eq_true (show (k : Int) + 1 < l.length by omega)]; rfl
    · rw [decide_eq_false (show ¬ (k : Int) < (l.length : Int) - 1 by omega), decide_eq_false (show ¬ ((k : Int) + 1 < l.length) by omega), Bool.and_false, Bool.and_false]
  · intro h
    rw [show (k : Int) + 1 = ((k + 1 : Nat) : Int) by omega, atN_yes h]
theorem next_of_ahead {l : List StN} (g : Good l) {k : Nat} (hk : k < l.length) (h : 0 < k) : besideN l (besideN l l[k].m (-1)) 1 = l[k].m := by
  obtain ⟨h1, e⟩ := (beside_ahead g hk).2 h
  rw [e, (beside_next g h1).2 (by omega)]
  congr 2
  omega
theorem ahead_of_next {l : List StN} (g : Good l) {k : Nat} (hk : k < l.length) (h : k + 1 < l.length) : besideN l (besideN l l[k].m 1) (-1) = l[k].m := by
  rw [(beside_next g hk).2 h]
  obtain ⟨h1, e⟩ := (beside_ahead g h).2 (by omega)
  rw [e]
  congr 2
end Cfg
