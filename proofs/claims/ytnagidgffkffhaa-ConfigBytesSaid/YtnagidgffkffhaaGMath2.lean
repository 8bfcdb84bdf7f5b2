/-
  Layer 11 (no program): which chain may come behind which.
-/
import Derived.Test.YtnagidgffkffhaaGMath
set_option linter.unusedVariables false
namespace Cfg
def okSt (x y : StN) : Bool := decide (y = x) || decide (y = ⟨x.m, true⟩)
def moreN (a b : List StN) : Nat → Nat
  | 0 => 0
  | i + 1 => moreN a b i + if b.getD i default = a.getD i default then 0 else 1
def okUp (a b : List StN) : Nat → Bool
  | 0 => true
  | i + 1 => okUp a b i && okSt (a.getD i default) (b.getD i default)
def onceN (a b : List StN) : Bool := decide (a.length = b.length) && (okUp a b a.length && decide (moreN a b a.length ≤ 1))
/-- The first row is the second one, some left out. -/
def subN : List StN → List StN → Bool
  | [], _ => true
  | _ :: _, [] => false
  | x :: b, y :: a => if x = y then subN b a else subN (x :: b) a
def joinedN (a b : List StN) : Bool := decide (b.length = a.length + 1) && (decide (a = b.take a.length) && !(b.getD a.length default).syn)
def followsN (a b : CfN) : Bool :=
  rightN a && (rightN b && if b.epoch = a.epoch then onceN a.l b.l else if b.epoch = a.epoch + 1 then subN b.l a.l || joinedN a.l b.l else false)

theorem okUp_no {a b : List StN} {i k : Nat} (h : okSt (a.getD i default) (b.getD i default) = false) (hi : i < k) : okUp a b k = false := by
  induction k with
  | zero => omega
  | succ k ih =>
    show (okUp a b k && okSt _ _) = false
    rcases Nat.lt_or_ge i k with e | e
    · rw [ih e]; rfl
    · obtain rfl : i = k := by omega
      rw [h, Bool.and_false]
theorem moreN_le (a b : List StN) (k : Nat) : moreN a b k ≤ k := by
  induction k with
  | zero => exact Nat.le_refl 0
  | succ k ih => show moreN a b k + _ ≤ _; split <;> omega
theorem subN_nil (a : List StN) : subN [] a = true := by cases a <;> rfl
theorem subN_none (x : StN) (b : List StN) : subN (x :: b) [] = false := rfl
/-- The next one is looked up in what is left. -/
theorem subN_no {x : StN} {b A : List StN} (h : ∀ k (hk : k < A.length), decide (x = A[k]) = false) : subN (x :: b) A = false := by
  induction A with
  | nil => rfl
  | cons y A ih =>
    have h0 : x ≠ y := of_decide_eq_false (h 0 (by simp))
    show (if x = y then _ else _) = false
    rw [if_neg h0]
    exact ih fun k hk => h (k + 1) (by simpa using hk)
theorem subN_at {x : StN} {b A : List StN} {j : Nat} (hj : j < A.length) (h : decide (x = A[j]) = true) (hb : ∀ k (hk : k < A.length), k < j → decide (x = A[k]) = false) : subN (x :: b) A = subN b (A.drop (j + 1)) := by
  induction A generalizing j with
  | nil => simp at hj
  | cons y A ih =>
    show (if x = y then _ else _) = _
    match j, hj with
    | 0, hj =>
      rw [if_pos (by simpa using h)]
      rfl
    | j + 1, hj =>
      have h0 : x ≠ y := of_decide_eq_false (hb 0 (by simp) (by omega))
      rw [if_neg h0, ih (by simpa using hj) h fun k hk hlt => hb (k + 1) (by simpa using hk) (by omega)]
      rfl
end Cfg
