/-
  The times of a spec between two seconds as a list, what Next answers as a function, and what a clock that is ahead changes (no program).
-/
import Derived.Test.YtiidhcpflplpiaaGreatDoorNMath
set_option linter.unusedVariables false
namespace Nxt
open Civ Crn

theorem at_minute {x : SpecN} {s : Int} (h : At x s) : s % 60 = 0 := by
  obtain ⟨n, i, _, _, e⟩ := h.own
  omega
/-- By the day and the minute of its own clock, as they are reckoned. -/
theorem at_iff {x : SpecN} {s : Int} : At x s ↔ right x = true ∧ 0 ≤ s ∧ s ≤ last ∧ s % 60 = 0 ∧ 0 ≤ s + 60 * x.ahead ∧ s + 60 * x.ahead ≤ last ∧
    On x ((s + 60 * x.ahead) / 86400).toNat ∧ minute x ((s + 60 * x.ahead) % 86400 / 3600) ((s + 60 * x.ahead) % 86400 / 60 % 60) = true := by
  constructor
  · intro h
    have hm := at_minute h
    obtain ⟨n, i, h1, h2, e⟩ := h.own
    have hi := h2.1
    have hn := h1.lt
    have e1 : ((s + 60 * x.ahead) / 86400).toNat = n := by omega
    have e2 : (s + 60 * x.ahead) % 86400 / 3600 = ((i / 60 : Nat) : Int) := by omega
    have e3 : (s + 60 * x.ahead) % 86400 / 60 % 60 = ((i % 60 : Nat) : Int) := by omega
    refine ⟨h.right, h.lo, h.hi, hm, by omega, by unfold last; omega, by rw [e1]; exact h1, by rw [e2, e3]; exact h2.2⟩
  · rintro ⟨h1, h2, h3, h4, h5, h6, h7, h8⟩
    obtain ⟨i, hi⟩ : ∃ i : Nat, (i : Int) = (s + 60 * x.ahead) % 86400 / 60 := ⟨((s + 60 * x.ahead) % 86400 / 60).toNat, by omega⟩
    have e2 : (s + 60 * x.ahead) % 86400 / 3600 = ((i / 60 : Nat) : Int) := by omega
    have e3 : (s + 60 * x.ahead) % 86400 / 60 % 60 = ((i % 60 : Nat) : Int) := by omega
    rw [e2, e3] at h8
    exact ⟨h1, h2, h3, _, i, h7, ⟨by omega, h8⟩, by omega⟩

/-! What comes next, as a function. -/
theorem exists_next (x : SpecN) (after : Int) : ∃ r, IsNext x after r := by
  by_cases h : ∃ t, after < t ∧ At x t
  · obtain ⟨t, h1, h2⟩ := h
    have key : ∀ k : Nat, ∀ t, after < t → At x t → t ≤ after + k → ∃ s, At x s ∧ after < s ∧ ∀ u, after < u → u < s → ¬ At x u := by
      intro k
      induction k with
      | zero => intro t a b c; omega
      | succ k ih =>
        intro t a b c
        by_cases hu : ∃ u, after < u ∧ u < t ∧ At x u
        · obtain ⟨u, u1, u2, u3⟩ := hu
          exact ih u u1 u3 (by omega)
        · exact ⟨t, b, a, fun u u1 u2 u3 => hu ⟨u, u1, u2, u3⟩⟩
    obtain ⟨s, s1, s2, s3⟩ := key (t - after).toNat t h1 h2 (by omega)
    exact ⟨some s, s1, s2, s3⟩
  · exact ⟨none, fun t h1 h2 => h ⟨t, h1, h2⟩⟩
noncomputable def nextN (x : SpecN) (after : Int) : Option Int := Classical.choose (exists_next x after)
theorem nextN_is (x : SpecN) (after : Int) : IsNext x after (nextN x after) := Classical.choose_spec (exists_next x after)
theorem nextN_of {x : SpecN} {after : Int} {r : Option Int} (h : IsNext x after r) : nextN x after = r := (nextN_is x after).one h
/-- Where nothing lies between, the next one is the same. -/
theorem nextN_skip {x : SpecN} {a b : Int} (hab : a ≤ b) (h : ∀ t, a < t → t ≤ b → ¬ At x t) : nextN x a = nextN x b := by
  apply nextN_of
  have := nextN_is x b
  cases hr : nextN x b with
  | none =>
    rw [hr] at this
    intro t ht
    rcases Int.lt_or_le b t with h1 | h1
    · exact this t h1
    · exact h t ht h1
  | some s =>
    rw [hr] at this
    refine ⟨this.1, by have := this.2.1; omega, fun t h1 h2 => ?_⟩
    rcases Int.lt_or_le b t with h3 | h3
    · exact this.2.2 t h3 h2
    · exact h t h1 h3
theorem nextN_low (x : SpecN) {a : Int} (h : a ≤ -1) : nextN x a = nextN x (-1) := nextN_skip h fun t _ h2 h3 => by have := h3.lo; omega
theorem nextN_bad {x : SpecN} (h : right x = false) (a : Int) : nextN x a = none := nextN_of fun t _ ht => by have := ht.right; rw [h] at this; cases this
theorem nextN_late (x : SpecN) {a : Int} (h : last ≤ a) : nextN x a = none := nextN_of fun t h1 h2 => by have := h2.hi; omega
theorem nextN_range {x : SpecN} {a s : Int} (h : nextN x a = some s) : a < s ∧ 0 ≤ s ∧ s ≤ last ∧ s % 60 = 0 := by
  have := nextN_is x a
  rw [h] at this
  exact ⟨this.2.1, this.1.lo, this.1.hi, at_minute this.1⟩

/-! The times between two seconds. -/
noncomputable def isAt (x : SpecN) (s : Int) : Bool := @decide (At x s) (Classical.propDecidable _)
theorem isAt_true {x : SpecN} {s : Int} : isAt x s = true ↔ At x s := by unfold isAt; exact @decide_eq_true_iff _ (Classical.propDecidable _)
theorem isAt_false {x : SpecN} {s : Int} : isAt x s = false ↔ ¬ At x s := by unfold isAt; exact @decide_eq_false_iff_not _ (Classical.propDecidable _)

/-- k seconds from a on. -/
def secs (a : Int) (k : Nat) : List Int := (List.range k).map fun (i : Nat) => a + (i : Int)
theorem secs_add (a : Int) (j k : Nat) : secs a (j + k) = secs a j ++ secs (a + j) k := by
  unfold secs
  rw [List.range_add, List.map_append, List.map_map]
  congr 1
  apply List.map_congr_left
  intro i _
  simp only [Function.comp]
  omega
theorem mem_secs {a t : Int} {k : Nat} : t ∈ secs a k ↔ a ≤ t ∧ t < a + k := by
  unfold secs
  simp only [List.mem_map, List.mem_range]
  constructor
  · rintro ⟨i, h1, rfl⟩; omega
  · rintro ⟨h1, h2⟩; exact ⟨(t - a).toNat, by omega, by omega⟩
/-- All times from a to b, both with them. -/
noncomputable def allN (x : SpecN) (a b : Int) : List Int := (secs a (b + 1 - a).toNat).filter (isAt x)
theorem allN_split (x : SpecN) {a m b : Int} (h1 : a ≤ m + 1) (h2 : m ≤ b) : allN x a b = allN x a m ++ allN x (m + 1) b := by
  unfold allN
  rw [← List.filter_append, show (b + 1 - a).toNat = (m + 1 - a).toNat + (b + 1 - (m + 1)).toNat by omega, secs_add, show a + ((m + 1 - a).toNat : Int) = m + 1 by omega]
theorem allN_none {x : SpecN} {a b : Int} (h : ∀ t, a ≤ t → t ≤ b → ¬ At x t) : allN x a b = [] := by
  unfold allN
  rw [List.filter_eq_nil_iff]
  intro t ht
  obtain ⟨h1, h2⟩ := mem_secs.1 ht
  rw [isAt_true]
  exact h t h1 (by omega)
theorem allN_empty (x : SpecN) {a b : Int} (h : b < a) : allN x a b = [] := allN_none fun t h1 h2 => by omega
theorem allN_one {x : SpecN} {s : Int} (h : At x s) : allN x s s = [s] := by
  unfold allN
  rw [show (s + 1 - s).toNat = 1 by omega]
  simp [secs, isAt_true.2 h]
theorem mem_allN {x : SpecN} {a b t : Int} : t ∈ allN x a b ↔ a ≤ t ∧ t ≤ b ∧ At x t := by
  unfold allN
  rw [List.mem_filter, mem_secs, isAt_true]
  constructor
  · rintro ⟨⟨h1, h2⟩, h3⟩; exact ⟨h1, by omega, h3⟩
  · rintro ⟨h1, h2, h3⟩; exact ⟨⟨h1, by omega⟩, h3⟩
/-- One time more. -/
theorem allN_next {x : SpecN} {a m s : Int} (h1 : a ≤ m + 1) (h : nextN x m = some s) : allN x a s = allN x a m ++ [s] := by
  have hn := nextN_is x m
  rw [h] at hn
  have h2 := hn.2.1
  rw [allN_split x (m := m) h1 (by omega), allN_split x (a := m + 1) (m := s - 1) (b := s) (by omega) (by omega), allN_none (a := m + 1) (b := s - 1) (fun t a b => hn.2.2 t (by omega) (by omega)), List.nil_append, show s - 1 + 1 = s by omega, allN_one hn.1]
theorem allN_end {x : SpecN} {a m b : Int} (h1 : a ≤ m + 1) (h2 : m ≤ b) (h : ∀ s, nextN x m = some s → b < s) : allN x a b = allN x a m := by
  rw [allN_split x h1 h2, allN_none (a := m + 1) (b := b) ?_, List.append_nil]
  intro t t1 t2 t3
  have hn := nextN_is x m
  cases hr : nextN x m with
  | none => rw [hr] at hn; exact hn t (by omega) t3
  | some s => rw [hr] at hn; exact hn.2.2 t (by omega) (by have := h s hr; omega) t3
/-- Minute by minute. -/
theorem allN_minutes (x : SpecN) {a : Int} (ha : a % 60 = 0) (k : Nat) : allN x a (a + 60 * (k : Int)) = ((List.range (k + 1)).map fun (i : Nat) => a + 60 * (i : Int)).filter (isAt x) := by
  induction k with
  | zero =>
    rw [show a + 60 * ((0 : Nat) : Int) = a by omega]
    unfold allN
    rw [show (a + 1 - a).toNat = 1 by omega]
    simp [secs]
  | succ k ih =>
    rw [List.range_succ, List.map_append, List.filter_append, ← ih, allN_split x (m := a + 60 * (k : Int)) (by omega) (by omega)]
    congr 1
    have hs : allN x (a + 60 * (k : Int) + 1) (a + 60 * ((k + 1 : Nat) : Int)) = allN x (a + 60 * (k : Int) + 1) (a + 60 * ((k + 1 : Nat) : Int) - 1) ++ allN x (a + 60 * ((k + 1 : Nat) : Int)) (a + 60 * ((k + 1 : Nat) : Int)) := by
      have := allN_split x (a := a + 60 * (k : Int) + 1) (m := a + 60 * ((k + 1 : Nat) : Int) - 1) (b := a + 60 * ((k + 1 : Nat) : Int)) (by omega) (by omega)
      rw [show a + 60 * ((k + 1 : Nat) : Int) - 1 + 1 = a + 60 * ((k + 1 : Nat) : Int) by omega] at this
      exact this
    rw [hs, allN_none (fun t h1 h2 h3 => by have := at_minute h3; omega), List.nil_append]
    unfold allN
    rw [show (a + 60 * ((k + 1 : Nat) : Int) + 1 - (a + 60 * ((k + 1 : Nat) : Int))).toNat = 1 by omega]
    simp [secs]
theorem secs_none {x : SpecN} {a : Int} {k : Nat} (h : ∀ t, a ≤ t → t < a + k → ¬ At x t) : (secs a k).filter (isAt x) = [] := by
  rw [List.filter_eq_nil_iff]
  intro t ht
  obtain ⟨h1, h2⟩ := mem_secs.1 ht
  rw [isAt_true]
  exact h t h1 h2
/-- No more than one a minute. -/
theorem secs_count (x : SpecN) (k : Nat) : ∀ a : Int, ((secs a k).filter (isAt x)).length ≤ (k + 59) / 60 := by
  induction k using Nat.strongRecOn with
  | ind k ih =>
    intro a
    rcases Nat.lt_or_ge k 61 with h | h
    · by_cases he : ∃ t, a ≤ t ∧ t < a + k ∧ At x t
      · obtain ⟨t, t1, t2, t3⟩ := he
        have hm := at_minute t3
        obtain ⟨i, j, hi, hk⟩ : ∃ i j : Nat, (i : Int) = t - a ∧ k = i + (1 + j) := ⟨(t - a).toNat, k - 1 - (t - a).toNat, by omega, by omega⟩
        rw [hk, secs_add, secs_add, List.filter_append, List.filter_append, secs_none (fun u u1 u2 u3 => by have := at_minute u3; omega), secs_none (a := a + i + (1 : Nat)) (fun u u1 u2 u3 => by have := at_minute u3; omega)]
        simp only [List.nil_append, List.append_nil]
        have : ((secs (a + i) 1).filter (isAt x)).length ≤ (secs (a + i) 1).length := List.length_filter_le _ _
        have e : (secs (a + i) 1).length = 1 := by simp [secs]
        omega
      · rw [secs_none (fun u u1 u2 u3 => he ⟨u, u1, u2, u3⟩)]
        exact Nat.zero_le _
    · obtain ⟨j, rfl⟩ : ∃ j, k = 60 + j := ⟨k - 60, by omega⟩
      rw [secs_add, List.filter_append, List.length_append]
      have h1 := ih 60 (by omega) a
      have h2 := ih j (by omega) (a + (60 : Nat))
      omega
theorem allN_count (x : SpecN) (a b : Int) : (allN x a b).length ≤ ((b + 1 - a).toNat + 59) / 60 := secs_count x _ a

/-! A clock that is ahead. -/
theorem right_ahead {x : SpecN} (hx : x.ahead = 0) {k : Int} (h1 : -899 ≤ k) (h2 : k ≤ 899) : right { x with ahead := k } = right x := by
  unfold right
  simp only [hx]
  rw [show decide (-899 ≤ k ∧ k ≤ 899) = true by simp; omega, show decide (-899 ≤ (0 : Int) ∧ (0 : Int) ≤ 899) = true by decide]
theorem at_ahead {x : SpecN} (hx : x.ahead = 0) {k t : Int} (h1 : 0 ≤ k) (h2 : k ≤ 899) (ht : 0 ≤ t) : At { x with ahead := k } t ↔ At x (t + 60 * k) := by
  have hr := right_ahead hx (k := k) (by omega) h2
  constructor
  · intro h
    obtain ⟨n, i, a1, a2, a3⟩ := h.own
    have hn := a1.lt
    have hi := a2.1
    have a3' : t + 60 * k = 86400 * (n : Int) + 60 * (i : Int) := a3
    exact ⟨by rw [← hr]; exact h.right, by omega, by unfold last; omega, n, i, a1, a2, by rw [hx]; omega⟩
  · intro h
    obtain ⟨n, i, a1, a2, a3⟩ := h.own
    have := h.hi
    rw [hx] at a3
    exact ⟨by rw [hr]; exact h.right, ht, by omega, n, i, a1, a2, by show t + 60 * k = _; omega⟩
theorem next_ahead {x : SpecN} (hx : x.ahead = 0) {k after : Int} (h1 : 0 ≤ k) (h2 : k ≤ 899) (ha : 0 ≤ after) : nextN { x with ahead := k } after = (nextN x (after + 60 * k)).map (· - 60 * k) := by
  apply nextN_of
  have hn := nextN_is x (after + 60 * k)
  cases hr : nextN x (after + 60 * k) with
  | none =>
    rw [hr] at hn
    intro t ht h
    exact hn (t + 60 * k) (by omega) ((at_ahead hx h1 h2 (by omega)).1 h)
  | some s =>
    rw [hr] at hn
    have hs := hn.2.1
    refine ⟨(at_ahead hx h1 h2 (by show 0 ≤ s - 60 * k; omega)).2 ?_, by show after < s - 60 * k; omega, fun t t1 t2 t3 => ?_⟩
    · show At x (s - 60 * k + 60 * k)
      rw [show s - 60 * k + 60 * k = s by omega]
      exact hn.1
    · have t2' : t < s - 60 * k := t2
      exact hn.2.2 (t + 60 * k) (by omega) (by omega) ((at_ahead hx h1 h2 (by omega)).1 t3)
/-- From anywhere between two times the later one is next. -/
theorem next_between {x : SpecN} {a b mid : Int} (h : nextN x a = some b) (h1 : a ≤ mid) (h2 : mid < b) : nextN x mid = some b := by
  have hn := nextN_is x a
  rw [h] at hn
  exact nextN_of ⟨hn.1, h2, fun t t1 t2 => hn.2.2 t (by omega) t2⟩
end Nxt
