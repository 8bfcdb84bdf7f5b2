/-
  How the program takes a field apart, in plain functions, and that it says what the document says (no program).
-/
import Derived.Test.YtiidhcpflplpiaaGreatDoorCPlain
import Derived.Test.YtiidhcpflplpiaaGreatDoorPlace
set_option linter.unusedVariables false
namespace Crn
open Go

/-- What stands ahead of a step, place by place. -/
def rangeU (f : Nat) (p : Bytes) (stepped : Bool) : Option (Nat × Nat) :=
  if (Lib.cut p [45]).2.2 then
    match place f (Lib.cut p [45]).1, place f (Lib.cut p [45]).2.1 with
    | some x, some y => if x ≤ y then some (x, y) else none
    | _, _ => none
  else match place f p with
    | some x => if stepped then none else some (x, x)
    | none => none
def stepU (c : Bytes × Bytes × Bool) : Option Nat :=
  if c.2.2 then match number c.2.1 with
    | some n => if 1 ≤ n then some n else none
    | none => none
  else some 1
def partU (f : Nat) (s : Bytes) : Option Nat :=
  match stepU (Lib.cut s [47]) with
  | none => none
  | some step =>
    if (Lib.cut s [47]).1 = star then some (bitsN 0 (low f) (high f) step) else
    match rangeU f (Lib.cut s [47]).1 (Lib.cut s [47]).2.2 with
    | some (a, b) => some (bitsN 0 a b step)
    | none => none
def partsU (f : Nat) : List Bytes → Nat → Option Nat
  | [], set => some set
  | p :: r, set => match partU f p with
    | some n => partsU f r (set ||| n)
    | none => none
def fieldU (f : Nat) (s : Bytes) : Option Nat := partsU f (split 44 s) 0

/-- The places of the week as its days. -/
def wk (n : Nat) : Nat := (n ||| n >>> 7) &&& 127
def fold (f n : Nat) : Nat := if f = 4 then wk n else n

theorem wk_or (a b : Nat) : wk (a ||| b) = wk a ||| wk b := by
  unfold wk
  apply Nat.eq_of_testBit_eq
  intro i
  simp only [Nat.testBit_and, Nat.testBit_or, Nat.testBit_shiftRight]
  cases a.testBit i <;> cases b.testBit i <;> cases a.testBit (7 + i) <;> cases b.testBit (7 + i) <;> cases Nat.testBit 127 i <;> rfl
theorem fold_or (f a b : Nat) : fold f (a ||| b) = fold f a ||| fold f b := by
  unfold fold
  split
  · exact wk_or a b
  · rfl
theorem wk_bits : ∀ a, a < 8 → ∀ b, b < 8 → ∀ st, st < 100 → 1 ≤ st → bitsN 4 a b st = wk (bitsN 0 a b st) := by decide +kernel
theorem wk_star : ∀ st, st < 100 → 1 ≤ st → bitsN 4 0 6 st = wk (bitsN 0 0 7 st) := by decide +kernel
theorem gather_plain {f : Nat} (hf : f ≠ 4) (b st k n set : Nat) : gatherN f b st k n set = gatherN 0 b st k n set := by
  induction k generalizing n set with
  | zero => rfl
  | succ k ih =>
    unfold gatherN
    have e : bitN f n = bitN 0 n := by unfold bitN; rw [if_neg (by omega), if_neg (by omega)]
    rw [e, ih]
theorem fold_bits {f a b st : Nat} (hf : f < 5) (ha : a ≤ high f) (hb : b ≤ high f) (h1 : 1 ≤ st) (h2 : st ≤ 99) : bitsN f a b st = fold f (bitsN 0 a b st) := by
  unfold fold
  by_cases h4 : f = 4
  · subst h4
    rw [if_pos rfl]
    have : high 4 = 7 := rfl
    exact wk_bits a (by omega) b (by omega) st (by omega) h1
  · rw [if_neg h4]
    exact gather_plain h4 _ _ _ _ _
theorem fold_star {f st : Nat} (hf : f < 5) (h1 : 1 ≤ st) (h2 : st ≤ 99) : bitsN f (low f) (top f) st = fold f (bitsN 0 (low f) (high f) st) := by
  unfold fold
  by_cases h4 : f = 4
  · subst h4
    rw [if_pos rfl]
    exact wk_star st (by omega) h1
  · rw [if_neg h4, show top f = high f by unfold top; rw [if_neg h4]]
    exact gather_plain h4 _ _ _ _ _

/-! A mark that no place has. -/
theorem digit_mark : ∀ c : UInt8, c < 48 → digit c = none := fun c h => by
  unfold digit
  rw [if_neg]
  rintro ⟨a, _⟩
  rw [UInt8.le_iff_toNat_le] at a
  rw [UInt8.lt_iff_toNat_lt] at h
  simp at a h
  omega
theorem number_mark {c : UInt8} (hc : c < 48) {s : Bytes} (h : c ∈ s) : number s = none := by
  match s, h with
  | [a], h =>
    obtain rfl : c = a := by simpa using h
    exact digit_mark c hc
  | [a, b], h =>
    have : c = a ∨ c = b := by simpa using h
    rcases this with rfl | rfl
    · simp only [number, digit_mark c hc]
    · simp only [number, digit_mark c hc]
      cases digit a <;> rfl
  | _ :: _ :: _ :: _, _ => rfl
theorem small1_mark : ∀ c : UInt8, c < 48 → small1 c = c := fun c h => by
  unfold small1
  rw [if_neg]
  rintro ⟨a, _⟩
  rw [UInt8.le_iff_toNat_le] at a
  rw [UInt8.lt_iff_toNat_lt] at h
  simp at a h
  omega
theorem find_mark {c : UInt8} (hc : c < 48) {s : Bytes} (h : c ∈ s) (l : List Bytes) (k : Nat) (hl : ∀ n ∈ l, ∀ b ∈ n, ¬ b < 48) : find (small s) k l = none := by
  induction l generalizing k with
  | nil => rfl
  | cons n r ih =>
    unfold find
    rw [if_neg, ih (k + 1) (fun m hm => hl m (by simp [hm]))]
    intro e
    refine hl n (by simp) c ?_ hc
    rw [← e]
    exact List.mem_map.2 ⟨c, h, small1_mark c hc⟩
theorem names_letters : ∀ f, f < 5 → ∀ n ∈ names f, ∀ b ∈ n, ¬ b < 48 := by decide +kernel
theorem place_mark {f : Nat} (hf : f < 5) {c : UInt8} (hc : c < 48) {s : Bytes} (h : c ∈ s) : place f s = none := by
  unfold place
  rw [find_mark hc h _ _ (names_letters f hf), number_mark hc h]

theorem split_len (c : UInt8) (s : Bytes) (h : c ∈ s) : 2 ≤ (split c s).length := by
  obtain ⟨a, b, rfl, hn⟩ := List.eq_append_cons_of_mem h
  rw [split_cut hn]
  have : split c b ≠ [] := splitP_ne _ _
  cases hb : split c b with
  | nil => exact absurd hb this
  | cons x t => simp

theorem range_ne_star {p : Bytes} (h : 45 ∈ p) : p ≠ star := fun e => by
  rw [e] at h
  revert h
  decide

/-- A range, and the numbers that it says. -/
theorem range_span {f : Nat} (hf : f < 5) (p : Bytes) (hp : p ≠ star) (step : Nat) (h1 : 1 ≤ step) (h2 : step ≤ 99) :
    spanN f p step = (rangeU f p false).map (fun x => fold f (bitsN 0 x.1 x.2 step)) ∧
    ((split 45 p).length = 2 → rangeU f p true = rangeU f p false) ∧ ((split 45 p).length ≠ 2 → rangeU f p true = none) := by
  unfold spanN rangeU
  rw [if_neg hp]
  rcases first_of (c := 45) (s := p) with h | ⟨a, b, rfl, h⟩
  · rw [cut_none h, split_none h]
    refine ⟨?_, fun e => by simp at e, fun _ => ?_⟩
    · simp only [Bool.false_eq_true, if_false]
      cases hq : place f p with
      | none => rfl
      | some x =>
        have := place_range hf hq
        simp only [Option.map_some]
        rw [fold_bits hf this.2 this.2 h1 h2]
    · simp only [Bool.false_eq_true, if_false, if_true]
      cases place f p <;> rfl
  · rw [cut_at h, split_cut h]
    by_cases hb : 45 ∈ b
    · have hlen := split_len 45 b hb
      have hpl := place_mark hf (by decide) hb
      match hs : split 45 b, hlen with
      | x :: y :: t, _ =>
        simp only [if_true, hpl]
        refine ⟨?_, fun e => by simp at e, fun _ => ?_⟩
        · cases place f a <;> rfl
        · cases place f a <;> rfl
    · rw [split_none hb]
      simp only [if_true]
      refine ⟨?_, fun _ => trivial, fun e => by simp at e⟩
      cases hx : place f a with
      | none => rfl
      | some x =>
        cases hy : place f b with
        | none => rfl
        | some y =>
          have rx := place_range hf hx
          have ry := place_range hf hy
          simp only []
          by_cases hlt : y < x
          · rw [if_pos hlt, if_neg (by omega)]; rfl
          · rw [if_neg hlt, if_pos (by omega), fold_bits hf rx.2 ry.2 h1 h2]; rfl

theorem part_fold {f : Nat} (hf : f < 5) (s : Bytes) : partN f s = (partU f s).map (fold f) := by
  unfold partN partU stepU
  rcases first_of (c := 47) (s := s) with h | ⟨a, b, rfl, h⟩
  · rw [cut_none h, split_none h]
    simp only [Bool.false_eq_true, if_false]
    by_cases hs : s = star
    · rw [if_pos hs]
      unfold spanN
      rw [if_pos hs, fold_star hf (by omega) (by omega)]
      rfl
    · rw [if_neg hs, (range_span hf s hs 1 (by omega) (by omega)).1]
      cases rangeU f s false <;> rfl
  · rw [cut_at h, split_cut h]
    simp only [if_true]
    by_cases hb : 47 ∈ b
    · have hlen := split_len 47 b hb
      rw [number_mark (by decide) hb]
      match hs : split 47 b, hlen with
      | x :: y :: t, _ => rfl
    · rw [split_none hb]
      simp only []
      cases hn : number b with
      | none => rfl
      | some step =>
        have hle : step ≤ 99 := Go.Proofs.YtiidhcpflplpiaaGreatDoor.number_le hn
        simp only []
        by_cases h1 : 1 ≤ step
        · rw [if_pos h1]
          simp only []
          by_cases ha : a = star
          · rw [if_pos ⟨h1, Or.inl ha⟩, if_pos ha]
            unfold spanN
            rw [if_pos ha, fold_star hf h1 hle]
            rfl
          · obtain ⟨r1, r2, r3⟩ := range_span hf a ha step h1 hle
            rw [if_neg ha]
            by_cases h2 : (split 45 a).length = 2
            · rw [if_pos ⟨h1, Or.inr h2⟩, r1, r2 h2]
              cases rangeU f a false <;> rfl
            · rw [if_neg (fun e => e.2.elim ha h2), r3 h2]
              rfl
        · rw [if_neg h1, if_neg (fun e => h1 e.1)]
          rfl

theorem parts_fold {f : Nat} (hf : f < 5) (l : List Bytes) (set : Nat) : parts f l (fold f set) = (partsU f l set).map (fold f) := by
  induction l generalizing set with
  | nil => rfl
  | cons p r ih =>
    unfold parts partsU
    rw [part_fold hf]
    cases partU f p with
    | none => rfl
    | some n =>
      simp only [Option.map_some]
      rw [← fold_or, ih]
theorem field_fold {f : Nat} (hf : f < 5) (s : Bytes) : field f s = (fieldU f s).map (fold f) := by
  unfold field fieldU
  have : fold f 0 = 0 := by unfold fold wk; split <;> rfl
  rw [← parts_fold hf, this]

/-! Sizes. -/
theorem gather_lt (b st : Nat) (hb : b < 64) (k n set : Nat) (hs : set < 18446744073709551616) : gatherN 0 b st k n set < 18446744073709551616 := by
  induction k generalizing n set with
  | zero => exact hs
  | succ k ih =>
    unfold gatherN
    split
    · refine ih _ _ (Nat.or_lt_two_pow (n := 64) hs ?_)
      have e : bitN 0 n = 2 ^ n := rfl
      rw [e]
      exact Nat.pow_lt_pow_right (by omega) (by omega)
    · exact hs
theorem bits_lt {a b st : Nat} (hb : b < 64) : bitsN 0 a b st < 18446744073709551616 := gather_lt b st hb 64 a 0 (by omega)
theorem range_le {f : Nat} (hf : f < 5) {p : Bytes} {t : Bool} {x y : Nat} (h : rangeU f p t = some (x, y)) : x ≤ 59 ∧ y ≤ 59 := by
  have hh : high f ≤ 59 := by
    have : ∀ f, f < 5 → high f ≤ 59 := by decide
    exact this f hf
  unfold rangeU at h
  split at h
  · split at h
    · rename_i a b ha hb
      have := place_range hf ha
      have := place_range hf hb
      split at h
      · cases h; omega
      · cases h
    · cases h
  · split at h
    · rename_i a ha
      have := place_range hf ha
      split at h
      · cases h
      · cases h; omega
    · cases h
theorem step_le {c : Bytes × Bytes × Bool} {n : Nat} (h : stepU c = some n) : 1 ≤ n ∧ n ≤ 99 := by
  unfold stepU at h
  split at h
  · split at h
    · rename_i m hm
      have := Go.Proofs.YtiidhcpflplpiaaGreatDoor.number_le hm
      split at h
      · cases h; omega
      · cases h
    · cases h
  · cases h; omega
theorem part_lt {f : Nat} (hf : f < 5) {s : Bytes} {n : Nat} (h : partU f s = some n) : n < 18446744073709551616 := by
  have hh : high f ≤ 59 := by
    have : ∀ f, f < 5 → high f ≤ 59 := by decide
    exact this f hf
  unfold partU at h
  split at h
  · cases h
  · split at h
    · cases h; exact bits_lt (by omega)
    · split at h
      · rename_i a b hr
        cases h
        exact bits_lt (by have := range_le hf hr; omega)
      · cases h
end Crn
