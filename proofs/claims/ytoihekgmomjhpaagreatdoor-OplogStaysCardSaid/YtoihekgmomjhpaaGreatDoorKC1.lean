/-
  Texts laid into one (a claim has 60 files at most): Math, Split, Back, CPlain, Num, Shelf.
-/
import Derived.Lib.SplitLaws
import Derived.Lib.FieldsP
import Derived.Lib.Join
import Derived.Lib.ItoaNum
import Derived.Lib.Strings
import Derived.Test.YtoihekgmomjhpaaGreatDoorRows
import Derived.Laws.BitsAllLaws
import Derived.Lib.Hide
import Derived.WalkKit
import Derived.WalkSpells
import Derived.WalkLawsBesides
import Derived.Laws.BytesArg
import Derived.Shelf.Strconv.Itoa0
import Derived.Shelf.LaysM
import Derived.Shelf.Strconv.Clone
import Derived.Shelf.Strings.Cut
import Derived.Shelf.Strings.Prefix
import Derived.Shelf.Strings.Split
import Derived.Shelf.Strings.FieldsFuncAny
import Derived.Test.YtoihekgmomjhpaaGreatDoorProg
/-
  Cron texts in plain bytes (no program): how a text is split, what a part, a field and a text say. Every function here is the document's answer by definition.
-/
namespace Crn
abbrev Bytes := List UInt8
/-- Cut at each byte of a kind. -/
def splitP (p : UInt8 → Bool) : Bytes → List Bytes
  | [] => [[]]
  | b :: r => if p b then [] :: splitP p r else match splitP p r with
    | [] => [[b]]
    | h :: t => (b :: h) :: t
def split (c : UInt8) : Bytes → List Bytes := splitP (· == c)
def isBlank (b : UInt8) : Bool := b == 32 || b == 9
/-- The fields of a text: what lies between blanks, and isn't empty. -/
def words (s : Bytes) : List Bytes := (splitP isBlank s).filter (fun w => !w.isEmpty)
def small1 (b : UInt8) : UInt8 := if 65 ≤ b ∧ b ≤ 90 then b + 32 else b
def small (s : Bytes) : Bytes := s.map small1
def low (f : Nat) : Nat := if f = 2 ∨ f = 3 then 1 else 0
def high (f : Nat) : Nat := [59, 23, 31, 12, 7].getD f 0
/-- The greatest number of a field in a set: of the days of the week 6. -/
def top (f : Nat) : Nat := if f = 4 then 6 else high f
def monthNames : List Bytes := [[106, 97, 110], [102, 101, 98], [109, 97, 114], [97, 112, 114], [109, 97, 121], [106, 117, 110], [106, 117, 108], [97, 117, 103], [115, 101, 112], [111, 99, 116], [110, 111, 118], [100, 101, 99]]
def dayNames : List Bytes := [[115, 117, 110], [109, 111, 110], [116, 117, 101], [119, 101, 100], [116, 104, 117], [102, 114, 105], [115, 97, 116]]
def names (f : Nat) : List Bytes := if f = 3 then monthNames else if f = 4 then dayNames else []
def digit (b : UInt8) : Option Nat := if 48 ≤ b ∧ b ≤ 57 then some (b.toNat - 48) else none
/-- A number of one or two digits. -/
def number : Bytes → Option Nat
  | [a] => digit a
  | [a, b] => match digit a, digit b with
    | some x, some y => some (x * 10 + y)
    | _, _ => none
  | _ => none
/-- Where a name stands, from k on. -/
def find (s : Bytes) : Nat → List Bytes → Option Nat
  | _, [] => none
  | k, n :: r => if s = n then some k else find s (k + 1) r
def place (f : Nat) (s : Bytes) : Option Nat :=
  match find (small s) 0 (names f) with
  | some i => some (low f + i)
  | none => match number s with
    | some n => if low f ≤ n ∧ n ≤ high f then some n else none
    | none => none
/-- The bit of a number; the 7 of a day of the week is 0. -/
def bitN (f n : Nat) : Nat := if f = 4 ∧ n = 7 then 1 else 2 ^ n
/-- From a to b, every so many, k numbers at most: behind set. -/
def gatherN (f : Nat) (b step : Nat) : Nat → Nat → Nat → Nat
  | 0, _, set => set
  | k + 1, n, set => if n ≤ b then gatherN f b step k (n + step) (set ||| bitN f n) else set
def bitsN (f a b step : Nat) : Nat := gatherN f b step 64 a 0
def star : Bytes := [42]
/-- What stands ahead of the step. -/
def spanN (f : Nat) (p : Bytes) (step : Nat) : Option Nat :=
  if p = star then some (bitsN f (low f) (top f) step) else
  match split 45 p with
  | [x] => match place f x with
    | some a => some (bitsN f a a step)
    | none => none
  | [x, y] => match place f x, place f y with
    | some a, some b => if b < a then none else some (bitsN f a b step)
    | _, _ => none
  | _ => none
def partN (f : Nat) (s : Bytes) : Option Nat :=
  match split 47 s with
  | [p] => spanN f p 1
  | [p, q] => match number q with
    | some step => if 1 ≤ step ∧ (p = star ∨ (split 45 p).length = 2) then spanN f p step else none
    | none => none
  | _ => none
/-- Parts together, behind set. -/
def parts (f : Nat) : List Bytes → Nat → Option Nat
  | [], set => some set
  | p :: r, set => match partN f p with
    | some n => parts f r (set ||| n)
    | none => none
def field (f : Nat) (s : Bytes) : Option Nat := parts f (split 44 s) 0
def aheadN : Bytes → Option Int
  | [g, h1, h2, m1, m2] => if g = 43 ∨ g = 45 then
      match number [h1, h2], number [m1, m2] with
      | some h, some m => if h ≤ 14 ∧ m ≤ 59 then some (if g = 45 then -(60 * (h : Int)) - m else 60 * (h : Int) + m) else none
      | _, _ => none
    else none
  | _ => none
structure SpecN where
  min : Nat
  hour : Nat
  dom : Nat
  mon : Nat
  dow : Nat
  anyDom : Bool
  anyDow : Bool
  ahead : Int
deriving DecidableEq
def zero : SpecN := ⟨0, 0, 0, 0, 0, false, false, 0⟩
def five (a b c d e : Bytes) (n : Int) : Option SpecN :=
  match field 0 a, field 1 b, field 2 c, field 3 d, field 4 e with
  | some x0, some x1, some x2, some x3, some x4 => some ⟨x0, x1, x2, x3, x4, c.head? == some 42, e.head? == some 42, n⟩
  | _, _, _, _, _ => none
def parse (s : Bytes) : Option SpecN :=
  if 256 < s.length then none else
  match words s with
  | [a, b, c, d, e] => five a b c d e 0
  | [a, b, c, d, e, z] => match aheadN z with
    | some n => five a b c d e n
    | none => none
  | _ => none
/-! What is right, and the text of a spec. -/
def every (f step : Nat) : Nat := bitsN f (low f) (top f) step
def okSet (f set : Nat) : Bool := set != 0 && set &&& every f 1 == set
def right (x : SpecN) : Bool := okSet 0 x.min && okSet 1 x.hour && okSet 2 x.dom && okSet 3 x.mon && okSet 4 x.dow && decide (-899 ≤ x.ahead ∧ x.ahead ≤ 899)
def two (n : Nat) : Bytes := [UInt8.ofNat (48 + n / 10), UInt8.ofNat (48 + n % 10)]
def num (n : Nat) : Bytes := if 10 ≤ n then two n else [UInt8.ofNat (48 + n)]
def join (c : UInt8) : List Bytes → Bytes
  | [] => []
  | [p] => p
  | p :: q :: r => p ++ c :: join c (q :: r)
def members (set : Nat) : List Nat := (List.range 64).filter (fun n => set.testBit n)
def list (set : Nat) : Bytes := join 44 ((members set).map num)
/-- The least step, from k on. -/
def stepOf (f set : Nat) : Nat → Nat → Option Nat
  | 0, _ => none
  | k + 1, n => if set = every f n then some n else stepOf f set k (n + 1)
def anyText (f set : Nat) : Bytes :=
  if set = every f 1 then star else
  match stepOf f set 99 1 with
  | some n => [42, 47] ++ list (2 ^ (n % 64))
  | none => []
def fieldText (f set : Nat) (any : Bool) : Bytes := if any then anyText f set else list set
def aheadText (n : Int) : Bytes :=
  if 0 < n then [32, 43] ++ two (n.toNat / 60) ++ two (n.toNat % 60) else
  if n < 0 then [32, 45] ++ two ((-n).toNat / 60) ++ two ((-n).toNat % 60) else []
def text (x : SpecN) : Bytes :=
  if right x then
    let l := [fieldText 0 x.min false, fieldText 1 x.hour false, fieldText 2 x.dom x.anyDom, fieldText 3 x.mon false, fieldText 4 x.dow x.anyDow]
    if l.any (fun t => t.isEmpty) then [] else join 32 l ++ aheadText x.ahead
  else []
def has (set : Nat) (n : Int) : Bool := decide (0 ≤ n ∧ n ≤ 63) && set.testBit n.toNat
def day (x : SpecN) (month d weekday : Int) : Bool :=
  has x.mon month && (if x.anyDom || x.anyDow then has x.dom d && has x.dow weekday else has x.dom d || has x.dow weekday)
def minute (x : SpecN) (hour m : Int) : Bool := has x.hour hour && has x.min m
end Crn

/-
  Cutting bytes at bytes, in plain lists: what is cut and joined again; the fields of a text whose blanks are doubled and whose letters are great.
-/
namespace Crn
theorem splitP_ne (p : UInt8 → Bool) (l : Bytes) : splitP p l ≠ [] := by
  cases l with
  | nil => simp [splitP]
  | cons b r =>
    unfold splitP
    split
    · simp
    · split <;> simp
/-- A byte more at the beginning of the first piece. -/
def onto (b : UInt8) : List Bytes → List Bytes
  | [] => [[b]]
  | h :: t => (b :: h) :: t
theorem splitP_yes {p : UInt8 → Bool} {b : UInt8} (h : p b = true) (r : Bytes) : splitP p (b :: r) = [] :: splitP p r := by
  simp [splitP, h]
theorem splitP_no {p : UInt8 → Bool} {b : UInt8} (h : p b = false) (r : Bytes) : splitP p (b :: r) = onto b (splitP p r) := by
  simp only [splitP, h, Bool.false_eq_true, if_false]
  cases splitP p r <;> rfl
theorem onto_append (b : UInt8) {l : List Bytes} (h : l ≠ []) (m : List Bytes) : onto b (l ++ m) = onto b l ++ m := by
  cases l with
  | nil => exact absurd rfl h
  | cons x t => rfl
theorem splitP_append_cut {p : UInt8 → Bool} {c : UInt8} (hc : p c = true) (a b : Bytes) : splitP p (a ++ c :: b) = splitP p a ++ splitP p b := by
  induction a with
  | nil => simp [splitP, hc]
  | cons x a ih =>
    rw [List.cons_append]
    cases hx : p x
    · rw [splitP_no hx, splitP_no hx, ih, onto_append _ (splitP_ne _ _)]
    · rw [splitP_yes hx, splitP_yes hx, ih, List.cons_append]
theorem splitP_none {p : UInt8 → Bool} {l : Bytes} (h : ∀ b ∈ l, p b = false) : splitP p l = [l] := by
  induction l with
  | nil => rfl
  | cons x l ih => rw [splitP_no (h x (by simp)), ih (fun b hb => h b (by simp [hb]))]; rfl
theorem splitP_cut {p : UInt8 → Bool} {c : UInt8} (hc : p c = true) {a : Bytes} (ha : ∀ b ∈ a, p b = false) (b : Bytes) : splitP p (a ++ c :: b) = a :: splitP p b := by
  rw [splitP_append_cut hc, splitP_none ha]; rfl
theorem split_none {c : UInt8} {l : Bytes} (h : c ∉ l) : split c l = [l] :=
  splitP_none (fun b hb => by simp only [beq_eq_false_iff_ne]; exact fun e => h (e ▸ hb))
theorem split_cut {c : UInt8} {a : Bytes} (h : c ∉ a) (b : Bytes) : split c (a ++ c :: b) = a :: split c b :=
  splitP_cut (by simp) (fun x hx => by simp only [beq_eq_false_iff_ne]; exact fun e => h (e ▸ hx)) b
/-! Fields. -/
theorem words_cons_blank {c : UInt8} (h : isBlank c = true) (r : Bytes) : words (c :: r) = words r := by
  unfold words; rw [splitP_yes h]; rfl
theorem words_append_blank {c : UInt8} (h : isBlank c = true) (a b : Bytes) : words (a ++ c :: b) = words a ++ words b := by
  unfold words; rw [splitP_append_cut h, List.filter_append]
theorem words_one {a : Bytes} (h0 : a ≠ []) (h : ∀ b ∈ a, isBlank b = false) : words a = [a] := by
  unfold words; rw [splitP_none h]
  cases a with
  | nil => exact absurd rfl h0
  | cons x a => rfl
theorem words_nil : words [] = [] := rfl
/-- Tabs as blanks, then cut at blanks. -/
theorem words_tabs (s : Bytes) : (split 32 (s.map fun b => if b = 9 then 32 else b)).filter (fun w => !w.isEmpty) = words s := by
  unfold words split
  have e : splitP (· == 32) (s.map fun b => if b = 9 then 32 else b) = splitP isBlank s := by
    induction s with
    | nil => rfl
    | cons x s ih =>
      rw [List.map_cons]
      cases hx : isBlank x
      · have h9 : ¬ x = 9 := by intro e; subst e; exact absurd hx (by decide)
        have h32 : (x == 32) = false := by
          cases h : x == 32
          · rfl
          · simp [isBlank, h] at hx
        rw [if_neg h9, splitP_no (p := (· == 32)) h32, splitP_no hx, ih]
      · rw [splitP_yes hx, splitP_yes, ih]
        simp only [isBlank, Bool.or_eq_true, beq_iff_eq] at hx
        rcases hx with rfl | rfl <;> decide
  rw [e]
/-! Great letters, blanks twice. -/
def up1 (b : UInt8) : UInt8 := if 97 ≤ b ∧ b ≤ 122 then b - 32 else b
def up (s : Bytes) : Bytes := s.flatMap fun b => if isBlank b then [32, b] else [up1 b]
theorem all_bytes {P : UInt8 → Prop} (h : ∀ n : Nat, n < 256 → P (UInt8.ofNat n)) (b : UInt8) : P b := by
  have := h b.toNat b.toNat_lt
  rwa [UInt8.ofNat_toNat] at this
end Crn

/-
  What is parsed is right, and its text says the same; parts together; names (plain bytes, no program).
-/
namespace Crn
/-! Sets of a field's numbers. -/
def Sub (f set : Nat) : Prop := set &&& every f 1 = set
theorem sub_or {f a b : Nat} (ha : Sub f a) (hb : Sub f b) : Sub f (a ||| b) := by
  unfold Sub at *
  rw [Nat.and_or_distrib_right, ha, hb]
theorem bit_sub : ∀ f, f < 5 → ∀ n, n < 60 → low f ≤ n → n ≤ high f → bitN f n &&& every f 1 = bitN f n := by decide +kernel
theorem high_lt : ∀ f, f < 5 → high f < 60 := by decide
theorem top_le : ∀ f, f < 5 → top f ≤ high f ∧ low f ≤ top f := by decide
theorem run_sub {f : Nat} (hf : f < 5) {b step : Nat} (hb : b ≤ high f) (k n set : Nat) (hn : low f ≤ n) (hs : Sub f set) : Sub f (gatherN f b step k n set) := by
  induction k generalizing n set with
  | zero => exact hs
  | succ k ih =>
    unfold gatherN
    split
    · have := high_lt f hf
      exact ih _ _ (by omega) (sub_or hs (bit_sub f hf n (by omega) hn (by omega)))
    · exact hs
theorem or_ne {a b : Nat} (h : a ≠ 0) : a ||| b ≠ 0 := by
  intro e
  apply h
  apply Nat.eq_of_testBit_eq
  intro i
  have := congrArg (fun x => x.testBit i) e
  simp only [Nat.testBit_or, Nat.zero_testBit, Bool.or_eq_false_iff] at this
  rw [this.1, Nat.zero_testBit]
theorem or_ne' {a b : Nat} (h : b ≠ 0) : a ||| b ≠ 0 := by rw [Nat.or_comm]; exact or_ne h
theorem bit_ne (f n : Nat) : bitN f n ≠ 0 := by
  unfold bitN
  split
  · decide
  · exact Nat.ne_of_gt (Nat.two_pow_pos n)
theorem run_ne (f b step k n set : Nat) (h : set ≠ 0) : gatherN f b step k n set ≠ 0 := by
  induction k generalizing n set with
  | zero => exact h
  | succ k ih =>
    unfold gatherN
    split
    · exact ih _ _ (or_ne h)
    · exact h
theorem bits_ok {f a b step : Nat} (hf : f < 5) (h1 : low f ≤ a) (h2 : a ≤ b) (h3 : b ≤ high f) : okSet f (bitsN f a b step) = true := by
  have hs : Sub f (bitsN f a b step) := run_sub hf h3 64 a 0 h1 (by unfold Sub; exact Nat.zero_and _)
  have hn : bitsN f a b step ≠ 0 := by
    unfold bitsN gatherN
    rw [if_pos h2]
    exact run_ne _ _ _ _ _ _ (or_ne' (bit_ne f a))
  unfold okSet
  simp only [bne_iff_ne, beq_iff_eq, Bool.and_eq_true]
  exact ⟨hn, hs⟩
theorem okSet_iff {f set : Nat} : okSet f set = true ↔ set ≠ 0 ∧ Sub f set := by
  unfold okSet Sub
  simp only [bne_iff_ne, beq_iff_eq, Bool.and_eq_true]
theorem find_lt {s : Bytes} {k i : Nat} {l : List Bytes} (h : find s k l = some i) : k ≤ i ∧ i < k + l.length := by
  induction l generalizing k with
  | nil => cases h
  | cons n l ih =>
    unfold find at h
    split at h
    · cases h; simp
    · have := ih h
      simp only [List.length_cons]
      omega
theorem names_high : ∀ f, f < 5 → ∀ i, i < (names f).length → low f + i ≤ high f := by decide
theorem place_range {f n : Nat} (hf : f < 5) {s : Bytes} (h : place f s = some n) : low f ≤ n ∧ n ≤ high f := by
  unfold place at h
  split at h
  · rename_i i hi
    cases h
    have := names_high f hf i (by have := find_lt hi; omega)
    omega
  · split at h
    · split at h
      · rename_i hr
        cases h
        exact hr
      · cases h
    · cases h
theorem span_ok {f step n : Nat} (hf : f < 5) {p : Bytes} (h : spanN f p step = some n) : okSet f n = true := by
  unfold spanN at h
  split at h
  · cases h
    exact bits_ok hf (Nat.le_refl _) (top_le f hf).2 (top_le f hf).1
  · split at h
    · split at h
      · rename_i a ha
        cases h
        have := place_range hf ha
        exact bits_ok hf this.1 (Nat.le_refl _) this.2
      · cases h
    · split at h
      · rename_i a b ha hb
        split at h
        · cases h
        · cases h
          have := place_range hf ha
          have := place_range hf hb
          exact bits_ok hf (by omega) (by omega) (by omega)
      · cases h
    · cases h
theorem part_ok {f n : Nat} (hf : f < 5) {s : Bytes} (h : partN f s = some n) : okSet f n = true := by
  unfold partN at h
  split at h
  · exact span_ok hf h
  · split at h
    · split at h
      · exact span_ok hf h
      · cases h
    · cases h
  · cases h
theorem parts_sub {f n set : Nat} (hf : f < 5) {l : List Bytes} (h : parts f l set = some n) (hs : okSet f set = true ∨ (Sub f set ∧ l ≠ [])) : okSet f n = true := by
  induction l generalizing set with
  | nil =>
    cases h
    rcases hs with hs | ⟨_, hs⟩
    · exact hs
    · exact absurd rfl hs
  | cons p l ih =>
    unfold parts at h
    split at h
    · rename_i m hm
      have h1 := okSet_iff.1 (part_ok hf hm)
      refine ih h (Or.inl (okSet_iff.2 ⟨or_ne' h1.1, sub_or ?_ h1.2⟩))
      rcases hs with hs | ⟨hs, _⟩
      · exact (okSet_iff.1 hs).2
      · exact hs
    · cases h
theorem field_ok {f n : Nat} (hf : f < 5) {s : Bytes} (h : field f s = some n) : okSet f n = true :=
  parts_sub hf h (Or.inr ⟨by unfold Sub; exact Nat.zero_and _, splitP_ne _ _⟩)
theorem ahead_ok {s : Bytes} {n : Int} (h : aheadN s = some n) : -899 ≤ n ∧ n ≤ 899 := by
  unfold aheadN at h
  split at h
  · split at h
    · split at h
      · split at h
        · cases h
          split <;> omega
        · cases h
      · cases h
    · cases h
  · cases h
theorem five_right {a b c d e : Bytes} {n : Int} {x : SpecN} (hn : -899 ≤ n ∧ n ≤ 899) (h : five a b c d e n = some x) : right x = true := by
  unfold five at h
  split at h
  · rename_i x0 x1 x2 x3 x4 h0 h1 h2 h3 h4
    cases h
    simp only [right, field_ok (by decide) h0, field_ok (by decide) h1, field_ok (by decide) h2, field_ok (by decide) h3, field_ok (by decide) h4, Bool.true_and, decide_eq_true_eq]
    exact hn
  · cases h
theorem parse_right {s : Bytes} {x : SpecN} (h : parse s = some x) : right x = true := by
  unfold parse at h
  split at h
  · cases h
  · split at h
    · exact five_right (by omega) h
    · split at h
      · rename_i n hn
        exact five_right (ahead_ok hn) h
      · cases h
    · cases h
/-! The text of a set. -/
theorem every_bit : ∀ f, f < 5 → ∀ n, n < 64 → (every f 1).testBit n = decide (low f ≤ n ∧ n ≤ top f) := by decide +kernel
theorem every_lt : ∀ f, f < 5 → every f 1 < 2 ^ 64 := by decide +kernel
theorem sub_bit {f set n : Nat} (hf : f < 5) (hs : Sub f set) (h : set.testBit n = true) : n < 64 ∧ low f ≤ n ∧ n ≤ top f := by
  have e : (every f 1).testBit n = true := by
    have := congrArg (fun x => x.testBit n) hs
    simp only [Nat.testBit_and, h, Bool.true_and] at this
    exact this
  have hlt : n < 64 := by
    rcases Nat.lt_or_ge n 64 with h | h
    · exact h
    · rw [Nat.testBit_lt_two_pow (Nat.lt_of_lt_of_le (every_lt f hf) (Nat.pow_le_pow_right (by decide) h))] at e
      cases e
  rw [every_bit f hf n hlt] at e
  exact ⟨hlt, of_decide_eq_true e⟩
theorem mem_members {set n : Nat} : n ∈ members set ↔ n < 64 ∧ set.testBit n = true := by
  unfold members
  rw [List.mem_filter, List.mem_range]
theorem members_ne {f set : Nat} (hf : f < 5) (h : okSet f set = true) : members set ≠ [] := by
  obtain ⟨h0, hs⟩ := okSet_iff.1 h
  intro e
  apply h0
  apply Nat.eq_of_testBit_eq
  intro i
  rw [Nat.zero_testBit]
  cases hi : set.testBit i
  · rfl
  · have : i ∈ members set := mem_members.2 ⟨(sub_bit hf hs hi).1, hi⟩
    rw [e] at this
    cases this
/-! The text of days that are any. -/
theorem right_parts {x : SpecN} (h : right x = true) : okSet 0 x.min = true ∧ okSet 1 x.hour = true ∧ okSet 2 x.dom = true ∧ okSet 3 x.mon = true ∧ okSet 4 x.dow = true ∧ -899 ≤ x.ahead ∧ x.ahead ≤ 899 := by
  unfold right at h
  simp only [Bool.and_eq_true, decide_eq_true_eq] at h
  exact ⟨h.1.1.1.1.1, h.1.1.1.1.2, h.1.1.1.2, h.1.1.2, h.1.2, h.2⟩
/-! Parts together. -/
def tail : Bytes := [32, 48, 32, 49, 32, 49, 32, 48]
/-! Names. -/
end Crn

/-
  The library's own words for Cut, Split, FieldsFunc, HasPrefix, Join and Itoa, held against the plain functions on cron texts (no program).
-/
set_option linter.unusedVariables false
namespace Crn
open Go
theorem first_of {c : UInt8} {s : Bytes} : c ∉ s ∨ ∃ a b, s = a ++ c :: b ∧ c ∉ a := by
  by_cases h : c ∈ s
  · obtain ⟨a, b, e, hn⟩ := List.eq_append_cons_of_mem h
    exact Or.inr ⟨a, b, e, hn⟩
  · exact Or.inl h
theorem index_not {c : UInt8} {s : Bytes} (h : c ∉ s) : Lib.index s [c] = -1 := by
  induction s with
  | nil => rfl
  | cons b l ih =>
    have hb : (c == b) = false := by
      simp only [beq_eq_false_iff_ne, ne_eq]
      exact fun e => h (by simp [e])
    simp only [Lib.index, List.isPrefixOf, hb, Bool.false_and, Bool.false_eq_true, if_false]
    rw [ih (fun e => h (by simp [e]))]
    rfl
theorem index_at {c : UInt8} {a : Bytes} (h : c ∉ a) (b : Bytes) : Lib.index (a ++ c :: b) [c] = a.length := by
  induction a with
  | nil => simp [Lib.index, List.isPrefixOf]
  | cons x a ih =>
    have hb : (c == x) = false := by
      simp only [beq_eq_false_iff_ne, ne_eq]
      exact fun e => h (by simp [e])
    have hi := ih (fun e => h (by simp [e]))
    simp only [List.cons_append, Lib.index, List.isPrefixOf, hb, Bool.false_and, Bool.false_eq_true, if_false]
    rw [hi]
    have : (((a.length : Int)) == -1) = false := by simp only [beq_eq_false_iff_ne]; omega
    rw [this]
    simp
theorem cut_none {c : UInt8} {s : Bytes} (h : c ∉ s) : Lib.cut s [c] = (s, [], false) := by
  unfold Lib.cut
  rw [index_not h]
  rfl
theorem cut_at {c : UInt8} {a : Bytes} (h : c ∉ a) (b : Bytes) : Lib.cut (a ++ c :: b) [c] = (a, b, true) := by
  unfold Lib.cut
  rw [index_at h b, if_pos (by omega)]
  simp
theorem splitK_all (c : UInt8) : ∀ (n : Nat) (s : Bytes), s.length ≤ n → Lib.splitK [c] 0 (Lib.count s [c]) s = split c s := by
  intro n
  induction n with
  | zero =>
    intro s hs
    obtain rfl : s = [] := List.length_eq_zero_iff.1 (by omega)
    rfl
  | succ n ih =>
    intro s hs
    rcases first_of (c := c) (s := s) with h | ⟨a, b, rfl, h⟩
    · rw [Lib.count_miss (index_not h), split_none h]
      rfl
    · have hd : (a ++ c :: b).drop (a.length + 1) = b := by simp
      have ht : (a ++ c :: b).take a.length = a := by simp
      rw [Lib.count_hit (by simp) (index_at h b), split_cut h, List.length_singleton, hd, Nat.add_comm 1]
      unfold Lib.splitK
      rw [index_at h b]
      have : (((a.length : Int)) == -1) = false := by simp only [beq_eq_false_iff_ne]; omega
      rw [this]
      simp only [Bool.false_eq_true, if_false, Int.toNat_natCast, Nat.add_zero, List.length_singleton]
      rw [hd, ht, ih b (by simp at hs; omega)]
theorem splitB_all (c : UInt8) (s : ByteArray) : (Lib.splitB ⟨#[c]⟩ 0 (Lib.countB s ⟨#[c]⟩) s).map (·.data.toList) = split c s.data.toList := by
  rw [Lib.splitB_data]
  exact splitK_all c _ _ (Nat.le_refl _)
theorem prefix_star (s : Bytes) : Lib.hasPrefix s [42] = (s.head? == some 42) := by
  cases s with
  | nil => rfl
  | cons b r =>
    simp only [Lib.hasPrefix, List.isPrefixOf, Bool.and_true, List.head?_cons]
    rw [Bool.eq_iff_iff]
    simp only [beq_iff_eq, Option.some.injEq]
    exact eq_comm
/-! The fields of a text, rune by rune. -/
def blankR (r : Nat) : Bool := r == 32 || r == 9
theorem get_bang (s : ByteArray) (i : Nat) (h : i < s.size) : (s.get! i) = s.data.toList[i]'(by simpa using h) := by
  have h' : i < s.data.size := h
  simp only [ByteArray.get!, Array.getElem_toList]
  exact getElem!_pos s.data i h'
theorem decode_low (s : ByteArray) (i : Nat) (h : (s.get! i).toNat < 128) : Utf8.decode s i = ((s.get! i).toNat, 1) := by
  unfold Utf8.decode
  simp only [Nat.add_zero]
  rw [if_pos h]
theorem decode_high (s : ByteArray) (i : Nat) (hi : i < s.size) (h : ¬ (s.get! i).toNat < 128) :
    128 ≤ (Utf8.decode s i).1 ∧ 1 ≤ (Utf8.decode s i).2 ∧ i + (Utf8.decode s i).2 ≤ s.size ∧ ∀ j, j < (Utf8.decode s i).2 → 128 ≤ (s.get! (i + j)).toNat := by
  have one : ∀ j, j < 1 → 128 ≤ (s.get! (i + j)).toNat := fun j hj => by
    obtain rfl : j = 0 := by omega
    simp only [Nat.add_zero]
    omega
  unfold Utf8.decode
  simp only [Nat.add_zero]
  rw [if_neg h]
  split
  · rename_i h2
    simp only [Bool.and_eq_true, beq_iff_eq, decide_eq_true_eq] at h2
    split
    · refine ⟨by assumption, by omega, by simp only []; omega, fun j hj => ?_⟩
      have : j = 0 ∨ j = 1 := by simp only [] at hj; omega
      rcases this with rfl | rfl
      · exact one 0 (by omega)
      · omega
    · exact ⟨by simp [Utf8.runeError], by omega, by simp only []; omega, one⟩
  · split
    · rename_i h2
      simp only [Bool.and_eq_true, beq_iff_eq, decide_eq_true_eq] at h2
      split
      · rename_i h3
        simp only [Bool.and_eq_true, decide_eq_true_eq, ge_iff_le] at h3
        refine ⟨by simp only []; omega, by omega, by simp only []; omega, fun j hj => ?_⟩
        have : j = 0 ∨ j = 1 ∨ j = 2 := by simp only [] at hj; omega
        rcases this with rfl | rfl | rfl
        · exact one 0 (by omega)
        · omega
        · omega
      · exact ⟨by simp [Utf8.runeError], by omega, by simp only []; omega, one⟩
    · split
      · rename_i h2
        simp only [Bool.and_eq_true, beq_iff_eq, decide_eq_true_eq] at h2
        split
        · rename_i h3
          simp only [Bool.and_eq_true, decide_eq_true_eq, ge_iff_le] at h3
          refine ⟨by simp only []; omega, by omega, by simp only []; omega, fun j hj => ?_⟩
          have : j = 0 ∨ j = 1 ∨ j = 2 ∨ j = 3 := by simp only [] at hj; omega
          rcases this with rfl | rfl | rfl | rfl
          · exact one 0 (by omega)
          · omega
          · omega
          · omega
        · exact ⟨by simp [Utf8.runeError], by omega, by simp only []; omega, one⟩
      · exact ⟨by simp [Utf8.runeError], by omega, by simp only []; omega, one⟩
theorem blank_of (b : UInt8) : isBlank b = blankR b.toNat := all_bytes (P := fun b => isBlank b = blankR b.toNat) (by decide +kernel) b
theorem blank_big {b : UInt8} (h : 128 ≤ b.toNat) : isBlank b = false := by
  rw [blank_of]
  unfold blankR
  simp only [Bool.or_eq_false_iff, beq_eq_false_iff_ne]
  omega
/-- One step of the pass: either a blank, or bytes that are none. -/
theorem step_of (s : ByteArray) (i : Nat) (hi : i < s.size) :
    (blankR (Utf8.decode s i).1 = true ∧ (Utf8.decode s i).2 = 1 ∧ isBlank (s.data.toList[i]'(by simpa using hi)) = true) ∨
    (blankR (Utf8.decode s i).1 = false ∧ 1 ≤ (Utf8.decode s i).2 ∧ i + (Utf8.decode s i).2 ≤ s.size ∧ ∀ j (hj : j < s.data.toList.length), i ≤ j → j < i + (Utf8.decode s i).2 → isBlank s.data.toList[j] = false) := by
  by_cases h : (s.get! i).toNat < 128
  · rw [decode_low s i h, get_bang s i hi]
    cases hb : isBlank (s.data.toList[i]'(by simpa using hi))
    · refine Or.inr ⟨by rw [← blank_of]; exact hb, Nat.le_refl _, hi, fun j hj h1 h2 => ?_⟩
      obtain rfl : j = i := by simp only [] at h2; omega
      exact hb
    · exact Or.inl ⟨by rw [← blank_of]; exact hb, rfl, rfl⟩
  · obtain ⟨h1, h2, h3, h4⟩ := decode_high s i hi h
    refine Or.inr ⟨?_, h2, h3, fun j hj a b => ?_⟩
    · unfold blankR
      simp only [Bool.or_eq_false_iff, beq_eq_false_iff_ne]
      omega
    · have := h4 (j - i) (by omega)
      rw [show i + (j - i) = j by omega, get_bang s j (by simpa using hj)] at this
      exact blank_big this
theorem piece_mem {l : Bytes} {a n : Nat} {P : UInt8 → Prop} (h : ∀ j (hj : j < l.length), a ≤ j → j < n → P l[j]) : ∀ b ∈ (l.drop a).take (n - a), P b := by
  intro b hb
  obtain ⟨k, hk, rfl⟩ := List.mem_iff_getElem.1 hb
  simp only [List.length_take, List.length_drop] at hk
  rw [List.getElem_take, List.getElem_drop]
  exact h _ _ (by omega) (by omega)
theorem spans_words (s : ByteArray) : ∀ (f pos : Nat) (st : Option Nat) (acc : List (Nat × Nat)), s.size ≤ pos + f → pos ≤ s.size →
    (∀ a, st = some a → a < pos ∧ ∀ j (hj : j < s.data.toList.length), a ≤ j → j < pos → isBlank s.data.toList[j] = false) →
    (Lib.closeSpans s (Lib.spansFromP blankR s f pos st acc)).map (fun x => (s.data.toList.drop x.1).take (x.2 - x.1)) =
      acc.map (fun x => (s.data.toList.drop x.1).take (x.2 - x.1)) ++ words (s.data.toList.drop (st.getD pos)) := by
  intro f
  induction f with
  | zero =>
    intro pos st acc h1 h2 h3
    obtain rfl : pos = s.size := by omega
    cases st with
    | none =>
      simp only [Lib.spansFromP, Lib.closeSpans, Option.getD_none]
      rw [List.drop_eq_nil_of_le (by simp), words_nil, List.append_nil]
    | some a =>
      obtain ⟨ha, hb⟩ := h3 a rfl
      simp only [Lib.spansFromP, Lib.closeSpans, Option.getD_some, List.map_append, List.map_cons, List.map_nil]
      rw [List.take_of_length_le (by simp), words_one]
      · intro e
        have := congrArg List.length e
        simp at this
        omega
      · have := piece_mem (l := s.data.toList) (a := a) (n := s.size) (P := fun b => isBlank b = false) hb
        rw [List.take_of_length_le (by simp)] at this
        exact this
  | succ f ih =>
    intro pos st acc h1 h2 h3
    by_cases hp : pos < s.size
    · have hpl : pos < s.data.toList.length := by simpa using hp
      have hcons : s.data.toList.drop pos = s.data.toList[pos] :: s.data.toList.drop (pos + 1) := List.drop_eq_getElem_cons hpl
      unfold Lib.spansFromP
      rw [if_pos hp]
      rcases step_of s pos hp with ⟨e1, e2, e3⟩ | ⟨e1, e2, e3, e4⟩
      · rw [if_pos e1, e2]
        cases st with
        | none =>
          simp only []
          rw [ih (pos + 1) none acc (by omega) (by omega) (fun a e => by cases e)]
          simp only [Option.getD_none]
          rw [hcons, words_cons_blank e3]
        | some a =>
          obtain ⟨ha, hb⟩ := h3 a rfl
          simp only []
          rw [ih (pos + 1) none _ (by omega) (by omega) (fun a e => by cases e)]
          simp only [Option.getD_none, Option.getD_some, List.map_append, List.map_cons, List.map_nil, List.append_assoc]
          congr 1
          have hcut : s.data.toList.drop a = (s.data.toList.drop a).take (pos - a) ++ s.data.toList[pos] :: s.data.toList.drop (pos + 1) := by
            have h := (List.take_append_drop (pos - a) (s.data.toList.drop a)).symm
            rw [List.drop_drop, show a + (pos - a) = pos by omega, hcons] at h
            exact h
          rw [hcut, words_append_blank e3, ← hcut, words_one _ (piece_mem (P := fun b => isBlank b = false) hb)]
          intro e
          have := congrArg List.length e
          simp at this
          omega
      · rw [if_neg (by rw [e1]; decide)]
        cases st with
        | none =>
          simp only []
          rw [ih _ (some pos) acc (by omega) e3 (fun a e => by cases e; exact ⟨by omega, e4⟩)]
          rfl
        | some a =>
          obtain ⟨ha, hb⟩ := h3 a rfl
          simp only []
          rw [ih _ (some a) acc (by omega) e3 (fun a' e => by
            cases e
            refine ⟨by omega, fun j hj x y => ?_⟩
            by_cases hlt : j < pos
            · exact hb j hj x hlt
            · exact e4 j hj (by omega) y)]
          rfl
    · obtain rfl : pos = s.size := by omega
      rw [Lib.spansFromP_end _ _ _ _ _ _ hp]
      have := ih s.size st acc (by omega) (Nat.le_refl _) h3
      rw [Lib.spansFromP_end _ _ _ _ _ _ hp] at this
      exact this
theorem fields_words (s : ByteArray) : (Lib.goFieldsP blankR s).map (·.data.toList) = words s.data.toList := by
  unfold Lib.goFieldsP Lib.spansOfP
  rw [List.map_map]
  have := spans_words s s.size 0 none [] (by omega) (by omega) (fun a e => by cases e)
  simp only [List.map_nil, List.nil_append, Option.getD_none, List.drop_zero] at this
  rw [← this]
  apply List.map_congr_left
  intro x _
  simp only [Function.comp]
  rw [ByteArray.data_extract, Array.toList_extract, List.extract_eq_take_drop]
end Crn

/-
  The document's low, high and number (layer 4): the numbers of a field, and a number of one or two digits.
-/
namespace Go.Proofs.YtoihekgmomjhpaaGreatDoor
open Go.RowKit Crn
theorem ret_int {k : IntKind} {a b : Int} (h : a = b) : Ending.returned (.int k a) = .returned (.int k b) := by rw [h]
theorem ret_bool {a b : Bool} (h : a = b) : Ending.returned (.bool a) = .returned (.bool b) := by rw [h]
/-- A text of these bytes. -/
def bs (l : Bytes) : ByteArray := ⟨l.toArray⟩
theorem bs_list (s : ByteArray) : bs s.data.toList = s := rfl
theorem bs_toList (l : Bytes) : (bs l).data.toList = l := rfl
theorem bs_size (l : Bytes) : (bs l).size = l.length := by simp [bs, ByteArray.size]
/-- A number that may not be there: -1. -/
def orNone : Option Nat → Int
  | some n => n
  | none => -1
/-! Numbers. -/
def digits : Bytes → Nat → Option Nat
  | [], n => some n
  | b :: r, n => match digit b with
    | some d => digits r (n * 10 + d)
    | none => none
theorem number_digits (l : Bytes) (h1 : 1 ≤ l.length) (h2 : l.length ≤ 2) : number l = digits l 0 := by
  match l with
  | [] => simp at h1
  | [a] => simp only [number, digits]; cases digit a <;> simp
  | [a, b] => simp only [number, digits]; cases digit a <;> cases digit b <;> simp
  | _ :: _ :: _ :: _ => simp at h2
theorem number_none {l : Bytes} (h : l.length < 1 ∨ 2 < l.length) : number l = none := by
  match l with
  | [] => rfl
  | [a] => simp at h
  | [a, b] => simp at h
  | _ :: _ :: _ :: _ => rfl
theorem digit_some {b : UInt8} (h1 : 48 ≤ b.toNat) (h2 : b.toNat ≤ 57) : digit b = some (b.toNat - 48) := by
  unfold digit
  rw [if_pos ⟨UInt8.le_iff_toNat_le.2 (by simpa using h1), UInt8.le_iff_toNat_le.2 (by simpa using h2)⟩]
theorem digit_none {b : UInt8} (h : ¬ (48 ≤ b.toNat ∧ b.toNat ≤ 57)) : digit b = none := by
  unfold digit
  rw [if_neg (fun e => h ⟨by simpa using UInt8.le_iff_toNat_le.1 e.1, by simpa using UInt8.le_iff_toNat_le.1 e.2⟩)]
theorem drop_cons (s : ByteArray) (k : Nat) (h : k < s.size) : s.data.toList.drop k = s[k] :: s.data.toList.drop (k + 1) := by
  rw [List.drop_eq_getElem_cons (by simpa using h)]; rfl
end Go.Proofs.YtoihekgmomjhpaaGreatDoor

/-
  What strings.Cut, HasPrefix, Split, FieldsFunc and Clone, and math/bits.Len64 answer at this program. Laid by the guide's own tool (lay-plain.mjs).
-/
namespace Go.Proofs
open Go.Shelf
def Tryz.lays129_ren : Go.Shelf.Ren := ⟨fun | 129 => 130 | n => n, fun | 53 => 110 | 3 => 3 | 4 => 4 | 46 => 59 | 5 => 5 | 9 => 9 | n => n, fun | n => n⟩
theorem Tryz.lays129 : Go.Proofs.Lays.n129 Tryz.prog Tryz.lays129_ren := {
  mixed := by kernel_rfl
  f129 := Tryz.func130.trans (congrArg some (by kernel_rfl))
  t3 := Tryz.underlying3
  a3 := Tryz.isAgg3
  z3 := Tryz.sizeOf3
  v3 := Tryz.zeroValue3
  t4 := Tryz.underlying4
  a4 := Tryz.isAgg4
  z4 := Tryz.sizeOf4
  v4 := Tryz.zeroValue4
  t5 := Tryz.underlying5
  a5 := Tryz.isAgg5
  z5 := Tryz.sizeOf5
  v5 := Tryz.zeroValue5
  t9 := Tryz.underlying9
  a9 := Tryz.isAgg9
  z9 := Tryz.sizeOf9
  v9 := Tryz.zeroValue9
  t46 := Tryz.underlying59
  a46 := Tryz.isAgg59
  z46 := Tryz.sizeOf59
  v46 := Tryz.zeroValue59
  t53 := Tryz.underlying110
  a53 := Tryz.isAgg110
  z53 := Tryz.sizeOf110
  v53 := Tryz.zeroValue110 }
/-- bits.Len64: "Len64 returns the minimum number of bits required to represent x; the result is 0 for x == 0.": IT RETURNS 'Lib.bitLen x'; the world is as it was. ('h0', 'h1': x is a uint64.) (LAID: no walk: one application.) -/
theorem Tryz.bits_Len64 (x : Int) (w : World) (h0 : 0 ≤ x) (h1 : x ≤ 18446744073709551615) :
    Calls Tryz.prog 130 #[.int .u64 x] w fun e w' => e = .returned (.int .i64 (Lib.bitLen x.toNat)) ∧ w' = w := Any.bits_Len64 Tryz.lays129 x w h0 h1
def Tryz.laysM316_ren : Go.Shelf.Ren := ⟨fun | 316 => 48 | n => n, fun | 9 => 9 | 3 => 3 | 4 => 4 | 37 => 147 | 0 => 0 | 127 => 148 | 5 => 5 | n => n, fun | n => n⟩
theorem Tryz.laysM316 : Go.Proofs.LaysM.n316 Tryz.prog Tryz.laysM316_ren := {
  mixed := by kernel_rfl
  f316 := Tryz.func48.trans (congrArg some (by kernel_rfl))
  t0 := Tryz.underlying0
  a0 := Tryz.isAgg0
  z0 := Tryz.sizeOf0
  v0 := Tryz.zeroValue0
  t3 := Tryz.underlying3
  a3 := Tryz.isAgg3
  z3 := Tryz.sizeOf3
  v3 := Tryz.zeroValue3
  t4 := Tryz.underlying4
  a4 := Tryz.isAgg4
  z4 := Tryz.sizeOf4
  v4 := Tryz.zeroValue4
  t9 := Tryz.underlying9
  a9 := Tryz.isAgg9
  z9 := Tryz.sizeOf9
  v9 := Tryz.zeroValue9
  t37 := Tryz.underlying147
  a37 := Tryz.isAgg147
  z37 := Tryz.sizeOf147
  v37 := Tryz.zeroValue147
  t127 := Tryz.underlying148
  a127 := Tryz.isAgg148
  z127 := Tryz.sizeOf148
  v127 := Tryz.zeroValue148
  t5 := Tryz.underlying5
  a5 := Tryz.isAgg5
  z5 := Tryz.sizeOf5
  v5 := Tryz.zeroValue5
  i0 := by kernel_rfl
  i3 := by kernel_rfl
  i4 := by kernel_rfl
  i5 := by kernel_rfl
  i9 := by kernel_rfl
  i37 := by kernel_rfl
  i127 := by kernel_rfl }
open Go.RowKit in
/-- internal/stringslite.Clone (what strings.Clone calls): "Clone returns a fresh copy of s.": THE SAME BYTES. Of what was there nothing has turned (a new row is laid, and frozen, where s is not empty). (LAID: no walk: one application.) -/
theorem Tryz.stringslite_Clone (s : ByteArray) (w : World) (hlim : s.size ≤ 281474976710656) :
    Calls Tryz.prog 48 #[.string s] w fun e w' => e = .returned (.string s) ∧ Below w.heap.size w w' := Any.stringslite_Clone Tryz.laysM316 s w hlim
def Tryz.lays145_ren : Go.Shelf.Ren := ⟨fun | 145 => 208 | 220 => 221 | 219 => 227 | 217 => 231 | 225 => 232 | 224 => 233 | 267 => 234 | 266 => 235 | 314 => 236 | n => n, fun | 9 => 9 | 4 => 4 | 59 => 282 | 3 => 3 | 5 => 5 | 46 => 59 | 146 => 297 | 51 => 139 | n => n, fun | 1 => 3 | n => n⟩
theorem Tryz.lays145 : Go.Proofs.Lays.n145 Tryz.prog Tryz.lays145_ren := {
  mixed := by kernel_rfl
  f145 := Tryz.func208.trans (congrArg some (by kernel_rfl))
  f217 := Tryz.func231.trans (congrArg some (by kernel_rfl))
  f219 := Tryz.func227.trans (congrArg some (by kernel_rfl))
  f220 := Tryz.func221.trans (congrArg some (by kernel_rfl))
  f224 := Tryz.func233.trans (congrArg some (by kernel_rfl))
  f225 := Tryz.func232.trans (congrArg some (by kernel_rfl))
  f266 := Tryz.func235.trans (congrArg some (by kernel_rfl))
  f267 := Tryz.func234.trans (congrArg some (by kernel_rfl))
  f314 := Tryz.func236.trans (congrArg some (by kernel_rfl))
  t3 := Tryz.underlying3
  a3 := Tryz.isAgg3
  z3 := Tryz.sizeOf3
  v3 := Tryz.zeroValue3
  t4 := Tryz.underlying4
  a4 := Tryz.isAgg4
  z4 := Tryz.sizeOf4
  v4 := Tryz.zeroValue4
  t5 := Tryz.underlying5
  a5 := Tryz.isAgg5
  z5 := Tryz.sizeOf5
  v5 := Tryz.zeroValue5
  t9 := Tryz.underlying9
  a9 := Tryz.isAgg9
  z9 := Tryz.sizeOf9
  v9 := Tryz.zeroValue9
  t46 := Tryz.underlying59
  a46 := Tryz.isAgg59
  z46 := Tryz.sizeOf59
  v46 := Tryz.zeroValue59
  t51 := Tryz.underlying139
  a51 := Tryz.isAgg139
  z51 := Tryz.sizeOf139
  v51 := Tryz.zeroValue139
  t59 := Tryz.underlying282
  a59 := Tryz.isAgg282
  z59 := Tryz.sizeOf282
  v59 := Tryz.zeroValue282
  t146 := Tryz.underlying297
  a146 := Tryz.isAgg297
  z146 := Tryz.sizeOf297
  v146 := Tryz.zeroValue297
  g1 := by kernel_rfl }
open Go.RowKit Go.Lib in
/-- strings.Cut: "Cut slices s around the first instance of sep, returning the text before and after sep. The found result reports whether sep appears in s. If sep does not appear in s, cut returns s, "", false.": IT RETURNS 'Lib.cut s sep'; the world is as it was but for the count of draws. (LAID: no walk: one application.) -/
theorem Tryz.strings_Cut (s sep : ByteArray) (m : Int) (w : World) (hs : s.size < 4294967281) (hm : w.cell? ⟨3, 0, none⟩ = some (.int .i64 m)) :
    Calls Tryz.prog 208 #[.string s, .string sep] w fun e w' => e = .returned (.tuple #[.string ⟨(Lib.cut s.data.toList sep.data.toList).1.toArray⟩, .string ⟨(Lib.cut s.data.toList sep.data.toList).2.1.toArray⟩, .bool (Lib.cut s.data.toList sep.data.toList).2.2]) ∧ ∃ n, w' = w.drewN n := Any.strings_Cut Tryz.lays145 s sep m w hs hm
def Tryz.lays99_ren : Go.Shelf.Ren := ⟨fun | 99 => 188 | 206 => 210 | n => n, fun | 9 => 9 | 4 => 4 | 3 => 3 | n => n, fun | n => n⟩
theorem Tryz.lays99 : Go.Proofs.Lays.n99 Tryz.prog Tryz.lays99_ren := {
  mixed := by kernel_rfl
  f99 := Tryz.func188.trans (congrArg some (by kernel_rfl))
  f206 := Tryz.func210.trans (congrArg some (by kernel_rfl))
  t3 := Tryz.underlying3
  a3 := Tryz.isAgg3
  z3 := Tryz.sizeOf3
  v3 := Tryz.zeroValue3
  t4 := Tryz.underlying4
  a4 := Tryz.isAgg4
  z4 := Tryz.sizeOf4
  v4 := Tryz.zeroValue4
  t9 := Tryz.underlying9
  a9 := Tryz.isAgg9
  z9 := Tryz.sizeOf9
  v9 := Tryz.zeroValue9 }
open Go.RowKit Go.Lib in
/-- strings.HasPrefix: "HasPrefix reports whether the string s begins with prefix.": IT RETURNS 'Lib.hasPrefix s prefix'; the world is as it was. (LAID: no walk: one application.) -/
theorem Tryz.strings_HasPrefix (s p : ByteArray) (w : World) :
    Calls Tryz.prog 188 #[.string s, .string p] w fun e w' => e = .returned (.bool (Lib.hasPrefix s.data.toList p.data.toList)) ∧ w' = w := Any.strings_HasPrefix Tryz.lays99 s p w
def Tryz.lays146_ren : Go.Shelf.Ren := ⟨fun | 146 => 186 | 221 => 207 | 268 => 218 | 138 => 219 | 143 => 220 | 195 => 224 | 197 => 225 | 218 => 226 | 219 => 227 | 260 => 230 | 217 => 231 | 225 => 232 | 224 => 233 | 267 => 234 | 266 => 235 | 314 => 236 | n => n, fun | 9 => 9 | 31 => 186 | 3 => 3 | 4 => 4 | 0 => 0 | 105 => 290 | 21 => 21 | 5 => 5 | 46 => 59 | 119 => 293 | 139 => 296 | 138 => 295 | 146 => 297 | 51 => 139 | n => n, fun | 1 => 3 | 3 => 4 | 4 => 5 | n => n⟩
theorem Tryz.lays146 : Go.Proofs.Lays.n146 Tryz.prog Tryz.lays146_ren := {
  mixed := by kernel_rfl
  f138 := Tryz.func219.trans (congrArg some (by kernel_rfl))
  f143 := Tryz.func220.trans (congrArg some (by kernel_rfl))
  f146 := Tryz.func186.trans (congrArg some (by kernel_rfl))
  f195 := Tryz.func224.trans (congrArg some (by kernel_rfl))
  f197 := Tryz.func225.trans (congrArg some (by kernel_rfl))
  f217 := Tryz.func231.trans (congrArg some (by kernel_rfl))
  f218 := Tryz.func226.trans (congrArg some (by kernel_rfl))
  f219 := Tryz.func227.trans (congrArg some (by kernel_rfl))
  f221 := Tryz.func207.trans (congrArg some (by kernel_rfl))
  f224 := Tryz.func233.trans (congrArg some (by kernel_rfl))
  f225 := Tryz.func232.trans (congrArg some (by kernel_rfl))
  f260 := Tryz.func230.trans (congrArg some (by kernel_rfl))
  f266 := Tryz.func235.trans (congrArg some (by kernel_rfl))
  f267 := Tryz.func234.trans (congrArg some (by kernel_rfl))
  f268 := Tryz.func218.trans (congrArg some (by kernel_rfl))
  f314 := Tryz.func236.trans (congrArg some (by kernel_rfl))
  t0 := Tryz.underlying0
  a0 := Tryz.isAgg0
  z0 := Tryz.sizeOf0
  v0 := Tryz.zeroValue0
  t3 := Tryz.underlying3
  a3 := Tryz.isAgg3
  z3 := Tryz.sizeOf3
  v3 := Tryz.zeroValue3
  t4 := Tryz.underlying4
  a4 := Tryz.isAgg4
  z4 := Tryz.sizeOf4
  v4 := Tryz.zeroValue4
  t5 := Tryz.underlying5
  a5 := Tryz.isAgg5
  z5 := Tryz.sizeOf5
  v5 := Tryz.zeroValue5
  t9 := Tryz.underlying9
  a9 := Tryz.isAgg9
  z9 := Tryz.sizeOf9
  v9 := Tryz.zeroValue9
  t21 := Tryz.underlying21
  a21 := Tryz.isAgg21
  z21 := Tryz.sizeOf21
  v21 := Tryz.zeroValue21
  t31 := Tryz.underlying186
  a31 := Tryz.isAgg186
  z31 := Tryz.sizeOf186
  v31 := Tryz.zeroValue186
  t46 := Tryz.underlying59
  a46 := Tryz.isAgg59
  z46 := Tryz.sizeOf59
  v46 := Tryz.zeroValue59
  t51 := Tryz.underlying139
  a51 := Tryz.isAgg139
  z51 := Tryz.sizeOf139
  v51 := Tryz.zeroValue139
  t105 := Tryz.underlying290
  a105 := Tryz.isAgg290
  z105 := Tryz.sizeOf290
  v105 := Tryz.zeroValue290
  t119 := Tryz.underlying293
  a119 := Tryz.isAgg293
  z119 := Tryz.sizeOf293
  t138 := Tryz.underlying295
  a138 := Tryz.isAgg295
  z138 := Tryz.sizeOf295
  v138 := Tryz.zeroValue295
  t139 := Tryz.underlying296
  a139 := Tryz.isAgg296
  z139 := Tryz.sizeOf296
  v139 := Tryz.zeroValue296
  t146 := Tryz.underlying297
  a146 := Tryz.isAgg297
  z146 := Tryz.sizeOf297
  v146 := Tryz.zeroValue297
  g1 := by kernel_rfl
  g3 := by kernel_rfl
  g4 := by kernel_rfl }
open Go.RowKit Go.Lib in
/-- strings.Split. (LAID: no walk: one application.) -/
theorem Tryz.strings_Split (s sep : ByteArray) (m : Int) (w : World) (hs : s.size < 4294967281) (hm : w.cell? ⟨3, 0, none⟩ = some (.int .i64 m)) (h1 : 1 ≤ sep.size) :
    Calls Tryz.prog 186 #[.string s, .string sep] w fun e w' =>
      e = .returned (.slice (some ⟨w.heap.size, 0, none⟩) (Lib.countB s sep + 1) (Lib.countB s sep + 1)) ∧ w' = w.alloc (.cells ((Lib.splitB sep 0 (Lib.countB s sep) s).map Value.string).toArray 9) := Any.strings_Split Tryz.lays146 (by kernel_rfl) s sep m w hs hm h1
def Tryz.lays229_ren : Go.Shelf.Ren := ⟨fun | 229 => 120 | n => n, fun | 9 => 9 | 40 => 209 | 31 => 186 | 152 => 236 | 3 => 3 | 0 => 0 | 4 => 4 | 21 => 21 | 154 => 238 | n => n, fun | n => n⟩
theorem Tryz.lays229 : Go.Proofs.Lays.n229 Tryz.prog Tryz.lays229_ren := {
  mixed := by kernel_rfl
  f229 := Tryz.func120.trans (congrArg some (by kernel_rfl))
  t0 := Tryz.underlying0
  a0 := Tryz.isAgg0
  z0 := Tryz.sizeOf0
  v0 := Tryz.zeroValue0
  t3 := Tryz.underlying3
  a3 := Tryz.isAgg3
  z3 := Tryz.sizeOf3
  v3 := Tryz.zeroValue3
  t4 := Tryz.underlying4
  a4 := Tryz.isAgg4
  z4 := Tryz.sizeOf4
  v4 := Tryz.zeroValue4
  t9 := Tryz.underlying9
  a9 := Tryz.isAgg9
  z9 := Tryz.sizeOf9
  v9 := Tryz.zeroValue9
  t21 := Tryz.underlying21
  a21 := Tryz.isAgg21
  z21 := Tryz.sizeOf21
  v21 := Tryz.zeroValue21
  t31 := Tryz.underlying186
  a31 := Tryz.isAgg186
  z31 := Tryz.sizeOf186
  v31 := Tryz.zeroValue186
  t40 := Tryz.underlying209
  a40 := Tryz.isAgg209
  z40 := Tryz.sizeOf209
  v40 := Tryz.zeroValue209
  t152 := Tryz.underlying236
  a152 := Tryz.isAgg236
  z152 := Tryz.sizeOf236
  v152 := Tryz.zeroValue236
  t154 := Tryz.underlying238
  a154 := Tryz.isAgg238
  z154 := Tryz.sizeOf238
  v154 := Tryz.zeroValue238 }
open Go.RowKit Go.Lib in
/-- .. over a hand of the authors' house's premise as it stands. (LAID: no walk: one application.) -/
theorem Tryz.strings_FieldsFunc (g : Nat) (lb : Array Value) (eg : ∀ args w, (callFunc g args).run Tryz.prog w = .ok (.enter g args) w) (p : Nat → Bool) (s : ByteArray) (w : World) (hs : s.size ≤ 4294967296) (hp : PredAt Tryz.prog g lb encR p w) :
    Calls Tryz.prog 120 #[.string s, .func (.func g) #[] lb] w fun e w' => ∃ A, e = .returned (.slice (some ⟨A, 0, none⟩) (Lib.goFieldsP p s).length (Lib.goFieldsP p s).length) ∧ w.heap.size ≤ A ∧
      w'.ownsRow w.heap.size 9 1 (.slice (some ⟨A, 0, none⟩) (Lib.goFieldsP p s).length (Lib.goFieldsP p s).length) (Lib.goFieldsP p s).length ((Lib.goFieldsP p s).map Value.string) ∧ Below w.heap.size w w' := Any.strings_FieldsFunc Tryz.lays229 g lb eg p s w hs hp (by kernel_rfl) (by kernel_rfl)
end Go.Proofs
