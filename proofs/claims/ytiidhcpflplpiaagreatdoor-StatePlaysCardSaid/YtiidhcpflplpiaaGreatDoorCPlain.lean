/-
  The library's own words for Cut, Split, FieldsFunc, HasPrefix, Join and Itoa, held against the plain functions on cron texts (no program).
-/
import Derived.Test.YtiidhcpflplpiaaGreatDoorSplit
import Derived.Test.YtiidhcpflplpiaaGreatDoorBack
import Derived.Lib.SplitLaws
import Derived.Lib.FieldsP
import Derived.Lib.Join
import Derived.Lib.ItoaNum
import Derived.Lib.Strings
set_option linter.unusedVariables false
namespace Crn
open Go

theorem first_of {c : UInt8} {s : Bytes} : c ∉ s ∨ ∃ a b, s = a ++ c :: b ∧ c ∉ a := by
  by_cases h : c ∈ s
  · obtain ⟨a, b, e, hn⟩ := List.eq_append_cons_of_mem h
    exact Or.inr ⟨a, b, e, hn⟩
  · exact Or.inl h

theorem index_not {c : UInt8} {s : Bytes} (h : c ∉ s) : Lib.index s [c] = -1 := by
  induction s with
  | nil => rfl
  | cons b l ih =>
    have hb : (c == b) = false := by
      simp only [beq_eq_false_iff_ne, ne_eq]
      exact fun e => h (by simp [e])
    simp only [Lib.index, List.isPrefixOf, hb, Bool.false_and, Bool.false_eq_true, if_false]
    rw [ih (fun e => h (by simp [e]))]
    rfl
theorem index_at {c : UInt8} {a : Bytes} (h : c ∉ a) (b : Bytes) : Lib.index (a ++ c :: b) [c] = a.length := by
  induction a with
  | nil => simp [Lib.index, List.isPrefixOf]
  | cons x a ih =>
    have hb : (c == x) = false := by
      simp only [beq_eq_false_iff_ne, ne_eq]
      exact fun e => h (by simp [e])
    have hi := ih (fun e => h (by simp [e]))
    simp only [List.cons_append, Lib.index, List.isPrefixOf, hb, Bool.false_and, Bool.false_eq_true, if_false]
    rw [hi]
    have : (((a.length : Int)) == -1) = false := by simp only [beq_eq_false_iff_ne]; omega
    rw [this]
    simp

theorem cut_none {c : UInt8} {s : Bytes} (h : c ∉ s) : Lib.cut s [c] = (s, [], false) := by
  unfold Lib.cut
  rw [index_not h]
  rfl
theorem cut_at {c : UInt8} {a : Bytes} (h : c ∉ a) (b : Bytes) : Lib.cut (a ++ c :: b) [c] = (a, b, true) := by
  unfold Lib.cut
  rw [index_at h b, if_pos (by omega)]
  simp

theorem splitK_all (c : UInt8) : ∀ (n : Nat) (s : Bytes), s.length ≤ n → Lib.splitK [c] 0 (Lib.count s [c]) s = split c s := by
  intro n
  induction n with
  | zero =>
    intro s hs
    obtain rfl : s = [] := List.length_eq_zero_iff.1 (by omega)
    rfl
  | succ n ih =>
    intro s hs
    rcases first_of (c := c) (s := s) with h | ⟨a, b, rfl, h⟩
    · rw [Lib.count_miss (index_not h), split_none h]
      rfl
    · have hd : (a ++ c :: b).drop (a.length + 1) = b := by simp
      have ht : (a ++ c :: b).take a.length = a := by simp
      rw [Lib.count_hit (by simp) (index_at h b), split_cut h, List.length_singleton, hd, Nat.add_comm 1]
      unfold Lib.splitK
      rw [index_at h b]
      have : (((a.length : Int)) == -1) = false := by simp only [beq_eq_false_iff_ne]; omega
      rw [this]
      simp only [Bool.false_eq_true, if_false, Int.toNat_natCast, Nat.add_zero, List.length_singleton]
      rw [hd, ht, ih b (by simp at hs; omega)]

theorem splitB_all (c : UInt8) (s : ByteArray) : (Lib.splitB ⟨#[c]⟩ 0 (Lib.countB s ⟨#[c]⟩) s).map (·.data.toList) = split c s.data.toList := by
  rw [Lib.splitB_data]
  exact splitK_all c _ _ (Nat.le_refl _)

theorem prefix_star (s : Bytes) : Lib.hasPrefix s [42] = (s.head? == some 42) := by
  cases s with
  | nil => rfl
  | cons b r =>
    simp only [Lib.hasPrefix, List.isPrefixOf, Bool.and_true, List.head?_cons]
    rw [Bool.eq_iff_iff]
    simp only [beq_iff_eq, Option.some.injEq]
    exact eq_comm

theorem digits_num : ∀ n, n < 100 → Lib.decDigits n = num n := by decide +kernel

theorem lib_join (c : UInt8) (l : List Bytes) : Lib.join l [c] = join c l := by
  match l with
  | [] => rfl
  | [p] => exact Lib.join_one p [c]
  | p :: q :: r =>
    have ih := lib_join c (q :: r)
    rw [Lib.join_cons] at ih ⊢
    show _ = p ++ c :: join c (q :: r)
    rw [← ih]
    simp [Lib.joinTail]

/-! The fields of a text, rune by rune. -/
def blankR (r : Nat) : Bool := r == 32 || r == 9

theorem get_bang (s : ByteArray) (i : Nat) (h : i < s.size) : (s.get! i) = s.data.toList[i]'(by simpa using h) := by
  have h' : i < s.data.size := h
  simp only [ByteArray.get!, Array.getElem_toList]
  exact getElem!_pos s.data i h'

theorem decode_low (s : ByteArray) (i : Nat) (h : (s.get! i).toNat < 128) : Utf8.decode s i = ((s.get! i).toNat, 1) := by
  unfold Utf8.decode
  simp only [Nat.add_zero]
  rw [if_pos h]

theorem decode_high (s : ByteArray) (i : Nat) (hi : i < s.size) (h : ¬ (s.get! i).toNat < 128) :
    128 ≤ (Utf8.decode s i).1 ∧ 1 ≤ (Utf8.decode s i).2 ∧ i + (Utf8.decode s i).2 ≤ s.size ∧ ∀ j, j < (Utf8.decode s i).2 → 128 ≤ (s.get! (i + j)).toNat := by
  have one : ∀ j, j < 1 → 128 ≤ (s.get! (i + j)).toNat := fun j hj => by
    obtain rfl : j = 0 := by omega
    simp only [Nat.add_zero]
    omega
  unfold Utf8.decode
  simp only [Nat.add_zero]
  rw [if_neg h]
  split
  · rename_i h2
    simp only [Bool.and_eq_true, beq_iff_eq, decide_eq_true_eq] at h2
    split
    · refine ⟨by assumption, by omega, by simp only []; omega, fun j hj => ?_⟩
      have : j = 0 ∨ j = 1 := by simp only [] at hj; omega
      rcases this with rfl | rfl
      · exact one 0 (by omega)
      · omega
    · exact ⟨by simp [Utf8.runeError], by omega, by simp only []; omega, one⟩
  · split
    · rename_i h2
      simp only [Bool.and_eq_true, beq_iff_eq, decide_eq_true_eq] at h2
      split
      · rename_i h3
        simp only [Bool.and_eq_true, decide_eq_true_eq, ge_iff_le] at h3
        refine ⟨by simp only []; omega, by omega, by simp only []; omega, fun j hj => ?_⟩
        have : j = 0 ∨ j = 1 ∨ j = 2 := by simp only [] at hj; omega
        rcases this with rfl | rfl | rfl
        · exact one 0 (by omega)
        · omega
        · omega
      · exact ⟨by simp [Utf8.runeError], by omega, by simp only []; omega, one⟩
    · split
      · rename_i h2
        simp only [Bool.and_eq_true, beq_iff_eq, decide_eq_true_eq] at h2
        split
        · rename_i h3
          simp only [Bool.and_eq_true, decide_eq_true_eq, ge_iff_le] at h3
          refine ⟨by simp only []; omega, by omega, by simp only []; omega, fun j hj => ?_⟩
          have : j = 0 ∨ j = 1 ∨ j = 2 ∨ j = 3 := by simp only [] at hj; omega
          rcases this with rfl | rfl | rfl | rfl
          · exact one 0 (by omega)
          · omega
          · omega
          · omega
        · exact ⟨by simp [Utf8.runeError], by omega, by simp only []; omega, one⟩
      · exact ⟨by simp [Utf8.runeError], by omega, by simp only []; omega, one⟩

theorem blank_of (b : UInt8) : isBlank b = blankR b.toNat := all_bytes (P := fun b => isBlank b = blankR b.toNat) (by decide +kernel) b
theorem blank_big {b : UInt8} (h : 128 ≤ b.toNat) : isBlank b = false := by
  rw [blank_of]
  unfold blankR
  simp only [Bool.or_eq_false_iff, beq_eq_false_iff_ne]
  omega

/-- One step of the pass: either a blank, or bytes that are none. -/
theorem step_of (s : ByteArray) (i : Nat) (hi : i < s.size) :
    (blankR (Utf8.decode s i).1 = true ∧ (Utf8.decode s i).2 = 1 ∧ isBlank (s.data.toList[i]'(by simpa using hi)) = true) ∨
    (blankR (Utf8.decode s i).1 = false ∧ 1 ≤ (Utf8.decode s i).2 ∧ i + (Utf8.decode s i).2 ≤ s.size ∧ ∀ j (hj : j < s.data.toList.length), i ≤ j → j < i + (Utf8.decode s i).2 → isBlank s.data.toList[j] = false) := by
  by_cases h : (s.get! i).toNat < 128
  · rw [decode_low s i h, get_bang s i hi]
    cases hb : isBlank (s.data.toList[i]'(by simpa using hi))
    · refine Or.inr ⟨by rw [← blank_of]; exact hb, Nat.le_refl _, hi, fun j hj h1 h2 => ?_⟩
      obtain rfl : j = i := by simp only [] at h2; omega
      exact hb
    · exact Or.inl ⟨by rw [← blank_of]; exact hb, rfl, rfl⟩
  · obtain ⟨h1, h2, h3, h4⟩ := decode_high s i hi h
    refine Or.inr ⟨?_, h2, h3, fun j hj a b => ?_⟩
    · unfold blankR
      simp only [Bool.or_eq_false_iff, beq_eq_false_iff_ne]
      omega
    · have := h4 (j - i) (by omega)
      rw [show i + (j - i) = j by omega, get_bang s j (by simpa using hj)] at this
      exact blank_big this

theorem piece_mem {l : Bytes} {a n : Nat} {P : UInt8 → Prop} (h : ∀ j (hj : j < l.length), a ≤ j → j < n → P l[j]) : ∀ b ∈ (l.drop a).take (n - a), P b := by
  intro b hb
  obtain ⟨k, hk, rfl⟩ := List.mem_iff_getElem.1 hb
  simp only [List.length_take, List.length_drop] at hk
  rw [List.getElem_take, List.getElem_drop]
  exact h _ _ (by omega) (by omega)

theorem spans_words (s : ByteArray) : ∀ (f pos : Nat) (st : Option Nat) (acc : List (Nat × Nat)), s.size ≤ pos + f → pos ≤ s.size →
    (∀ a, st = some a → a < pos ∧ ∀ j (hj : j < s.data.toList.length), a ≤ j → j < pos → isBlank s.data.toList[j] = false) →
    (Lib.closeSpans s (Lib.spansFromP blankR s f pos st acc)).map (fun x => (s.data.toList.drop x.1).take (x.2 - x.1)) =
      acc.map (fun x => (s.data.toList.drop x.1).take (x.2 - x.1)) ++ words (s.data.toList.drop (st.getD pos)) := by
  intro f
  induction f with
  | zero =>
    intro pos st acc h1 h2 h3
    obtain rfl : pos = s.size := by omega
    cases st with
    | none =>
      simp only [Lib.spansFromP, Lib.closeSpans, Option.getD_none]
      rw [List.drop_eq_nil_of_le (by simp), words_nil, List.append_nil]
    | some a =>
      obtain ⟨ha, hb⟩ := h3 a rfl
      simp only [Lib.spansFromP, Lib.closeSpans, Option.getD_some, List.map_append, List.map_cons, List.map_nil]
      rw [List.take_of_length_le (by simp), words_one]
      · intro e
        have := congrArg List.length e
        simp at this
        omega
      · have := piece_mem (l := s.data.toList) (a := a) (n := s.size) (P := fun b => isBlank b = false) hb
        rw [List.take_of_length_le (by simp)] at this
        exact this
  | succ f ih =>
    intro pos st acc h1 h2 h3
    by_cases hp : pos < s.size
    · have hpl : pos < s.data.toList.length := by simpa using hp
      have hcons : s.data.toList.drop pos = s.data.toList[pos] :: s.data.toList.drop (pos + 1) := List.drop_eq_getElem_cons hpl
      unfold Lib.spansFromP
      rw [if_pos hp]
      rcases step_of s pos hp with ⟨e1, e2, e3⟩ | ⟨e1, e2, e3, e4⟩
      · rw [if_pos e1, e2]
        cases st with
        | none =>
          simp only []
          rw [ih (pos + 1) none acc (by omega) (by omega) (fun a e => by cases e)]
          simp only [Option.getD_none]
          rw [hcons, words_cons_blank e3]
        | some a =>
          obtain ⟨ha, hb⟩ := h3 a rfl
          simp only []
          rw [ih (pos + 1) none _ (by omega) (by omega) (fun a e => by cases e)]
          simp only [Option.getD_none, Option.getD_some, List.map_append, List.map_cons, List.map_nil, List.append_assoc]
          congr 1
          have hcut : s.data.toList.drop a = (s.data.toList.drop a).take (pos - a) ++ s.data.toList[pos] :: s.data.toList.drop (pos + 1) := by
            have h := (List.take_append_drop (pos - a) (s.data.toList.drop a)).symm
            rw [List.drop_drop, show a + (pos - a) = pos by omega, hcons] at h
            exact h
          rw [hcut, words_append_blank e3, ← hcut, words_one _ (piece_mem (P := fun b => isBlank b = false) hb)]
          intro e
          have := congrArg List.length e
          simp at this
          omega
      · rw [if_neg (by rw [e1]; decide)]
        cases st with
        | none =>
          simp only []
          rw [ih _ (some pos) acc (by omega) e3 (fun a e => by cases e; exact ⟨by omega, e4⟩)]
          rfl
        | some a =>
          obtain ⟨ha, hb⟩ := h3 a rfl
          simp only []
          rw [ih _ (some a) acc (by omega) e3 (fun a' e => by
            cases e
            refine ⟨by omega, fun j hj x y => ?_⟩
            by_cases hlt : j < pos
            · exact hb j hj x hlt
            · exact e4 j hj (by omega) y)]
          rfl
    · obtain rfl : pos = s.size := by omega
      rw [Lib.spansFromP_end _ _ _ _ _ _ hp]
      have := ih s.size st acc (by omega) (Nat.le_refl _) h3
      rw [Lib.spansFromP_end _ _ _ _ _ _ hp] at this
      exact this

theorem fields_words (s : ByteArray) : (Lib.goFieldsP blankR s).map (·.data.toList) = words s.data.toList := by
  unfold Lib.goFieldsP Lib.spansOfP
  rw [List.map_map]
  have := spans_words s s.size 0 none [] (by omega) (by omega) (fun a e => by cases e)
  simp only [List.map_nil, List.nil_append, Option.getD_none, List.drop_zero] at this
  rw [← this]
  apply List.map_congr_left
  intro x _
  simp only [Function.comp]
  rw [ByteArray.data_extract, Array.toList_extract, List.extract_eq_take_drop]
end Crn
