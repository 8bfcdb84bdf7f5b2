/-
  What is parsed is right, and its text says the same; parts together; names (plain bytes, no program).
-/
import Derived.Test.YtiidhcpflplpiaaGreatDoorSplit
namespace Crn

/-! Sets of a field's numbers. -/
def Sub (f set : Nat) : Prop := set &&& every f 1 = set
theorem sub_or {f a b : Nat} (ha : Sub f a) (hb : Sub f b) : Sub f (a ||| b) := by
  unfold Sub at *
  rw [Nat.and_or_distrib_right, ha, hb]
theorem bit_sub : ∀ f, f < 5 → ∀ n, n < 60 → low f ≤ n → n ≤ high f → bitN f n &&& every f 1 = bitN f n := by decide +kernel
theorem high_lt : ∀ f, f < 5 → high f < 60 := by decide
theorem top_le : ∀ f, f < 5 → top f ≤ high f ∧ low f ≤ top f := by decide
theorem run_sub {f : Nat} (hf : f < 5) {b step : Nat} (hb : b ≤ high f) (k n set : Nat) (hn : low f ≤ n) (hs : Sub f set) : Sub f (gatherN f b step k n set) := by
  induction k generalizing n set with
  | zero => exact hs
  | succ k ih =>
    unfold gatherN
    split
    · have := high_lt f hf
      exact ih _ _ (by omega) (sub_or hs (bit_sub f hf n (by omega) hn (by omega)))
    · exact hs
theorem or_ne {a b : Nat} (h : a ≠ 0) : a ||| b ≠ 0 := by
  intro e
  apply h
  apply Nat.eq_of_testBit_eq
  intro i
  have := congrArg (fun x => x.testBit i) e
  simp only [Nat.testBit_or, Nat.zero_testBit, Bool.or_eq_false_iff] at this
  rw [this.1, Nat.zero_testBit]
theorem or_ne' {a b : Nat} (h : b ≠ 0) : a ||| b ≠ 0 := by rw [Nat.or_comm]; exact or_ne h
theorem bit_ne (f n : Nat) : bitN f n ≠ 0 := by
  unfold bitN
  split
  · decide
  · exact Nat.ne_of_gt (Nat.two_pow_pos n)
theorem run_ne (f b step k n set : Nat) (h : set ≠ 0) : gatherN f b step k n set ≠ 0 := by
  induction k generalizing n set with
  | zero => exact h
  | succ k ih =>
    unfold gatherN
    split
    · exact ih _ _ (or_ne h)
    · exact h
theorem bits_ok {f a b step : Nat} (hf : f < 5) (h1 : low f ≤ a) (h2 : a ≤ b) (h3 : b ≤ high f) : okSet f (bitsN f a b step) = true := by
  have hs : Sub f (bitsN f a b step) := run_sub hf h3 64 a 0 h1 (by unfold Sub; exact Nat.zero_and _)
  have hn : bitsN f a b step ≠ 0 := by
    unfold bitsN gatherN
    rw [if_pos h2]
    exact run_ne _ _ _ _ _ _ (or_ne' (bit_ne f a))
  unfold okSet
  simp only [bne_iff_ne, beq_iff_eq, Bool.and_eq_true]
  exact ⟨hn, hs⟩
theorem okSet_iff {f set : Nat} : okSet f set = true ↔ set ≠ 0 ∧ Sub f set := by
  unfold okSet Sub
  simp only [bne_iff_ne, beq_iff_eq, Bool.and_eq_true]

theorem find_lt {s : Bytes} {k i : Nat} {l : List Bytes} (h : find s k l = some i) : k ≤ i ∧ i < k + l.length := by
  induction l generalizing k with
  | nil => cases h
  | cons n l ih =>
    unfold find at h
    split at h
    · cases h; simp
    · have := ih h
      simp only [List.length_cons]
      omega
theorem names_high : ∀ f, f < 5 → ∀ i, i < (names f).length → low f + i ≤ high f := by decide
theorem place_range {f n : Nat} (hf : f < 5) {s : Bytes} (h : place f s = some n) : low f ≤ n ∧ n ≤ high f := by
  unfold place at h
  split at h
  · rename_i i hi
    cases h
    have := names_high f hf i (by have := find_lt hi; omega)
    omega
  · split at h
    · split at h
      · rename_i hr
        cases h
        exact hr
      · cases h
    · cases h
theorem span_ok {f step n : Nat} (hf : f < 5) {p : Bytes} (h : spanN f p step = some n) : okSet f n = true := by
  unfold spanN at h
  split at h
  · cases h
    exact bits_ok hf (Nat.le_refl _) (top_le f hf).2 (top_le f hf).1
  · split at h
    · split at h
      · rename_i a ha
        cases h
        have := place_range hf ha
        exact bits_ok hf this.1 (Nat.le_refl _) this.2
      · cases h
    · split at h
      · rename_i a b ha hb
        split at h
        · cases h
        · cases h
          have := place_range hf ha
          have := place_range hf hb
          exact bits_ok hf (by omega) (by omega) (by omega)
      · cases h
    · cases h
theorem part_ok {f n : Nat} (hf : f < 5) {s : Bytes} (h : partN f s = some n) : okSet f n = true := by
  unfold partN at h
  split at h
  · exact span_ok hf h
  · split at h
    · split at h
      · exact span_ok hf h
      · cases h
    · cases h
  · cases h
theorem parts_sub {f n set : Nat} (hf : f < 5) {l : List Bytes} (h : parts f l set = some n) (hs : okSet f set = true ∨ (Sub f set ∧ l ≠ [])) : okSet f n = true := by
  induction l generalizing set with
  | nil =>
    cases h
    rcases hs with hs | ⟨_, hs⟩
    · exact hs
    · exact absurd rfl hs
  | cons p l ih =>
    unfold parts at h
    split at h
    · rename_i m hm
      have h1 := okSet_iff.1 (part_ok hf hm)
      refine ih h (Or.inl (okSet_iff.2 ⟨or_ne' h1.1, sub_or ?_ h1.2⟩))
      rcases hs with hs | ⟨hs, _⟩
      · exact (okSet_iff.1 hs).2
      · exact hs
    · cases h
theorem field_ok {f n : Nat} (hf : f < 5) {s : Bytes} (h : field f s = some n) : okSet f n = true :=
  parts_sub hf h (Or.inr ⟨by unfold Sub; exact Nat.zero_and _, splitP_ne _ _⟩)

theorem ahead_ok {s : Bytes} {n : Int} (h : aheadN s = some n) : -899 ≤ n ∧ n ≤ 899 := by
  unfold aheadN at h
  split at h
  · split at h
    · split at h
      · split at h
        · cases h
          split <;> omega
        · cases h
      · cases h
    · cases h
  · cases h

theorem five_right {a b c d e : Bytes} {n : Int} {x : SpecN} (hn : -899 ≤ n ∧ n ≤ 899) (h : five a b c d e n = some x) : right x = true := by
  unfold five at h
  split at h
  · rename_i x0 x1 x2 x3 x4 h0 h1 h2 h3 h4
    cases h
    simp only [right, field_ok (by decide) h0, field_ok (by decide) h1, field_ok (by decide) h2, field_ok (by decide) h3, field_ok (by decide) h4, Bool.true_and, decide_eq_true_eq]
    exact hn
  · cases h
theorem parse_right {s : Bytes} {x : SpecN} (h : parse s = some x) : right x = true := by
  unfold parse at h
  split at h
  · cases h
  · split at h
    · exact five_right (by omega) h
    · split at h
      · rename_i n hn
        exact five_right (ahead_ok hn) h
      · cases h
    · cases h

/-! The text of a set. -/
theorem every_bit : ∀ f, f < 5 → ∀ n, n < 64 → (every f 1).testBit n = decide (low f ≤ n ∧ n ≤ top f) := by decide +kernel
theorem every_lt : ∀ f, f < 5 → every f 1 < 2 ^ 64 := by decide +kernel
theorem part_num : ∀ f, f < 5 → ∀ n, n < 64 → low f ≤ n → n ≤ top f → partN f (num n) = some (2 ^ n) := by decide +kernel
theorem num_marks : ∀ n, n < 64 → (num n).all (fun b => 48 ≤ b && b ≤ 57) = true ∧ num n ≠ [] := by decide +kernel

theorem sub_bit {f set n : Nat} (hf : f < 5) (hs : Sub f set) (h : set.testBit n = true) : n < 64 ∧ low f ≤ n ∧ n ≤ top f := by
  have e : (every f 1).testBit n = true := by
    have := congrArg (fun x => x.testBit n) hs
    simp only [Nat.testBit_and, h, Bool.true_and] at this
    exact this
  have hlt : n < 64 := by
    rcases Nat.lt_or_ge n 64 with h | h
    · exact h
    · rw [Nat.testBit_lt_two_pow (Nat.lt_of_lt_of_le (every_lt f hf) (Nat.pow_le_pow_right (by decide) h))] at e
      cases e
  rw [every_bit f hf n hlt] at e
  exact ⟨hlt, of_decide_eq_true e⟩
theorem mem_members {set n : Nat} : n ∈ members set ↔ n < 64 ∧ set.testBit n = true := by
  unfold members
  rw [List.mem_filter, List.mem_range]
theorem members_ne {f set : Nat} (hf : f < 5) (h : okSet f set = true) : members set ≠ [] := by
  obtain ⟨h0, hs⟩ := okSet_iff.1 h
  intro e
  apply h0
  apply Nat.eq_of_testBit_eq
  intro i
  rw [Nat.zero_testBit]
  cases hi : set.testBit i
  · rfl
  · have : i ∈ members set := mem_members.2 ⟨(sub_bit hf hs hi).1, hi⟩
    rw [e] at this
    cases this
theorem parts_nums {f : Nat} (hf : f < 5) (l : List Nat) (hl : ∀ n ∈ l, n < 64 ∧ low f ≤ n ∧ n ≤ top f) (acc : Nat) :
    ∃ r, parts f (l.map num) acc = some r ∧ ∀ k, r.testBit k = (acc.testBit k || decide (k ∈ l)) := by
  induction l generalizing acc with
  | nil => exact ⟨acc, rfl, fun k => by simp⟩
  | cons n l ih =>
    obtain ⟨h1, h2, h3⟩ := hl n (by simp)
    obtain ⟨r, hr, hb⟩ := ih (fun m hm => hl m (by simp [hm])) (acc ||| 2 ^ n)
    refine ⟨r, ?_, fun k => ?_⟩
    · simp only [List.map_cons, parts, part_num f hf n h1 h2 h3]
      exact hr
    · rw [hb k, Nat.testBit_or, Nat.testBit_two_pow]
      simp only [List.mem_cons, Bool.or_assoc]
      congr 1
      rw [Bool.eq_iff_iff, Bool.or_eq_true, decide_eq_true_eq, decide_eq_true_eq, decide_eq_true_eq, eq_comm]
theorem list_marks {set : Nat} {b : UInt8} (h : b ∈ list set) : (48 ≤ b ∧ b ≤ 57) ∨ b = 44 := by
  have one : ∀ n, n < 64 → ∀ b ∈ num n, (48 ≤ b ∧ b ≤ 57) ∨ b = 44 := fun n hn b hb => by
    have := List.all_eq_true.1 (num_marks n hn).1 b hb
    simp only [Bool.and_eq_true, decide_eq_true_eq] at this
    exact Or.inl this
  have key : ∀ l : List Nat, (∀ n ∈ l, n < 64) → ∀ b ∈ join 44 (l.map num), (48 ≤ b ∧ b ≤ 57) ∨ b = 44 := by
    intro l
    induction l with
    | nil => intro _ b hb; cases hb
    | cons n l ih =>
      intro hl b hb
      cases l with
      | nil => exact one n (hl n (by simp)) b hb
      | cons m l =>
        simp only [List.map_cons, join, List.mem_append, List.mem_cons] at hb
        rcases hb with hb | rfl | hb
        · exact one n (hl n (by simp)) b hb
        · exact Or.inr rfl
        · exact ih (fun x hx => hl x (List.mem_cons_of_mem _ hx)) b hb
  exact key (members set) (fun n hn => (mem_members.1 hn).1) b h
theorem list_ne {f set : Nat} (hf : f < 5) (h : okSet f set = true) : list set ≠ [] := by
  unfold list
  have hm := members_ne hf h
  have hl : ∀ n ∈ members set, n < 64 := fun n hn => (mem_members.1 hn).1
  generalize members set = l at *
  match l with
  | [] => exact absurd rfl hm
  | [n] => exact (num_marks n (hl n (by simp))).2
  | n :: m :: l => simp [join]
theorem field_list {f set : Nat} (hf : f < 5) (h : okSet f set = true) : field f (list set) = some set := by
  obtain ⟨h0, hs⟩ := okSet_iff.1 h
  unfold field list
  rw [split_join]
  · obtain ⟨r, hr, hb⟩ := parts_nums hf (members set) (fun n hn => sub_bit hf hs (mem_members.1 hn).2) 0
    rw [hr]
    congr 1
    apply Nat.eq_of_testBit_eq
    intro i
    rw [hb i, Nat.zero_testBit, Bool.false_or]
    cases hi : set.testBit i
    · simp [mem_members, hi]
    · simp [mem_members, hi, (sub_bit hf hs hi).1]
  · simpa using members_ne hf h
  · intro q hq hc
    obtain ⟨n, hn, rfl⟩ := List.mem_map.1 hq
    have := List.all_eq_true.1 (num_marks n (mem_members.1 hn).1).1 44 hc
    exact absurd this (by decide)

/-! The text of days that are any. -/
theorem stepOf_some {f set k m n : Nat} (h : stepOf f set k m = some n) : m ≤ n ∧ n < m + k ∧ set = every f n ∧ ∀ j, m ≤ j → j < n → set ≠ every f j := by
  induction k generalizing m with
  | zero => cases h
  | succ k ih =>
    unfold stepOf at h
    split at h
    · rename_i e
      cases h
      exact ⟨Nat.le_refl _, by omega, e, fun j h1 h2 => by omega⟩
    · rename_i e
      obtain ⟨h1, h2, h3, h4⟩ := ih h
      refine ⟨by omega, by omega, h3, fun j j1 j2 => ?_⟩
      rcases Nat.lt_or_ge m j with hj | hj
      · exact h4 j (by omega) j2
      · obtain rfl : j = m := by omega
        exact e
theorem every_far : ∀ f, f = 2 ∨ f = 4 → ∀ n, n < 100 → 64 ≤ n → every f n = every f 63 := by
  have h2 : ∀ n, n < 100 → 64 ≤ n → every 2 n = every 2 63 := by decide +kernel
  have h4 : ∀ n, n < 100 → 64 ≤ n → every 4 n = every 4 63 := by decide +kernel
  rintro f (rfl | rfl)
  · exact h2
  · exact h4
theorem list_pow : ∀ n, n < 64 → list (2 ^ (n % 64)) = num n := by decide +kernel
theorem field_star : ∀ f, f < 5 → field f star = some (every f 1) := by decide +kernel
theorem field_step : ∀ f, f < 5 → ∀ n, n < 64 → 1 ≤ n → field f ([42, 47] ++ num n) = some (every f n) := by decide +kernel
theorem any_text {f set : Nat} (hf : f = 2 ∨ f = 4) (h : anyText f set ≠ []) :
    field f (anyText f set) = some set ∧ (anyText f set).head? = some 42 ∧ ∀ b ∈ anyText f set, isBlank b = false := by
  have hf5 : f < 5 := by omega
  unfold anyText at h ⊢
  split
  · rename_i e
    rw [e]
    exact ⟨field_star f hf5, rfl, by decide⟩
  · rename_i e
    rw [if_neg e] at h
    split at h
    · rename_i n hn
      obtain ⟨n1, n2, n3, n4⟩ := stepOf_some hn
      have hlt : n < 64 := by
        rcases Nat.lt_or_ge n 64 with h | h
        · exact h
        · exact absurd (n3.trans (every_far f hf n (by omega) h)) (n4 63 (by omega) (by omega))
      rw [list_pow n hlt]
      refine ⟨by rw [field_step f hf5 n hlt n1, n3], rfl, fun b hb => ?_⟩
      rcases List.mem_append.1 hb with hb | hb
      · exact (by decide : ∀ b ∈ ([42, 47] : Bytes), isBlank b = false) b hb
      · have := List.all_eq_true.1 (num_marks n hlt).1 b hb
        simp only [Bool.and_eq_true, decide_eq_true_eq] at this
        unfold isBlank
        simp only [Bool.or_eq_false_iff, beq_eq_false_iff_ne]
        refine ⟨?_, ?_⟩ <;> (rintro rfl; exact absurd this.1 (by decide))
    · exact absurd rfl h

theorem field_text {f set : Nat} {any : Bool} (hf : f < 5) (ha : any = true → f = 2 ∨ f = 4) (hs : okSet f set = true) (h : fieldText f set any ≠ []) :
    field f (fieldText f set any) = some set ∧ ((fieldText f set any).head? == some 42) = any ∧ ∀ b ∈ fieldText f set any, isBlank b = false := by
  cases any with
  | true =>
    obtain ⟨h1, h2, h3⟩ := any_text (ha rfl) h
    exact ⟨h1, by show ((anyText f set).head? == some 42) = true; rw [h2]; rfl, h3⟩
  | false =>
    refine ⟨field_list hf hs, ?_, fun b hb => ?_⟩
    · show ((list set).head? == some 42) = false
      cases hl : list set with
      | nil => rfl
      | cons a l =>
        have := list_marks (set := set) (b := a) (by rw [hl]; simp)
        simp only [List.head?_cons, beq_eq_false_iff_ne, ne_eq, Option.some.injEq]
        rintro rfl
        exact absurd this (by decide)
    · have := list_marks (show b ∈ list set from hb)
      unfold isBlank
      simp only [Bool.or_eq_false_iff, beq_eq_false_iff_ne]
      refine ⟨?_, ?_⟩ <;> (rintro rfl; exact absurd this (by decide))

theorem ahead_plus : ∀ n, n < 900 → 0 < n → aheadN ([43] ++ two (n / 60) ++ two (n % 60)) = some (n : Int) := by decide +kernel
theorem ahead_minus : ∀ n, n < 900 → 0 < n → aheadN ([45] ++ two (n / 60) ++ two (n % 60)) = some (-(n : Int)) := by decide +kernel
theorem two_marks : ∀ n, n < 60 → (two n).all (fun b => 48 ≤ b && b ≤ 57) = true := by decide +kernel
theorem two_blank {n : Nat} (h : n < 60) : ∀ b ∈ two n, isBlank b = false := fun b hb => by
  have := List.all_eq_true.1 (two_marks n h) b hb
  simp only [Bool.and_eq_true, decide_eq_true_eq] at this
  unfold isBlank
  simp only [Bool.or_eq_false_iff, beq_eq_false_iff_ne]
  refine ⟨?_, ?_⟩ <;> (rintro rfl; exact absurd this.1 (by decide))

/-- The sixth field, if there is one. -/
theorem aheadText_cases {n : Int} (h : -899 ≤ n ∧ n ≤ 899) :
    (n = 0 ∧ aheadText n = []) ∨ ∃ z, aheadText n = 32 :: z ∧ z ≠ [] ∧ (∀ b ∈ z, isBlank b = false) ∧ aheadN z = some n := by
  rcases Int.lt_trichotomy n 0 with h0 | h0 | h0
  · right
    have e : aheadText n = 32 :: ([45] ++ two ((-n).toNat / 60) ++ two ((-n).toNat % 60)) := by
      unfold aheadText
      rw [if_neg (by omega), if_pos h0]
      rfl
    refine ⟨_, e, by simp, fun b hb => ?_, ?_⟩
    · simp only [List.mem_append, List.mem_cons, List.not_mem_nil, or_false] at hb
      rcases hb with (rfl | hb) | hb
      · decide
      · exact two_blank (by omega) b hb
      · exact two_blank (by omega) b hb
    · rw [ahead_minus _ (by omega) (by omega)]
      congr 1
      omega
  · left
    subst h0
    exact ⟨rfl, rfl⟩
  · right
    have e : aheadText n = 32 :: ([43] ++ two (n.toNat / 60) ++ two (n.toNat % 60)) := by
      unfold aheadText
      rw [if_pos h0]
      rfl
    refine ⟨_, e, by simp, fun b hb => ?_, ?_⟩
    · simp only [List.mem_append, List.mem_cons, List.not_mem_nil, or_false] at hb
      rcases hb with (rfl | hb) | hb
      · decide
      · exact two_blank (by omega) b hb
      · exact two_blank (by omega) b hb
    · rw [ahead_plus _ (by omega) (by omega)]
      congr 1
      omega

theorem right_parts {x : SpecN} (h : right x = true) : okSet 0 x.min = true ∧ okSet 1 x.hour = true ∧ okSet 2 x.dom = true ∧ okSet 3 x.mon = true ∧ okSet 4 x.dow = true ∧ -899 ≤ x.ahead ∧ x.ahead ≤ 899 := by
  unfold right at h
  simp only [Bool.and_eq_true, decide_eq_true_eq] at h
  exact ⟨h.1.1.1.1.1, h.1.1.1.1.2, h.1.1.1.2, h.1.1.2, h.1.2, h.2⟩

/-- The text of what is right, where there is one, says it again. -/
theorem text_back {x : SpecN} (h : right x = true) : (text x = [] ∧ (x.anyDom || x.anyDow) = true) ∨ parse (text x) = some x ∨ 256 < (text x).length := by
  obtain ⟨h0, h1, h2, h3, h4, hn⟩ := right_parts h
  by_cases hlen : 256 < (text x).length
  · exact Or.inr (Or.inr hlen)
  · unfold text at hlen ⊢
    rw [if_pos h] at hlen ⊢
    simp only [List.any_cons, List.any_nil, Bool.or_false, Bool.or_eq_true, List.isEmpty_iff] at hlen ⊢
    have n0 : fieldText 0 x.min false ≠ [] := list_ne (by decide) h0
    have n1 : fieldText 1 x.hour false ≠ [] := list_ne (by decide) h1
    have n3 : fieldText 3 x.mon false ≠ [] := list_ne (by decide) h3
    by_cases n2 : fieldText 2 x.dom x.anyDom = []
    · left
      rw [if_pos (by simp [n2])]
      refine ⟨rfl, Or.inl ?_⟩
      cases ha : x.anyDom
      · rw [ha] at n2; exact absurd n2 (list_ne (by decide) h2)
      · rfl
    · by_cases n4 : fieldText 4 x.dow x.anyDow = []
      · left
        rw [if_pos (by simp [n4])]
        refine ⟨rfl, Or.inr ?_⟩
        cases ha : x.anyDow
        · rw [ha] at n4; exact absurd n4 (list_ne (by decide) h4)
        · rfl
      · right; left
        have hne : ¬ (fieldText 0 x.min false = [] ∨ fieldText 1 x.hour false = [] ∨ fieldText 2 x.dom x.anyDom = [] ∨ fieldText 3 x.mon false = [] ∨ fieldText 4 x.dow x.anyDow = []) := by
          simp [n0, n1, n2, n3, n4]
        rw [if_neg hne] at hlen ⊢
        obtain ⟨f0, _, b0⟩ := field_text (f := (0 : Nat)) (any := false) (by decide) (by decide) h0 n0
        obtain ⟨f1, _, b1⟩ := field_text (f := (1 : Nat)) (any := false) (by decide) (by decide) h1 n1
        obtain ⟨f2, a2, b2⟩ := field_text (f := (2 : Nat)) (by decide) (fun _ => Or.inl rfl) h2 n2
        obtain ⟨f3, _, b3⟩ := field_text (f := (3 : Nat)) (any := false) (by decide) (by decide) h3 n3
        obtain ⟨f4, a4, b4⟩ := field_text (f := (4 : Nat)) (by decide) (fun _ => Or.inr rfl) h4 n4
        have hw : words (join 32 [fieldText 0 x.min false, fieldText 1 x.hour false, fieldText 2 x.dom x.anyDom, fieldText 3 x.mon false, fieldText 4 x.dow x.anyDow]) = [fieldText 0 x.min false, fieldText 1 x.hour false, fieldText 2 x.dom x.anyDom, fieldText 3 x.mon false, fieldText 4 x.dow x.anyDow] := by
          apply words_join
          intro q hq
          simp only [List.mem_cons, List.not_mem_nil, or_false] at hq
          rcases hq with rfl | rfl | rfl | rfl | rfl
          · exact ⟨n0, b0⟩
          · exact ⟨n1, b1⟩
          · exact ⟨n2, b2⟩
          · exact ⟨n3, b3⟩
          · exact ⟨n4, b4⟩
        have hfive : ∀ n, five (fieldText 0 x.min false) (fieldText 1 x.hour false) (fieldText 2 x.dom x.anyDom) (fieldText 3 x.mon false) (fieldText 4 x.dow x.anyDow) n = some ⟨x.min, x.hour, x.dom, x.mon, x.dow, x.anyDom, x.anyDow, n⟩ := by
          intro n
          unfold five
          rw [f0, f1, f2, f3, f4]
          simp only [a2, a4]
        unfold parse
        rw [if_neg hlen]
        rcases aheadText_cases hn with ⟨e, ea⟩ | ⟨z, ea, z0, zb, ez⟩
        · rw [ea, List.append_nil, hw]
          simp only []
          rw [hfive, ← e]
        · rw [ea, words_append_blank (by decide), hw, words_one z0 zb]
          simp only [List.cons_append, List.nil_append, ez]
          rw [hfive]

/-! Parts together. -/
theorem parts_or (f : Nat) (l : List Bytes) (set : Nat) : parts f l set = (parts f l 0).map (set ||| ·) := by
  induction l generalizing set with
  | nil => simp [parts]
  | cons p l ih =>
    unfold parts
    cases partN f p with
    | none => rfl
    | some n =>
      simp only []
      rw [ih (set ||| n), ih (0 ||| n)]
      cases parts f l 0 with
      | none => rfl
      | some m => simp [Nat.or_assoc]
theorem parts_append (f : Nat) (l m : List Bytes) (set : Nat) : parts f (l ++ m) set = (parts f l set).bind (parts f m) := by
  induction l generalizing set with
  | nil => rfl
  | cons p l ih =>
    simp only [List.cons_append, parts]
    cases partN f p with
    | none => rfl
    | some n => exact ih _
theorem field_comma (f : Nat) (a b : Bytes) : field f (a ++ 44 :: b) = (field f a).bind fun x => (field f b).map fun y => x ||| y := by
  unfold field
  rw [split_append_cut, parts_append]
  cases parts f (split 44 a) 0 with
  | none => rfl
  | some x => exact parts_or f _ x
theorem field_nil : field 0 [] = none := by decide

def tail : Bytes := [32, 48, 32, 49, 32, 49, 32, 48]
theorem tail_fields : field 1 [48] = some 1 ∧ field 2 [49] = some 2 ∧ field 3 [49] = some 2 ∧ field 4 [48] = some 1 := by decide +kernel
theorem tail_words : words [48, 32, 49, 32, 49, 32, 48] = [[48], [49], [49], [48]] := by decide
theorem parse_tail (a : Bytes) (ha : ∀ b ∈ a, isBlank b = false) (hl : a.length ≤ 200) :
    parse (a ++ tail) = (field 0 a).map fun x => ⟨x, 1, 2, 2, 1, false, false, 0⟩ := by
  unfold parse
  rw [if_neg (by simp [tail]; omega)]
  by_cases h0 : a = []
  · subst h0
    rw [field_nil]
    have : words ([] ++ tail) = [[48], [49], [49], [48]] := by decide
    rw [this]
    rfl
  · have : words (a ++ tail) = [a, [48], [49], [49], [48]] := by
      show words (a ++ 32 :: [48, 32, 49, 32, 49, 32, 48]) = _
      rw [words_cut h0 ha, tail_words]
    rw [this]
    simp only [five, tail_fields]
    cases field 0 a <;> rfl

/-! Names. -/
def front : Bytes := [48, 32, 48, 32, 49, 32]
theorem front_fields : field 0 [48] = some 1 ∧ field 1 [48] = some 1 ∧ field 2 [49] = some 2 := by decide +kernel
theorem parse_front {m d : Bytes} {x y : Nat} (m0 : m ≠ []) (mb : ∀ b ∈ m, isBlank b = false) (d0 : d ≠ []) (db : ∀ b ∈ d, isBlank b = false) (hl : m.length + d.length ≤ 100)
    (hm : field 3 m = some x) (hd : field 4 d = some y) (hs : (d.head? == some 42) = false) :
    parse (front ++ m ++ 32 :: d) = some ⟨1, 1, 2, x, y, false, false, 0⟩ := by
  unfold parse
  rw [if_neg (by simp [front]; omega)]
  have : words (front ++ m ++ 32 :: d) = [[48], [48], [49], m, d] := by
    have e : front ++ m ++ 32 :: d = [48] ++ 32 :: ([48] ++ 32 :: ([49] ++ 32 :: (m ++ 32 :: d))) := by simp [front]
    rw [e, words_cut (by decide) (by decide), words_cut (by decide) (by decide), words_cut (by decide) (by decide), words_cut m0 mb, words_one d0 db]
  rw [this]
  simp only [five, front_fields, hm, hd, hs]
  rfl
end Crn
