/-
  Layer 11 (no program): which chain may come behind which, in the document's own way; and not the other way round.
-/
import Derived.Test.YtnagidgffkffhaaGPlain3
set_option linter.unusedVariables false
namespace Cfg
theorem sync_at {a : CfN} (ha : RightP a) {i : Nat} (hi : i < a.l.length) : syncN a a.l[i].m = if a.l[i].syn = true then (zeroN, 11) else (⟨a.epoch, setN a.l i⟩, 0) := by
  unfold syncN
  rw [if_neg (by rw [right_iff.2 ha]; decide), place_self ha.good hi, if_neg (by omega), Int.toNat_natCast, getD_eq hi]
theorem okUp_fit {a b : List StN} {k i : Nat} (h : okUp a b k = true) (hi : i < k) : okSt (a.getD i default) (b.getD i default) = true := by
  cases hx : okSt (a.getD i default) (b.getD i default)
  · rw [okUp_no hx hi] at h; cases h
  · rfl
theorem moreN_zero {a b : List StN} {k : Nat} (h : moreN a b k = 0) : ∀ i, i < k → b.getD i default = a.getD i default := by
  induction k with
  | zero => intro i hi; omega
  | succ k ih =>
    have h : moreN a b k + (if b.getD k default = a.getD k default then 0 else 1) = 0 := h
    intro i hi
    by_cases e : b.getD k default = a.getD k default
    · rcases Nat.lt_or_ge i k with h1 | h1
      · exact ih (by omega) i h1
      · obtain rfl : i = k := by omega
        exact e
    · rw [if_neg e] at h; omega
theorem moreN_one {a b : List StN} {k : Nat} (h : moreN a b k = 1) : ∃ j, j < k ∧ b.getD j default ≠ a.getD j default ∧ ∀ i, i < k → i ≠ j → b.getD i default = a.getD i default := by
  induction k with
  | zero => cases h
  | succ k ih =>
    have h : moreN a b k + (if b.getD k default = a.getD k default then 0 else 1) = 1 := h
    by_cases e : b.getD k default = a.getD k default
    · rw [if_pos e] at h
      obtain ⟨j, h1, h2, h3⟩ := ih (by omega)
      refine ⟨j, by omega, h2, fun i hi hne => ?_⟩
      rcases Nat.lt_or_ge i k with h4 | h4
      · exact h3 i h4 hne
      · obtain rfl : i = k := by omega
        exact e
    · rw [if_neg e] at h
      refine ⟨k, by omega, e, fun i hi hne => moreN_zero (a := a) (b := b) (k := k) (by omega) i (by omega)⟩
theorem once_iff {a b : List StN} : onceN a b = true ↔ a = b ∨ ∃ i, ∃ h : i < a.length, a[i].syn = false ∧ b = setN a i := by
  constructor
  · intro h
    unfold onceN at h
    simp only [Bool.and_eq_true, decide_eq_true_eq] at h
    obtain ⟨hl, hok, hm⟩ := h
    rcases Nat.eq_zero_or_pos (moreN a b a.length) with h0 | h0
    · left
      refine List.ext_getElem hl fun i h1 h2 => ?_
      have := moreN_zero h0 i h1
      rw [getD_eq h1, getD_eq h2] at this
      exact this.symm
    · right
      obtain ⟨j, h1, h2, h3⟩ := moreN_one (a := a) (b := b) (k := a.length) (by omega)
      have hj2 : j < b.length := by omega
      have hk := okUp_fit hok h1
      rw [getD_eq h1, getD_eq hj2] at h2 hk
      unfold okSt at hk
      simp only [Bool.or_eq_true, decide_eq_true_eq] at hk
      have hb : b[j] = ⟨a[j].m, true⟩ := hk.resolve_left h2
      refine ⟨j, h1, ?_, ?_⟩
      · cases hs : a[j].syn
        · rfl
        · exfalso
          apply h2
          rw [hb]
          cases hq : a[j] with
          | mk m s => rw [hq] at hs; dsimp only at hs; rw [hs]
      · refine List.ext_getElem (by rw [setN_len]; omega) fun i hi1 hi2 => ?_
        have hi3 : i < a.length := by omega
        rw [setN_get h1 hi2 hi3]
        by_cases e : j = i
        · subst e; rw [if_pos rfl]; exact hb
        · rw [if_neg e]
          have := h3 i hi3 (fun x => e x.symm)
          rw [getD_eq hi3, getD_eq hi1] at this
          exact this
  · rintro (rfl | ⟨i, h, h1, rfl⟩)
    · exact once_self a
    · exact once_set h h1
/-- Of one epoch. -/
theorem foll_same {a b : CfN} (ha : RightP a) (hb : RightP b) (he : b.epoch = a.epoch) : followsN a b = true ↔ a = b ∨ ∃ i, ∃ h : i < a.l.length, syncN a a.l[i].m = (b, 0) := by
  rw [follows_right ha hb, if_pos he, once_iff]
  constructor
  · rintro (h | ⟨i, h, h1, h2⟩)
    · left; cases a; cases b; dsimp only at he h; subst he h; rfl
    · right
      refine ⟨i, h, ?_⟩
      rw [sync_at ha h, if_neg (by rw [h1]; decide), ← h2, ← he]
  · rintro (h | ⟨i, h, h1⟩)
    · left; rw [h]
    · right
      rw [sync_at ha h] at h1
      split at h1
      · injection h1 with _ h1; cases h1
      · next hs =>
        injection h1 with h1 _
        exact ⟨i, h, by simpa using hs, by rw [← h1]⟩
theorem last_eq {b : CfN} (hb : RightP b) : b.l.length - 1 < b.l.length := by have := hb.n1; omega
/-- Of the next epoch. -/
theorem foll_next {a b : CfN} (ha : RightP a) (hb : RightP b) (he : b.epoch = a.epoch + 1) : followsN a b = (decide (joinN a (b.l[b.l.length - 1]'(last_eq hb)).m = (b, 0)) || subN b.l a.l) := by
  rw [follows_right ha hb, if_neg (by omega), if_pos he, Bool.or_comm]
  congr 1
  have hn := hb.n1
  rw [Bool.eq_iff_iff, decide_eq_true_eq]
  constructor
  · intro h
    unfold joinedN at h
    simp only [Bool.and_eq_true, decide_eq_true_eq, Bool.not_eq_true'] at h
    obtain ⟨h1, h2, h3⟩ := h
    have hk : a.l.length < b.l.length := by omega
    rw [getD_eq hk] at h3
    have hlast : b.l[b.l.length - 1]'(last_eq hb) = b.l[a.l.length] := by congr 1; omega
    rw [hlast]
    have hm : mayN b.l[a.l.length].m = true := hb.good.may _ (List.getElem_mem hk)
    have hs : sitsN a.l b.l[a.l.length].m.node = false := Bool.eq_false_iff.2 fun e => by
      obtain ⟨s, hs, e⟩ := sitsN_iff.1 e
      obtain ⟨i, hi, rfl⟩ := List.getElem_of_mem hs
      have hi2 : i < b.l.length := by omega
      have e2 : a.l[i] = b.l[i] := by
        have : a.l[i] = (b.l.take a.l.length)[i]'(by rw [List.length_take]; omega) := by congr 1
        rw [this, List.getElem_take]
      rw [e2] at e
      have := hb.good.once i a.l.length hi2 hk e
      omega
    unfold joinN
    rw [if_neg (by rw [right_iff.2 ha]; decide), if_neg (by rw [hm]; decide), if_neg (by rw [hs]; decide)]
    unfold laterN
    have := hb.e2
    rw [if_neg (by omega), ← he]
    have hbl : a.l ++ [⟨b.l[a.l.length].m, false⟩] = b.l := by
      have h4 : b.l = b.l.take a.l.length ++ [b.l[a.l.length]] := by
        rw [← List.take_succ_eq_append_getElem hk, List.take_of_length_le (by omega)]
      have h5 : b.l[a.l.length] = ⟨b.l[a.l.length].m, false⟩ := by
        cases hq : b.l[a.l.length] with
        | mk m s => rw [hq] at h3; dsimp only at h3; rw [h3]
      rw [← h5]
      rw [← h2] at h4
      exact h4.symm
    rw [hbl]
  · intro h
    obtain ⟨_, h1, h2, h3, h4⟩ := join_ok h
    have hbl : b.l = a.l ++ [⟨(b.l[b.l.length - 1]'(last_eq hb)).m, false⟩] := by
      have := congrArg CfN.l h4
      exact this
    unfold joinedN
    have hlen : b.l.length = a.l.length + 1 := by rw [hbl]; simp
    have hk : a.l.length < b.l.length := by omega
    rw [decide_eq_true hlen, getD_eq hk]
    have e1 : a.l = b.l.take a.l.length := by
      rw [hbl, List.take_left]
    have e2 : b.l[a.l.length].syn = false := by
      have h6 : ∀ (z : List StN) (hz : a.l.length < z.length), z = a.l ++ [⟨(b.l[b.l.length - 1]'(last_eq hb)).m, false⟩] → (z[a.l.length]).syn = false := by
        intro z hz e
        subst e
        rw [List.getElem_append_right (Nat.le_refl _)]
        simp
      exact h6 b.l hk hbl
    rw [decide_eq_true e1, e2]
    rfl
theorem foll_else {a b : CfN} (ha : RightP a) (hb : RightP b) (h1 : b.epoch ≠ a.epoch) (h2 : b.epoch ≠ a.epoch + 1) : followsN a b = false := by
  rw [follows_right ha hb, if_neg h1, if_neg h2]
/-- What is next isn't followed by what was. -/
theorem not_back {a d : CfN} (ha : RightP a) (hd : RightP d) (he : d.epoch = a.epoch + 1) : followsN d a = false := foll_else hd ha (by omega) (by omega)
theorem not_back_sync {a d : CfN} {m : MbN} (h : syncN a m = (d, 0)) : followsN d a = false := by
  have hd := (comes_sync h).right
  obtain ⟨ha, k, hk, h1, h2, rfl⟩ := sync_ok h
  rw [follows_right hd ha, if_pos rfl]
  cases hx : onceN (setN a.l k) a.l
  · rfl
  · exfalso
    have hk2 : k < (setN a.l k).length := by rw [setN_len]; exact hk
    unfold onceN at hx
    simp only [Bool.and_eq_true, decide_eq_true_eq] at hx
    have := okUp_fit hx.2.1 hk2
    rw [getD_eq hk2, getD_eq hk, setN_get hk hk2 hk, if_pos rfl] at this
    unfold okSt at this
    simp only [Bool.or_eq_true, decide_eq_true_eq] at this
    have hne : a.l[k] ≠ ⟨a.l[k].m, true⟩ := fun e => by
      have := congrArg StN.syn e
      rw [h2] at this
      cases this
    rcases this with h3 | h3 <;> exact hne h3
end Cfg
