/-
  Layer 11 (no program): what Without, Join and Synced make of a right chain is right, has a head that was synced in it, and may come behind it; it may not come behind that.
-/
import Derived.Test.YtnagidgffkffhaaGPlain
set_option linter.unusedVariables false
namespace Cfg
theorem good_pair {l : List StN} : Good l ↔ (∀ s ∈ l, mayN s.m = true) ∧ l.Pairwise (fun a b => a.m.node ≠ b.m.node) := by
  constructor
  · intro g
    refine ⟨g.may, List.pairwise_iff_getElem.2 fun i j hi hj hij e => ?_⟩
    have := g.once i j hi hj e
    omega
  · rintro ⟨h1, h2⟩
    refine ⟨h1, fun i j hi hj e => ?_⟩
    have hp := List.pairwise_iff_getElem.1 h2
    rcases Nat.lt_trichotomy i j with h | h | h
    · exact absurd e (hp i j hi hj h)
    · exact h
    · exact absurd e.symm (hp j i hj hi h)
theorem good_sub {l m : List StN} (g : Good m) (h : l.Sublist m) : Good l := by
  obtain ⟨h1, h2⟩ := good_pair.1 g
  exact good_pair.2 ⟨fun s hs => h1 s (h.subset hs), h2.sublist h⟩
theorem sub_filter (p : StN → Bool) (l : List StN) : subN (l.filter p) l = true := by
  induction l with
  | nil => rfl
  | cons y l ih =>
    by_cases hp : p y = true
    · rw [List.filter_cons_of_pos hp]
      show (if y = y then _ else _) = true
      rw [if_pos rfl]
      exact ih
    · rw [List.filter_cons_of_neg hp]
      cases hf : l.filter p with
      | nil => rfl
      | cons x t =>
        show (if x = y then _ else _) = true
        rw [hf] at ih
        split
        · next e =>
          have : ∀ (b A : List StN) (z : StN), subN (z :: b) A = true → subN b A = true := by
            intro b A
            induction A generalizing b with
            | nil => intro z h; cases h
            | cons w A ihA =>
              intro z h
              have h : (if z = w then subN b A else subN (z :: b) A) = true := h
              cases b with
              | nil => rfl
              | cons v b =>
                show (if v = w then _ else _) = true
                split at h
                · split
                  · exact ihA _ _ h
                  · exact h
                · have := ihA _ _ h
                  split
                  · exact ihA _ _ this
                  · exact this
          exact this _ _ _ ih
        · exact ih
theorem once_self (l : List StN) : onceN l l = true := by
  have h1 : ∀ k, okUp l l k = true := fun k => by
    induction k with
    | zero => rfl
    | succ k ih => show (okUp l l k && okSt _ _) = true; rw [ih]; simp [okSt]
  have h2 : ∀ k, moreN l l k = 0 := fun k => by
    induction k with
    | zero => rfl
    | succ k ih => show moreN l l k + (if _ then 0 else 1) = 0; rw [ih, if_pos rfl]
  unfold onceN
  rw [h1, h2]
  simp
/-- The head of what comes was synced. -/
def HeadOk (c d : CfN) : Prop := ∃ k, ∃ h : k < c.l.length, (d.l.getD 0 default).m = c.l[k].m ∧ c.l[k].syn = true
structure Comes (c d : CfN) : Prop where
  right : RightP d
  head : HeadOk c d
  foll : followsN c d = true
  ep : c.epoch ≤ d.epoch
theorem follows_right {c d : CfN} (hc : RightP c) (hd : RightP d) : followsN c d = if d.epoch = c.epoch then onceN c.l d.l else if d.epoch = c.epoch + 1 then subN d.l c.l || joinedN c.l d.l else false := by
  unfold followsN
  rw [right_iff.2 hc, right_iff.2 hd]
  rfl
theorem comes_self {c : CfN} (hc : RightP c) : Comes c c := by
  refine ⟨hc, ⟨0, hc.n1, ?_, ?_⟩, ?_, Int.le_refl _⟩
  · rw [getD_eq hc.n1]
  · have := hc.hd; rw [getD_eq hc.n1] at this; exact this
  · rw [follows_right hc hc, if_pos rfl]; exact once_self c.l
theorem later_ok {e : Int} {l : List StN} {d : CfN} (h : laterN e l = (d, 0)) : e < 1099511627776 ∧ d = ⟨e + 1, l⟩ := by
  unfold laterN at h
  split at h
  · injection h with _ h; cases h
  · injection h with h _; exact ⟨by omega, h.symm⟩
/-- What Without makes. -/
theorem without_ok {c d : CfN} {g : List MbN} (h : withoutN c g = (d, 0)) : RightP c ∧ (outN c.l g).length ≠ c.l.length ∧ 0 < (outN c.l g).length ∧ ((outN c.l g).getD 0 default).syn = true ∧ c.epoch < 1099511627776 ∧ d = ⟨c.epoch + 1, outN c.l g⟩ := by
  unfold withoutN at h
  split at h
  · injection h with _ h; cases h
  next h1 =>
  split at h
  · injection h with _ h; cases h
  next h2 =>
  split at h
  · injection h with _ h; cases h
  next h3 =>
  obtain ⟨h4, h5⟩ := later_ok h
  refine ⟨right_iff.1 (by simpa using h1), h2, ?_, ?_, h4, h5⟩
  · exact Nat.pos_of_ne_zero fun e => h3 (.inl e)
  · cases hx : ((outN c.l g).getD 0 default).syn
    · exact absurd (.inr hx) h3
    · rfl
theorem comes_without {c d : CfN} {g : List MbN} (h : withoutN c g = (d, 0)) : Comes c d := by
  obtain ⟨hc, h1, h2, h3, h4, rfl⟩ := without_ok h
  have hsub : (outN c.l g).Sublist c.l := List.filter_sublist
  have hd : RightP ⟨c.epoch + 1, outN c.l g⟩ := ⟨by have := hc.e1; show 1 ≤ c.epoch + 1; omega, by show c.epoch + 1 ≤ _; omega, h2, Nat.le_trans (outN_le _ _) hc.n2, h3, good_sub hc.good hsub⟩
  refine ⟨hd, ?_, ?_, by show c.epoch ≤ c.epoch + 1; omega⟩
  · have hm : (outN c.l g)[0] ∈ c.l := hsub.subset (List.getElem_mem h2)
    obtain ⟨k, hk, e⟩ := List.getElem_of_mem hm
    refine ⟨k, hk, ?_, ?_⟩
    · show ((outN c.l g).getD 0 default).m = _
      rw [getD_eq h2, e]
    · rw [e]; rw [getD_eq h2] at h3; exact h3
  · rw [follows_right hc hd, if_neg (by show ¬ c.epoch + 1 = c.epoch; omega), if_pos rfl]
    show (subN (outN c.l g) c.l || _) = true
    rw [show subN (outN c.l g) c.l = true from sub_filter _ _]
    rfl
theorem join_ok {c d : CfN} {m : MbN} (h : joinN c m = (d, 0)) : RightP c ∧ mayN m = true ∧ sitsN c.l m.node = false ∧ c.epoch < 1099511627776 ∧ d = ⟨c.epoch + 1, c.l ++ [⟨m, false⟩]⟩ := by
  unfold joinN at h
  split at h
  · injection h with _ h; cases h
  next h1 =>
  split at h
  · injection h with _ h; cases h
  next h2 =>
  split at h
  · injection h with _ h; cases h
  next h3 =>
  obtain ⟨h4, h5⟩ := later_ok h
  exact ⟨right_iff.1 (by simpa using h1), by simpa using h2, by simpa using h3, h4, h5⟩
theorem nodup_lt : ∀ (n : Nat) (l : List Nat), l.Nodup → (∀ x ∈ l, x < n) → l.length ≤ n
  | 0, l, _, h => by
    cases l with
    | nil => exact Nat.le_refl 0
    | cons x l => have := h x (by simp); omega
  | n + 1, l, hn, h => by
    by_cases hm : n ∈ l
    · have h1 := nodup_lt n (l.erase n) (hn.erase n) fun x hx => by
        have h2 := (hn.mem_erase_iff).1 hx
        have := h x h2.2
        have h3 : x ≠ n := h2.1
        omega
      rw [List.length_erase_of_mem hm] at h1
      omega
    · have h1 := nodup_lt n l hn fun x hx => by
        have := h x hx
        have h3 : x ≠ n := fun e => hm (e ▸ hx)
        omega
      omega
theorem good_len {l : List StN} (g : Good l) : l.length ≤ 8 := by
  have h := (good_pair.1 g).2
  have hn : (l.map fun s => s.m.node.toNat).Nodup := by
    rw [List.nodup_iff_pairwise_ne]
    rw [List.pairwise_map]
    refine List.Pairwise.imp_of_mem (fun {a b} ha hb hab => ?_) h
    intro e
    have h1 := g.may a ha
    have h2 := g.may b hb
    unfold mayN at h1 h2
    simp only [Bool.and_eq_true, decide_eq_true_eq] at h1 h2
    exact hab (by omega)
  have := nodup_lt 8 _ hn fun x hx => by
    obtain ⟨s, hs, rfl⟩ := List.mem_map.1 hx
    have h1 := g.may s hs
    unfold mayN at h1
    simp only [Bool.and_eq_true, decide_eq_true_eq] at h1
    omega
  simpa using this
theorem good_snoc {l : List StN} {m : MbN} (g : Good l) (h1 : mayN m = true) (h2 : sitsN l m.node = false) : Good (l ++ [⟨m, false⟩]) := by
  obtain ⟨g1, g2⟩ := good_pair.1 g
  refine good_pair.2 ⟨fun s hs => ?_, ?_⟩
  · rcases List.mem_append.1 hs with h | h
    · exact g1 s h
    · obtain rfl : s = ⟨m, false⟩ := by simpa using h
      exact h1
  · rw [List.pairwise_append]
    refine ⟨g2, by simp, fun a ha b hb e => ?_⟩
    obtain rfl : b = ⟨m, false⟩ := by simpa using hb
    have : sitsN l m.node = true := sitsN_iff.2 ⟨a, ha, e⟩
    rw [h2] at this; cases this
theorem comes_join {c d : CfN} {m : MbN} (h : joinN c m = (d, 0)) : Comes c d := by
  obtain ⟨hc, h1, h2, h3, rfl⟩ := join_ok h
  have hg := good_snoc hc.good h1 h2
  have h0 : 0 < c.l.length := hc.n1
  have hhd : (c.l ++ [(⟨m, false⟩ : StN)]).getD 0 default = c.l[0] := by
    rw [getD_eq (by simp), List.getElem_append_left h0]
  have hsy : c.l[0].syn = true := by have := hc.hd; rw [getD_eq h0] at this; exact this
  have hd : RightP ⟨c.epoch + 1, c.l ++ [⟨m, false⟩]⟩ := ⟨by have := hc.e1; show 1 ≤ c.epoch + 1; omega, by show c.epoch + 1 ≤ _; omega, by simp, good_len hg, by show ((c.l ++ [(⟨m, false⟩ : StN)]).getD 0 default).syn = true; rw [hhd]; exact hsy, hg⟩
  refine ⟨hd, ⟨0, h0, by show ((c.l ++ [(⟨m, false⟩ : StN)]).getD 0 default).m = _; rw [hhd], hsy⟩, ?_, by show c.epoch ≤ c.epoch + 1; omega⟩
  rw [follows_right hc hd, if_neg (by show ¬ c.epoch + 1 = c.epoch; omega), if_pos rfl]
  show (_ || joinedN c.l (c.l ++ [⟨m, false⟩])) = true
  have : joinedN c.l (c.l ++ [⟨m, false⟩]) = true := by
    unfold joinedN
    rw [decide_eq_true (by simp), List.take_left, decide_eq_true rfl, getD_eq (by simp), List.getElem_append_right (Nat.le_refl _)]
    simp
  rw [this, Bool.or_true]
theorem sync_ok {c d : CfN} {m : MbN} (h : syncN c m = (d, 0)) : RightP c ∧ ∃ k, ∃ hk : k < c.l.length, placeN c.l m = k ∧ c.l[k].syn = false ∧ d = ⟨c.epoch, setN c.l k⟩ := by
  unfold syncN at h
  split at h
  · injection h with _ h; cases h
  next h1 =>
  split at h
  · injection h with _ h; cases h
  next h2 =>
  split at h
  · injection h with _ h; cases h
  next h3 =>
  injection h with h _
  have hr := placeN_range c.l m
  have hk : (placeN c.l m).toNat < c.l.length := by omega
  refine ⟨right_iff.1 (by simpa using h1), _, hk, by omega, ?_, h.symm⟩
  rw [getD_eq hk] at h3
  simpa using h3
theorem setN_get {l : List StN} {k j : Nat} (hk : k < l.length) (hj : j < (setN l k).length) (hj2 : j < l.length) : (setN l k)[j] = if k = j then ⟨l[j].m, true⟩ else l[j] := by
  simp only [setN, List.getElem_set]
  split
  · next h1 => subst h1; rw [getD_eq hk]
  · rfl
theorem setN_len (l : List StN) (k : Nat) : (setN l k).length = l.length := by simp [setN]
theorem setN_m {l : List StN} {k j : Nat} (hk : k < l.length) (hj : j < (setN l k).length) : (setN l k)[j].m = (l[j]'(by rw [setN_len] at hj; exact hj)).m := by
  rw [setN_get hk hj (by rw [setN_len] at hj; exact hj)]
  split <;> rfl
theorem good_set {l : List StN} {k : Nat} (g : Good l) (hk : k < l.length) : Good (setN l k) := by
  refine ⟨fun s hs => ?_, fun i j hi hj e => ?_⟩
  · obtain ⟨j, hj, rfl⟩ := List.getElem_of_mem hs
    rw [setN_m hk hj]
    exact g.may _ (List.getElem_mem _)
  · rw [setN_m hk hi, setN_m hk hj] at e
    exact g.once i j _ _ e
theorem once_set {l : List StN} {k : Nat} (hk : k < l.length) (h : l[k].syn = false) : onceN l (setN l k) = true := by
  have e : ∀ j, j < l.length → (setN l k).getD j default = if k = j then ⟨(l.getD j default).m, true⟩ else l.getD j default := fun j hj => by
    rw [getD_eq (by rw [setN_len]; exact hj), setN_get hk (by rw [setN_len]; exact hj) hj, getD_eq hj]
  have h1 : ∀ j, j ≤ l.length → okUp l (setN l k) j = true := fun j hj => by
    induction j with
    | zero => rfl
    | succ j ih =>
      show (okUp l (setN l k) j && okSt _ _) = true
      rw [ih (by omega), e j (by omega)]
      unfold okSt
      split <;> simp
  have h2 : ∀ j, j ≤ l.length → moreN l (setN l k) j ≤ if k < j then 1 else 0 := fun j hj => by
    induction j with
    | zero => exact Nat.zero_le _
    | succ j ih =>
      show moreN l (setN l k) j + (if _ then 0 else 1) ≤ _
      have := ih (by omega)
      rw [e j (by omega)]
      by_cases hkj : k = j
      · subst hkj
        have h0 : moreN l (setN l k) k ≤ 0 := Nat.le_trans this (by rw [if_neg (Nat.lt_irrefl k)]; exact Nat.le_refl 0)
        have h3 : ∀ (p : Prop) [Decidable p], (if p then 0 else 1 : Nat) ≤ 1 := fun p _ => by split <;> omega
        rw [if_pos (show k < k + 1 by omega)]
        exact Nat.le_trans (Nat.add_le_add h0 (h3 _)) (by omega)
      · rw [if_neg hkj, if_pos rfl]
        split at this
        · rw [if_pos (by omega)]; omega
        · split <;> omega
  unfold onceN
  rw [h1 _ (Nat.le_refl _), decide_eq_true (setN_len l k).symm, decide_eq_true (show moreN l (setN l k) l.length ≤ 1 by have := h2 l.length (Nat.le_refl _); split at this <;> omega)]
  rfl
theorem comes_sync {c d : CfN} {m : MbN} (h : syncN c m = (d, 0)) : Comes c d := by
  obtain ⟨hc, k, hk, h1, h2, rfl⟩ := sync_ok h
  have hg := good_set hc.good hk
  have h0 : 0 < c.l.length := hc.n1
  have hsy : c.l[0].syn = true := by have := hc.hd; rw [getD_eq h0] at this; exact this
  have h00 : 0 < (setN c.l k).length := by rw [setN_len]; exact h0
  have hd : RightP ⟨c.epoch, setN c.l k⟩ := ⟨hc.e1, hc.e2, by rw [setN_len]; exact hc.n1, by rw [setN_len]; exact hc.n2, by
    show ((setN c.l k).getD 0 default).syn = true
    rw [getD_eq h00, setN_get hk h00 h0]
    split
    · rfl
    · exact hsy, hg⟩
  refine ⟨hd, ⟨0, h0, by show ((setN c.l k).getD 0 default).m = _; rw [getD_eq h00, setN_m hk h00], hsy⟩, ?_, Int.le_refl _⟩
  rw [follows_right hc hd, if_pos rfl]
  exact once_set hk h2
end Cfg
