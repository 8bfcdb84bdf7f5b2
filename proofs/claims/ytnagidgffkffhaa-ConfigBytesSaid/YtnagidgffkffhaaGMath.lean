/-
  Layer 11 (no program): chains as plain lists: which are right, who sits where, what a chain becomes, what may come behind it.
-/
import Derived.Lib.Hide
set_option linter.unusedVariables false
namespace Cfg

structure MbN where
  node : Int
  life : Int
  deriving DecidableEq
structure StN where
  m : MbN
  syn : Bool
  deriving DecidableEq
structure CfN where
  epoch : Int
  l : List StN
  deriving DecidableEq
instance mbInh : Inhabited MbN := ⟨⟨0, 0⟩⟩
instance stInh : Inhabited StN := ⟨⟨⟨0, 0⟩, false⟩⟩

def top : Int := 1099511627776
def mayN (m : MbN) : Bool := decide (0 ≤ m.node) && (decide (m.node < 8) && (decide (1 ≤ m.life) && decide (m.life ≤ 1099511627776)))
def sitsN (l : List StN) (n : Int) : Bool := l.any fun s => decide (s.m.node = n)
/-- The seat i may stand behind those ahead. -/
def fitN (l : List StN) (i : Nat) : Bool := mayN (l.getD i default).m && !sitsN (l.take i) (l.getD i default).m.node
def upTo (l : List StN) : Nat → Bool
  | 0 => true
  | i + 1 => upTo l i && fitN l i
def rightN (c : CfN) : Bool := decide (1 ≤ c.epoch) && (decide (c.epoch ≤ 1099511627776) && (decide (1 ≤ c.l.length) && (decide (c.l.length ≤ 8) && ((c.l.getD 0 default).syn && upTo c.l c.l.length))))

theorem upTo_le {l : List StN} {i k : Nat} (h : upTo l k = true) (hi : i ≤ k) : upTo l i = true := by
  induction k with
  | zero => obtain rfl : i = 0 := by omega
            rfl
  | succ k ih =>
    rcases Nat.lt_or_ge k i with e | e
    · obtain rfl : i = k + 1 := by omega
      exact h
    · exact ih (by have : (upTo l k && fitN l k) = true := h; exact (Bool.and_eq_true_iff.1 this).1) e
theorem upTo_fit {l : List StN} {i k : Nat} (h : upTo l k = true) (hi : i < k) : fitN l i = true := by
  have : (upTo l i && fitN l i) = true := upTo_le h hi
  exact (Bool.and_eq_true_iff.1 this).2
theorem upTo_no {l : List StN} {i k : Nat} (h : fitN l i = false) (hi : i < k) : upTo l k = false := by
  cases hx : upTo l k
  · rfl
  · rw [upTo_fit hx hi] at h; cases h
theorem upTo_iff {l : List StN} {k : Nat} : upTo l k = true ↔ ∀ i, i < k → fitN l i = true := by
  constructor
  · exact fun h i hi => upTo_fit h hi
  · intro h
    induction k with
    | zero => rfl
    | succ k ih =>
      show (upTo l k && fitN l k) = true
      rw [ih fun i hi => h i (by omega), h k (by omega)]; rfl

/-- A chain that is right. -/
structure Good (l : List StN) : Prop where
  may : ∀ s ∈ l, mayN s.m = true
  once : ∀ i j (hi : i < l.length) (hj : j < l.length), l[i].m.node = l[j].m.node → i = j
theorem getD_eq {l : List StN} {i : Nat} (h : i < l.length) : l.getD i default = l[i] := by simp [List.getD_eq_getElem?_getD, h]
theorem sitsN_iff {l : List StN} {n : Int} : sitsN l n = true ↔ ∃ s ∈ l, s.m.node = n := by simp [sitsN]
theorem sitsN_take {l : List StN} {i : Nat} {n : Int} : sitsN (l.take i) n = true ↔ ∃ k, ∃ h : k < l.length, k < i ∧ l[k].m.node = n := by
  rw [sitsN_iff]
  constructor
  · rintro ⟨s, hs, e⟩
    obtain ⟨k, hk, rfl⟩ := List.getElem_of_mem hs
    rw [List.length_take] at hk
    refine ⟨k, by omega, by omega, ?_⟩
    rw [List.getElem_take] at e
    exact e
  · rintro ⟨k, h, hk, e⟩
    exact ⟨l[k], List.mem_take_iff_getElem.2 ⟨k, by omega, rfl⟩, e⟩
theorem good_iff {l : List StN} : upTo l l.length = true ↔ Good l := by
  rw [upTo_iff]
  constructor
  · intro h
    have key : ∀ i j (hi : i < l.length) (hj : j < l.length), i < j → l[i].m.node ≠ l[j].m.node := by
      intro i j hi hj hlt e
      have h1 := h j hj
      unfold fitN at h1
      rw [getD_eq hj] at h1
      simp only [Bool.and_eq_true, Bool.not_eq_true'] at h1
      have h2 := sitsN_take.2 ⟨i, hi, hlt, e⟩
      rw [h1.2] at h2; cases h2
    refine ⟨fun s hs => ?_, fun i j hi hj e => ?_⟩
    · obtain ⟨k, hk, rfl⟩ := List.getElem_of_mem hs
      have h1 := h k hk
      unfold fitN at h1
      rw [getD_eq hk] at h1
      exact (Bool.and_eq_true_iff.1 h1).1
    · rcases Nat.lt_trichotomy i j with h1 | h1 | h1
      · exact absurd e (key i j hi hj h1)
      · exact h1
      · exact absurd e.symm (key j i hj hi h1)
  · intro g i hi
    unfold fitN
    rw [getD_eq hi, g.may _ (List.getElem_mem hi)]
    cases hx : sitsN (l.take i) l[i].m.node
    · rfl
    · obtain ⟨k, hk, hki, e⟩ := sitsN_take.1 hx
      have := g.once k i hk hi e
      omega
structure RightP (c : CfN) : Prop where
  e1 : 1 ≤ c.epoch
  e2 : c.epoch ≤ 1099511627776
  n1 : 1 ≤ c.l.length
  n2 : c.l.length ≤ 8
  hd : (c.l.getD 0 default).syn = true
  good : Good c.l
theorem right_iff {c : CfN} : rightN c = true ↔ RightP c := by
  unfold rightN
  simp only [Bool.and_eq_true, decide_eq_true_eq]
  constructor
  · rintro ⟨h1, h2, h3, h4, h5, h6⟩
    exact ⟨h1, h2, h3, h4, h5, good_iff.1 h6⟩
  · rintro ⟨h1, h2, h3, h4, h5, h6⟩
    exact ⟨h1, h2, h3, h4, h5, good_iff.2 h6⟩

/-! ### Who sits where -/
def ixN {α : Type} (p : α → Bool) (l : List α) : Int := if l.findIdx p < l.length then (l.findIdx p : Int) else -1
def placeN (l : List StN) (m : MbN) : Int := ixN (fun s => decide (s.m = m)) l
theorem ixN_at {α : Type} {p : α → Bool} {l : List α} {i : Nat} (hi : i < l.length) (h : p l[i] = true) (hb : ∀ k (hk : k < l.length), k < i → p l[k] = false) : ixN p l = i := by
  have e : l.findIdx p = i := (List.findIdx_eq hi).2 ⟨h, fun j hj => hb j (by omega) hj⟩
  unfold ixN
  rw [e, if_pos hi]
theorem ixN_no {α : Type} {p : α → Bool} {l : List α} (hb : ∀ k (hk : k < l.length), p l[k] = false) : ixN p l = -1 := by
  unfold ixN
  rw [if_neg]
  intro h
  have := List.findIdx_getElem (w := h)
  rw [hb _ h] at this
  cases this
theorem ixN_any {α : Type} (p : α → Bool) (l : List α) : decide (0 ≤ ixN p l) = l.any p := by
  unfold ixN
  split
  · next h =>
    rw [decide_eq_true (by omega)]
    symm
    rw [List.any_eq_true]
    exact ⟨l[l.findIdx p], List.getElem_mem h, List.findIdx_getElem (w := h)⟩
  · next h =>
    rw [decide_eq_false (by omega)]
    symm
    rw [List.any_eq_false]
    intro x hx
    have := List.findIdx_eq_length.1 (by have := @List.findIdx_le_length _ p l; omega : l.findIdx p = l.length) x hx
    rw [this]
    decide
theorem ixN_range {α : Type} (p : α → Bool) (l : List α) : (ixN p l = -1 ∧ ∀ k (hk : k < l.length), p l[k] = false) ∨ ∃ (k : Nat) (h : k < l.length), ixN p l = k ∧ p l[k] = true ∧ ∀ j (hj : j < l.length), j < k → p l[j] = false := by
  unfold ixN
  split
  · next h => exact .inr ⟨_, h, rfl, List.findIdx_getElem (w := h), fun j hj hlt => by simpa using List.not_of_lt_findIdx hlt⟩
  · next h =>
    refine .inl ⟨rfl, fun k hk => ?_⟩
    have := List.findIdx_eq_length.1 (by have := @List.findIdx_le_length _ p l; omega : l.findIdx p = l.length) l[k] (List.getElem_mem hk)
    simpa using this
/-- The member of a place, if there is one. -/
def atN (l : List StN) (i : Int) : MbN := if 0 ≤ i ∧ i < l.length then (l.getD i.toNat default).m else default
def isN (l : List StN) (i : Int) : Bool := decide (0 ≤ i) && decide (i < l.length)
theorem atN_yes {l : List StN} {k : Nat} (h : k < l.length) : atN l k = l[k].m := by
  unfold atN
  rw [if_pos ⟨by omega, by omega⟩, Int.toNat_natCast, getD_eq h]
theorem atN_no {l : List StN} {i : Int} (h : ¬ (0 ≤ i ∧ i < l.length)) : atN l i = ⟨0, 0⟩ := by unfold atN; rw [if_neg h]; rfl
theorem isN_yes {l : List StN} {i : Int} (h : 0 ≤ i ∧ i < l.length) : isN l i = true := by simp [isN, h]
theorem isN_no {l : List StN} {i : Int} (h : ¬ (0 ≤ i ∧ i < l.length)) : isN l i = false := by
  unfold isN
  by_cases h0 : 0 ≤ i
  · have : ¬ i < l.length := fun h1 => h ⟨h0, h1⟩
    simp [this]
  · simp [h0]
def besideN (l : List StN) (m : MbN) (d : Int) : MbN := if placeN l m < 0 then default else atN l (placeN l m + d)
def besideB (l : List StN) (m : MbN) (d : Int) : Bool := !decide (placeN l m < 0) && isN l (placeN l m + d)
theorem placeN_range (l : List StN) (m : MbN) : -1 ≤ placeN l m ∧ placeN l m < l.length := by
  rcases ixN_range (fun s => decide (s.m = m)) l with ⟨h, _⟩ | ⟨k, hk, h, _⟩
  · unfold placeN; rw [h]; omega
  · unfold placeN; rw [h]; omega
/-- Ahead: whoever isn't there has none, either. -/
theorem ahead_eq (l : List StN) (m : MbN) : atN l (placeN l m - 1) = besideN l m (-1) ∧ isN l (placeN l m - 1) = besideB l m (-1) := by
  have := placeN_range l m
  unfold besideN besideB
  by_cases h : placeN l m < 0
  · rw [if_pos h, atN_no (by omega), isN_no (by omega)]
    simp [h]; rfl
  · rw [if_neg h]
    simp [h, Int.sub_eq_add_neg]

/-! ### What a chain becomes -/
def zeroN : CfN := ⟨0, []⟩
def goneN (gone : List MbN) (m : MbN) : Bool := gone.any fun g => decide (m = g)
def outN (l : List StN) (gone : List MbN) : List StN := l.filter fun s => !goneN gone s.m
theorem outN_take {l : List StN} {gone : List MbN} {k : Nat} (hk : k < l.length) : outN (l.take (k + 1)) gone = outN (l.take k) gone ++ if goneN gone l[k].m = true then [] else [l[k]] := by
  unfold outN
  rw [List.take_succ_eq_append_getElem hk, List.filter_append]
  congr 1
  cases h : goneN gone l[k].m <;> simp [h]
theorem outN_le (l : List StN) (gone : List MbN) : (outN l gone).length ≤ l.length := List.length_filter_le _ _
def laterN (e : Int) (l : List StN) : CfN × Int := if 1099511627776 ≤ e then (zeroN, 5) else (⟨e + 1, l⟩, 0)
def withoutN (c : CfN) (gone : List MbN) : CfN × Int :=
  if rightN c = false then (zeroN, 3)
  else if (outN c.l gone).length = c.l.length then (zeroN, 10)
  else if (outN c.l gone).length = 0 ∨ ((outN c.l gone).getD 0 default).syn = false then (zeroN, 13)
  else laterN c.epoch (outN c.l gone)
def joinN (c : CfN) (m : MbN) : CfN × Int :=
  if rightN c = false then (zeroN, 3) else if mayN m = false then (zeroN, 1) else if sitsN c.l m.node = true then (zeroN, 11) else laterN c.epoch (c.l ++ [⟨m, false⟩])
def setN (l : List StN) (i : Nat) : List StN := l.set i ⟨(l.getD i default).m, true⟩
def syncN (c : CfN) (m : MbN) : CfN × Int :=
  if rightN c = false then (zeroN, 3) else if placeN c.l m < 0 then (zeroN, 10) else if (c.l.getD (placeN c.l m).toNat default).syn = true then (zeroN, 11) else (⟨c.epoch, setN c.l (placeN c.l m).toNat⟩, 0)
def firstN (n : Nat) : CfN := ⟨1, (List.range n).map fun i : Nat => ⟨⟨(i : Int), 1⟩, true⟩⟩
end Cfg
