/-
  Layer 11 (no program): where those sit that are left; how many they are; who joins is the last one.
-/
import Derived.Test.YtnagidgffkffhaaGPlain2
set_option linter.unusedVariables false
namespace Cfg
theorem places_rise {l : List StN} (g : Good l) : l.Pairwise fun a b => placeN l a.m < placeN l b.m := by
  refine List.pairwise_iff_getElem.2 fun i j hi hj hij => ?_
  rw [place_self g hi, place_self g hj]
  omega
theorem mem_out {l : List StN} {gone : List MbN} {s : StN} : s ∈ outN l gone ↔ s ∈ l ∧ goneN gone s.m = false := by
  unfold outN
  rw [List.mem_filter]
  simp
theorem gone_iff {gone : List MbN} {m : MbN} : goneN gone m = false ↔ ∀ g ∈ gone, g ≠ m := by
  unfold goneN
  rw [List.any_eq_false]
  constructor
  · intro h g hg e; exact h g hg (decide_eq_true e.symm)
  · intro h g hg e; exact h g hg (of_decide_eq_true e).symm
theorem place_in {l : List StN} {gone : List MbN} (g : Good l) {s : StN} (hs : s ∈ l) : decide (0 ≤ placeN (outN l gone) s.m) = !goneN gone s.m := by
  have h1 : decide (0 ≤ placeN (outN l gone) s.m) = (outN l gone).any fun x => decide (x.m = s.m) := ixN_any _ _
  rw [h1]
  cases hg : goneN gone s.m
  · show _ = true
    rw [List.any_eq_true]
    exact ⟨s, mem_out.2 ⟨hs, hg⟩, by simp⟩
  · show _ = false
    rw [List.any_eq_false]
    intro x hx e
    have e := of_decide_eq_true e
    have := (mem_out.1 hx).2
    rw [e, hg] at this
    cases this
structure Left (c : CfN) (gone : List MbN) (d : CfN) : Prop where
  right : RightP c
  eq : d = ⟨c.epoch + 1, outN c.l gone⟩
  e8 : c.epoch < 1099511627776
  /-- The members' places in the chain ahead rise. -/
  rise : ∀ i j (hi : i < d.l.length) (hj : j < d.l.length), i < j → placeN c.l d.l[i].m < placeN c.l d.l[j].m
  at0 : ∀ i (hi : i < d.l.length), 0 ≤ placeN c.l d.l[i].m
  none : ∀ i (hi : i < d.l.length), ∀ g ∈ gone, g ≠ d.l[i].m
  le : d.l.length ≤ 8
theorem left_ok {c d : CfN} {gone : List MbN} (h : withoutN c gone = (d, 0)) : Left c gone d := by
  obtain ⟨hc, h1, h2, h3, h4, rfl⟩ := without_ok h
  have hsub : (outN c.l gone).Sublist c.l := List.filter_sublist
  refine ⟨hc, rfl, h4, ?_, ?_, ?_, Nat.le_trans (outN_le _ _) hc.n2⟩
  · intro i j hi hj hij
    exact List.pairwise_iff_getElem.1 ((places_rise hc.good).sublist hsub) i j hi hj hij
  · intro i hi
    have hm : (outN c.l gone)[i] ∈ c.l := hsub.subset (List.getElem_mem hi)
    obtain ⟨k, hk, e⟩ := List.getElem_of_mem hm
    show 0 ≤ placeN c.l (outN c.l gone)[i].m
    rw [← e, place_self hc.good hk]
    omega
  · intro i hi
    exact gone_iff.1 (mem_out.1 (List.getElem_mem hi)).2
theorem join_tail {c d : CfN} {m : MbN} (h : joinN c m = (d, 0)) : d.l.length = c.l.length + 1 ∧ atN d.l ((d.l.length : Int) - 1) = m ∧ isN d.l ((d.l.length : Int) - 1) = true ∧ placeN d.l m = (c.l.length : Int) ∧ c.l.length ≤ 8 := by
  have hd := (comes_join h).right
  obtain ⟨hc, h1, h2, h3, rfl⟩ := join_ok h
  have hlen : (c.l ++ [(⟨m, false⟩ : StN)]).length = c.l.length + 1 := by simp
  have hk : c.l.length < (c.l ++ [(⟨m, false⟩ : StN)]).length := by omega
  have hm : (c.l ++ [(⟨m, false⟩ : StN)])[c.l.length].m = m := by rw [List.getElem_append_right (Nat.le_refl _)]; simp
  have e : ((c.l ++ [(⟨m, false⟩ : StN)]).length : Int) - 1 = ((c.l.length : Nat) : Int) := by omega
  refine ⟨hlen, ?_, ?_, ?_, hc.n2⟩
  · show atN (c.l ++ [⟨m, false⟩]) (((c.l ++ [(⟨m, false⟩ : StN)]).length : Int) - 1) = m
    rw [e, atN_yes hk, hm]
  · show isN (c.l ++ [⟨m, false⟩]) (((c.l ++ [(⟨m, false⟩ : StN)]).length : Int) - 1) = true
    rw [e]; exact isN_yes ⟨by omega, by omega⟩
  · have := place_self hd.good hk
    rw [hm] at this
    exact this
theorem join_le (c : CfN) (m : MbN) : (joinN c m).1.l.length ≤ c.l.length + 1 := by
  unfold joinN laterN zeroN
  split
  · simp
  split
  · simp
  split
  · simp
  split
  · simp
  · simp
end Cfg
