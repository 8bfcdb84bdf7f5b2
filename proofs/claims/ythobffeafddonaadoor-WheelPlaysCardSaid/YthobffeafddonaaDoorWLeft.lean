/-
  Layer 6: a map of ids and times from which is taken what came due.
-/
import Derived.Test.YthobffeafddonaaDoorWTwo
set_option linter.unusedVariables false
namespace Go.Proofs.YthobffeafddonaaDoor
open Go.RowKit Whl Go.ChangeMaps

theorem map_eraseIdx_own {α β : Type} (f : α → β) (l : List α) (j : Nat) : (l.eraseIdx j).map f = (l.map f).eraseIdx j := by
  rw [List.eraseIdx_eq_take_drop_succ, List.eraseIdx_eq_take_drop_succ, List.map_append, List.map_take, List.map_drop]

theorem int_look_some {w : World} {mb : Nat} {t : List (Nat × Nat)} (hm : IntMap w mb t) (hl : ∀ p ∈ t, p.1 ≤ 1048576) (hk : t.Pairwise fun p q => p.1 ≠ q.1) {id v : Nat} (hp : (id, v) ∈ t) :
    (Instr.lookup 50 (.map (some mb)) (.int .i64 (id : Int)) false).run Tryd.prog w = .ok (.int .i64 (v : Int)) w := by
  obtain ⟨es, clock, hb, he⟩ := hm
  obtain ⟨k1, k2⟩ := intmap_keys hl he
  have hid := hl _ hp
  have hkey := key_int (a := (id : Int)) (by omega) (by simp only at hid; omega)
  rcases keyed3.find w hkey es.toList k1 with ⟨f1, f2⟩ | ⟨j, e0, f1, f2, f3⟩
  · have : (Value.int .i64 (id : Int), Value.int .i64 (v : Int)) ∈ es.toList.map (fun e => (e.key, e.val)) := by
      rw [he]
      exact List.mem_map.2 ⟨_, hp, rfl⟩
    obtain ⟨x, hx, ex⟩ := List.mem_map.1 this
    injection ex with a _
    exact absurd a (f2 x hx)
  · obtain ⟨p, hpt, e1, e2⟩ := k2 e0 (List.mem_of_getElem? f2)
    rw [f3] at e1
    injection e1 with _ e1
    have hpv : p.2 = v := by
      refine Classical.byContradiction fun hne => ?_
      have h1 : p.1 = id := by omega
      have h2 : p ≠ (id, v) := fun e => hne (by rw [e])
      obtain ⟨i, hi, rfl⟩ := List.mem_iff_getElem.1 hpt
      obtain ⟨i2, hi2, e3⟩ := List.mem_iff_getElem.1 hp
      rcases Nat.lt_trichotomy i i2 with g | g | g
      · exact List.pairwise_iff_getElem.1 hk i i2 hi hi2 g (by rw [e3]; exact h1)
      · subst g; exact h2 e3
      · exact List.pairwise_iff_getElem.1 hk i2 i hi2 hi g (by rw [e3]; exact h1.symm)
    simp [Instr.lookup, run_underlying map50, MapKept.run_getObj_map hb, keyed3.check w _ hkey, f1, Result.andThen, e2, hpv]

theorem int_delete {w : World} {mb : Nat} {t : List (Nat × Nat)} (hm : IntMap w mb t) (hl : ∀ p ∈ t, p.1 ≤ 1048576) (hk : t.Pairwise fun p q => p.1 ≠ q.1) {id v : Nat} (hp : (id, v) ∈ t) :
    ∃ w', (∀ ty, (Builtin.delete_ #[50, 3] ty #[.map (some mb), .int .i64 (id : Int)]).run Tryd.prog w = .ok (.tuple #[]) w') ∧ IntMap w' mb (t.erase (id, v)) ∧ w.grownBy w' (some mb) ∧ w'.heap.size = w.heap.size := by
  obtain ⟨es, clock, hb, he⟩ := hm
  obtain ⟨k1, k2⟩ := intmap_keys hl he
  have hid := hl _ hp
  have hkey := key_int (a := (id : Int)) (by omega) (by simp only at hid; omega)
  rcases keyed3.find w hkey es.toList k1 with ⟨f1, f2⟩ | ⟨j, e0, f1, f2, f3⟩
  · have : (Value.int .i64 (id : Int), Value.int .i64 (v : Int)) ∈ es.toList.map (fun e => (e.key, e.val)) := by
      rw [he]
      exact List.mem_map.2 ⟨_, hp, rfl⟩
    obtain ⟨x, hx, ex⟩ := List.mem_map.1 this
    injection ex with a _
    exact absurd a (f2 x hx)
  · have hj : j < es.size := by
      have := (List.getElem?_eq_some_iff.1 f2).1
      simpa using this
    have hlen : es.toList.length = t.length := by
      have := congrArg List.length he
      simpa using this
    have hjt : j < t.length := by rw [← hlen]; simpa using hj
    have hat : t[j] = (id, v) := by
      have h1 := congrArg (·[j]?) he
      simp only [List.getElem?_map, f2, List.getElem?_eq_getElem hjt, Option.map_some] at h1
      injection h1 with h1
      injection h1 with h2 h3
      rw [f3] at h2
      injection h2 with _ h2
      have hid2 : t[j].1 = id := by omega
      obtain ⟨i2, hi2, e3⟩ := List.mem_iff_getElem.1 hp
      rcases Nat.lt_trichotomy j i2 with g | g | g
      · exact absurd (by rw [e3]; exact hid2) (List.pairwise_iff_getElem.1 hk j i2 hjt hi2 g)
      · subst g; exact e3
      · exact absurd (by rw [e3]; exact hid2.symm) (List.pairwise_iff_getElem.1 hk i2 j hi2 hjt g)
    have hnd : t.Nodup := hk.imp (fun {p q} h e => h (by rw [e]))
    have her : t.erase (id, v) = t.eraseIdx j := by
      rw [List.erase_eq_eraseIdx_of_idxOf rfl]
      congr 1
      have := hnd.idxOf_getElem j hjt
      rw [hat] at this
      exact this
    rw [her]
    have hne : es.isEmpty = false := by
      rw [Array.isEmpty_eq_false_iff]
      intro e
      rw [e] at hj
      simp at hj
    refine ⟨setBlock w mb (.map (es.eraseIdxIfInBounds j) clock), ?_, ⟨_, _, heap_setBlock_same hb _, ?_⟩, ⟨rfl, rfl, rfl, by simp [setBlock], fun k _ hk => heap_setBlock_other hb _ (fun e => hk (by rw [e]))⟩, by simp [setBlock]⟩
    · intro ty
      simp [Builtin.delete_, run_underlying map50, MapKept.run_getObj_map hb, hne, keyed3.check w false hkey, f1, MapKept.run_setObj_map _ hb, Result.andThen, setBlock]
    · rw [Array.eraseIdxIfInBounds, dif_pos hj, Array.toList_eraseIdx, map_eraseIdx_own, he, map_eraseIdx_own]

/-- One that came due goes from the map. -/
theorem TOk.gone {t : List (Nat × Nat)} {p : ItemN} {l : List ItemN} (h : TOk t (p :: l)) : (p.2, p.1) ∈ t ∧ TOk (t.erase (p.2, p.1)) l := by
  have hm : (p.2, p.1) ∈ t := by
    have : p ∈ t.map fun p => (p.2, p.1) := h.perm.mem_iff.2 (by simp)
    obtain ⟨q, hq, e⟩ := List.mem_map.1 this
    have : q = (p.2, p.1) := by rw [← e]
    rw [← this]; exact hq
  refine ⟨hm, ?_, h.keys.sublist List.erase_sublist, fun q hq => h.small q (List.mem_of_mem_erase hq)⟩
  have h1 : (t.map fun p => (p.2, p.1)).Perm (p :: (t.erase (p.2, p.1)).map fun p => (p.2, p.1)) := by
    have := (List.perm_cons_erase hm).map fun p : Nat × Nat => (p.2, p.1)
    simpa using this
  exact (List.perm_cons p).1 (h1.symm.trans h.perm)
theorem late_split {l : List ItemN} (h : Up l) {a b : Nat} (hab : a ≤ b) : l.filter (fun p => decide (a < p.1)) = comeBy l a b ++ l.filter fun p => decide (b < p.1) := by
  unfold comeBy
  refine Up.eq (h.filter _) (List.pairwise_append.2 ⟨h.filter _, h.filter _, fun p hp q hq => ?_⟩) fun p => ?_
  · have h1 := (List.mem_filter.1 hp).2
    have h2 := (List.mem_filter.1 hq).2
    simp at h1 h2
    rw [ltB_iff]; omega
  · rw [List.mem_append, List.mem_filter, List.mem_filter, List.mem_filter]
    simp
    constructor
    · rintro ⟨h1, h2⟩
      by_cases h4 : p.1 ≤ b
      · exact .inl ⟨h1, h2, h4⟩
      · exact .inr ⟨h1, by omega⟩
    · rintro (⟨h1, h2, h3⟩ | ⟨h1, h2⟩)
      · exact ⟨h1, h2⟩
      · exact ⟨h1, by omega⟩
end Go.Proofs.YthobffeafddonaaDoor
