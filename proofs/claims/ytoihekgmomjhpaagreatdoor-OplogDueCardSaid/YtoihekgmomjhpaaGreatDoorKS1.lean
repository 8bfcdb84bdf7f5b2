/-
  Texts laid into one (a claim has 60 files at most): SMap, SMath, SState.
-/
import Derived.Test.YtoihekgmomjhpaaGreatDoorProg
import Derived.Lib.Hide
import Derived.Maps.Own
import Derived.MapKept
import Derived.WalkSpells
import Derived.WalkKit
import Derived.Test.YtoihekgmomjhpaaGreatDoorKN1
import Derived.Test.YtoihekgmomjhpaaGreatDoorKN4
import Derived.Lib.MinMax
/-
  Layer 8: a map with numbers as keys in memory, as a list of pairs: looked up, written, taken from.
-/
set_option linter.unusedVariables false
namespace Go.Proofs.YtoihekgmomjhpaaGreatDoor
open Go.RowKit Go.ChangeMaps Go.MapKept
theorem vkeyed : Go.Maps.Keyed Tryz.prog 3 := Go.Maps.int_keyed Tryz.underlying3
theorem vwf {a : Int} (h1 : -9223372036854775808 ≤ a) (h2 : a ≤ 9223372036854775807) : (Lit.int .i64 a).wf = true := by
  simp [Lit.wf]
  exact ⟨by show (-9223372036854775808 : Int) ≤ a; exact h1, h2⟩
def I64 (a : Int) : Prop := -9223372036854775808 ≤ a ∧ a ≤ 9223372036854775807
theorem vkey {a : Int} (h : I64 a) : keyOf Tryz.prog 3 (.int .i64 a) = some (.int .i64 a) := Go.Maps.keyOf_int_mk Tryz.underlying3 (vwf h.1 h.2)
/-- The block mb is a map of these keys and values. -/
def VMap (w : World) (mb : Nat) (t : List (Int × Value)) : Prop :=
  ∃ es clock, w.heap[mb]? = some (.map es clock) ∧ Stamped es clock ∧ es.toList.map (fun e => (e.key, e.val)) = t.map fun p => (Value.int .i64 p.1, p.2)
theorem VMap.kept {w w' : World} {mb : Nat} {t : List (Int × Value)} (h : VMap w mb t) (k : w'.heap[mb]? = w.heap[mb]?) : VMap w' mb t := by
  obtain ⟨es, clock, h1, h2, h3⟩ := h
  exact ⟨es, clock, k.trans h1, h2, h3⟩
theorem VMap.lt {w : World} {mb : Nat} {t : List (Int × Value)} (h : VMap w mb t) : mb < w.heap.size := by
  obtain ⟨es, clock, h1, _⟩ := h
  exact (Array.getElem?_eq_some_iff.1 h1).1
theorem VMap.made (w : World) : VMap (w.alloc (.map #[] 0)) w.heap.size [] := ⟨#[], 0, (MapKept.heap_alloc w _).1, stamped_empty 0, rfl⟩
theorem VMap.len {T E : TypeId} (hT : Tryz.prog.underlying T = some (.map 3 E)) {w : World} {mb : Nat} {t : List (Int × Value)} (h : VMap w mb t) (ty : TypeId) : (Builtin.len_ #[T] ty #[.map (some mb)]).run Tryz.prog w = .ok (.int .i64 t.length) w := by
  obtain ⟨es, clock, h1, _, h2⟩ := h
  have e : es.size = t.length := by
    have := congrArg List.length h2
    simpa using this
  simp [Builtin.len_, run_underlying hT, MapKept.run_getObj_map h1, goInt, Result.andThen, e]
theorem vmap_keys {t : List (Int × Value)} {es : Array MapEntry} (hl : ∀ p ∈ t, I64 p.1) (he : es.toList.map (fun e => (e.key, e.val)) = t.map fun p => (Value.int .i64 p.1, p.2)) :
    (∀ e ∈ es.toList, ∃ k, keyOf Tryz.prog 3 e.key = some k) ∧ ∀ e ∈ es.toList, ∃ p ∈ t, e.key = .int .i64 p.1 ∧ e.val = p.2 := by
  have h2 : ∀ e ∈ es.toList, ∃ p ∈ t, e.key = .int .i64 p.1 ∧ e.val = p.2 := fun e h => by
    have : (e.key, e.val) ∈ t.map fun p => (Value.int .i64 p.1, p.2) := by
      rw [← he]
      exact List.mem_map.2 ⟨e, h, rfl⟩
    obtain ⟨p, hp, e1⟩ := List.mem_map.1 this
    injection e1 with a b
    exact ⟨p, hp, a.symm, b.symm⟩
  refine ⟨fun e h => ?_, h2⟩
  obtain ⟨p, hp, e1, _⟩ := h2 e h
  rw [e1]
  exact ⟨_, vkey (hl p hp)⟩
theorem vinj {a b : Int} (h : (Value.int .i64 a) = .int .i64 b) : a = b := by injection h
/-- What is found at a key. -/
theorem vfind {w : World} {mb : Nat} {t : List (Int × Value)} (hl : ∀ p ∈ t, I64 p.1) (hk : t.Pairwise fun p q => p.1 ≠ q.1) {es : Array MapEntry} (he : es.toList.map (fun e => (e.key, e.val)) = t.map fun p => (Value.int .i64 p.1, p.2)) {id : Int} {v : Value} (hp : (id, v) ∈ t) :
    ∃ j, ∃ hj : j < t.length, ∃ e0, t[j] = (id, v) ∧ j < es.size ∧ (Instr.findKey 3 (.int .i64 id) es.toList).run Tryz.prog w = .ok (some (j, v)) w ∧ es[j]? = some e0 ∧ e0.key = .int .i64 id := by
  obtain ⟨k1, k2⟩ := vmap_keys hl he
  have hkey := vkey (hl _ hp)
  rcases vkeyed.find w hkey es.toList k1 with ⟨f1, f2⟩ | ⟨j, e0, f1, f2, f3⟩
  · have : (Value.int .i64 id, v) ∈ es.toList.map (fun e => (e.key, e.val)) := by
      rw [he]
      exact List.mem_map.2 ⟨_, hp, rfl⟩
    obtain ⟨x, hx, ex⟩ := List.mem_map.1 this
    injection ex with a _
    exact absurd a (f2 x hx)
  · have hj : j < es.size := by
      have := (List.getElem?_eq_some_iff.1 f2).1
      simpa using this
    have hlen : es.toList.length = t.length := by
      have := congrArg List.length he
      simpa using this
    have hjt : j < t.length := by rw [← hlen]; simpa using hj
    have hat : t[j] = (id, v) ∧ e0.val = v := by
      have h1 := congrArg (·[j]?) he
      simp only [List.getElem?_map, f2, List.getElem?_eq_getElem hjt, Option.map_some] at h1
      injection h1 with h1
      injection h1 with h2 h3
      rw [f3] at h2
      have hid2 : t[j].1 = id := (vinj h2).symm
      obtain ⟨i2, hi2, e3⟩ := List.mem_iff_getElem.1 hp
      rcases Nat.lt_trichotomy j i2 with g | g | g
      · exact absurd (by rw [e3]; exact hid2) (List.pairwise_iff_getElem.1 hk j i2 hjt hi2 g)
      · subst g; exact ⟨e3, by rw [h3, e3]⟩
      · exact absurd (by rw [e3]; exact hid2.symm) (List.pairwise_iff_getElem.1 hk i2 j hi2 hjt g)
    exact ⟨j, hjt, e0, hat.1, hj, by rw [f1, hat.2], by rw [← Array.getElem?_toList]; exact f2, f3⟩
theorem vfind_none {w : World} {t : List (Int × Value)} (hl : ∀ p ∈ t, I64 p.1) {es : Array MapEntry} (he : es.toList.map (fun e => (e.key, e.val)) = t.map fun p => (Value.int .i64 p.1, p.2)) {id : Int} (hid : I64 id) (hn : ∀ p ∈ t, p.1 ≠ id) :
    (Instr.findKey 3 (.int .i64 id) es.toList).run Tryz.prog w = .ok none w := by
  obtain ⟨k1, k2⟩ := vmap_keys hl he
  rcases vkeyed.find w (vkey hid) es.toList k1 with ⟨f1, f2⟩ | ⟨j, e0, f1, f2, f3⟩
  · exact f1
  · obtain ⟨p, hp, e1, e2⟩ := k2 e0 (List.mem_of_getElem? f2)
    rw [f3] at e1
    exact absurd (vinj e1).symm (hn p hp)
theorem vstays (w : World) (x : Int) : (Instr.keyThatStays (.int .i64 x) (.int .i64 x)).run Tryz.prog w = .ok (.int .i64 x) w := by
  have h : Instr.sameBits 10000 (.int .i64 x) (.int .i64 x) = true := by
    unfold Instr.sameBits
    simp
  simp [Instr.keyThatStays, h]
theorem vmake (T : TypeId) (W : World) : (Instr.makeMap T none).run Tryz.prog W = .ok (.map (some W.heap.size)) (W.alloc (.map #[] 0)) := by
  simp [Instr.makeMap, Result.andThen, go_sem]
section
variable {T E : TypeId} (hT : Tryz.prog.underlying T = some (.map 3 E))
include hT
theorem vlook_none {z : Value} (hz : ∀ w, (zeroValue E).run Tryz.prog w = .ok z w) {w : World} {mb : Nat} {t : List (Int × Value)} (hm : VMap w mb t) (hl : ∀ p ∈ t, I64 p.1) {id : Int} (hid : I64 id) (hn : ∀ p ∈ t, p.1 ≠ id) (b : Bool) :
    (Instr.lookup T (.map (some mb)) (.int .i64 id) b).run Tryz.prog w = .ok (if b then .tuple #[z, .bool false] else z) w := by
  obtain ⟨es, clock, hb, hst, he⟩ := hm
  simp [Instr.lookup, run_underlying hT, MapKept.run_getObj_map hb, vkeyed.check w _ (vkey hid), vfind_none hl he hid hn, Result.andThen, hz]
theorem vlook_some {w : World} {mb : Nat} {t : List (Int × Value)} (hm : VMap w mb t) (hl : ∀ p ∈ t, I64 p.1) (hk : t.Pairwise fun p q => p.1 ≠ q.1) {id : Int} {v : Value} (hp : (id, v) ∈ t) (b : Bool) :
    (Instr.lookup T (.map (some mb)) (.int .i64 id) b).run Tryz.prog w = .ok (if b then .tuple #[v, .bool true] else v) w := by
  obtain ⟨es, clock, hb, hst, he⟩ := hm
  obtain ⟨j, hj, e0, h1, h2, h3, h4, h5⟩ := vfind (w := w) (mb := mb) hl hk he hp
  simp [Instr.lookup, run_underlying hT, MapKept.run_getObj_map hb, vkeyed.check w _ (vkey (hl _ hp)), h3, Result.andThen]
theorem vinsert {w : World} {mb : Nat} {t : List (Int × Value)} (hm : VMap w mb t) (hl : ∀ p ∈ t, I64 p.1) {id : Int} (v : Value) (hid : I64 id) (hn : ∀ p ∈ t, p.1 ≠ id) :
    ∃ w', (Instr.mapUpdate T (.map (some mb)) (.int .i64 id) v).run Tryz.prog w = .ok () w' ∧ VMap w' mb (t ++ [(id, v)]) ∧ w.grownBy w' (some mb) ∧ w'.heap.size = w.heap.size := by
  obtain ⟨es, clock, hb, hst, he⟩ := hm
  have hnk : ∀ e ∈ es.toList, e.key ≠ .int .i64 id := fun e he2 hek => by
    obtain ⟨p, hp, e1, _⟩ := (vmap_keys hl he).2 e he2
    rw [e1] at hek
    exact hn p hp (vinj hek)
  refine ⟨setBlock w mb (.map (es.push ⟨.int .i64 id, v, clock⟩) (clock + 1)), ?_, ⟨_, _, heap_setBlock_same hb _, stamped_push hst hnk, ?_⟩, ⟨rfl, rfl, rfl, by simp [setBlock], fun k _ hk => heap_setBlock_other hb _ (fun e => hk (by rw [e]))⟩, by simp [setBlock]⟩
  · simp [Instr.mapUpdate, run_underlying hT, MapKept.run_getObj_map hb, vkeyed.check w false (vkey hid), vfind_none hl he hid hn, MapKept.run_setObj_map _ hb, Result.andThen, setBlock]
  · simp [he]
theorem vupdate {w : World} {mb : Nat} {t : List (Int × Value)} (hm : VMap w mb t) (hl : ∀ p ∈ t, I64 p.1) (hk : t.Pairwise fun p q => p.1 ≠ q.1) {id : Int} {v : Value} (hp : (id, v) ∈ t) (v2 : Value) :
    ∃ w', (Instr.mapUpdate T (.map (some mb)) (.int .i64 id) v2).run Tryz.prog w = .ok () w' ∧ VMap w' mb (t.map fun p => if p.1 = id then (id, v2) else p) ∧ w.grownBy w' (some mb) ∧ w'.heap.size = w.heap.size := by
  obtain ⟨es, clock, hb, hst, he⟩ := hm
  obtain ⟨j, hj, e0, h1, h2, h3, h4, h5⟩ := vfind (w := w) (mb := mb) hl hk he hp
  have hsm : Stamped (es.modify j fun e => { e with key := .int .i64 id, val := v2 }) clock := stamped_modify hst _ _ (fun _ _ => rfl) (fun e' _ he' => by
    have e9 : e0 = e' := Option.some.inj (h4.symm.trans he')
    show Value.int .i64 id = e'.key
    rw [← e9]
    exact h5.symm)
  refine ⟨setBlock w mb (.map (es.modify j fun e => { e with key := .int .i64 id, val := v2 }) clock), ?_, ⟨_, _, heap_setBlock_same hb _, hsm, ?_⟩, ⟨rfl, rfl, rfl, by simp [setBlock], fun k _ hk => heap_setBlock_other hb _ (fun e => hk (by rw [e]))⟩, by simp [setBlock]⟩
  · simp [Instr.mapUpdate, run_underlying hT, MapKept.run_getObj_map hb, vkeyed.check w false (vkey (hl _ hp)), h3, h4, h5, vstays, MapKept.run_setObj_map _ hb, Result.andThen, setBlock]
  · apply List.ext_getElem?
    intro i
    have g1 := congrArg (·[i]?) he
    simp only [List.getElem?_map] at g1
    rw [List.getElem?_map, List.getElem?_map, Array.getElem?_toList, Array.getElem?_modify, List.getElem?_map]
    by_cases e : j = i
    · subst e
      rw [if_pos rfl, h4, List.getElem?_eq_getElem hj, h1]
      simp
    · rw [if_neg e, ← Array.getElem?_toList, g1]
      cases hti : t[i]? with
      | none => rfl
      | some p =>
        obtain ⟨hi, rfl⟩ := List.getElem?_eq_some_iff.1 hti
        have hne : t[i].1 ≠ id := by
          intro e2
          rcases Nat.lt_or_gt_of_ne e with g | g
          · exact List.pairwise_iff_getElem.1 hk j i hj hi g (by rw [h1, e2])
          · exact List.pairwise_iff_getElem.1 hk i j hi hj g (by rw [h1, e2])
        simp [hne]
theorem vdelete {w : World} {mb : Nat} {t : List (Int × Value)} (hm : VMap w mb t) (hl : ∀ p ∈ t, I64 p.1) (hk : t.Pairwise fun p q => p.1 ≠ q.1) {id : Int} {v : Value} (hp : (id, v) ∈ t) :
    ∃ w', (∀ ty, (Builtin.delete_ #[T, 3] ty #[.map (some mb), .int .i64 id]).run Tryz.prog w = .ok (.tuple #[]) w') ∧ VMap w' mb (t.filter fun p => decide (p.1 ≠ id)) ∧ w.grownBy w' (some mb) ∧ w'.heap.size = w.heap.size := by
  obtain ⟨es, clock, hb, hst, he⟩ := hm
  obtain ⟨j, hj, e0, h1, h2, h3, h4, h5⟩ := vfind (w := w) (mb := mb) hl hk he hp
  have hne : es.isEmpty = false := by
    rw [Array.isEmpty_eq_false_iff]
    intro e
    rw [e] at h2
    simp at h2
  refine ⟨setBlock w mb (.map (es.eraseIdxIfInBounds j) clock), ?_, ⟨_, _, heap_setBlock_same hb _, stamped_erase hst j, ?_⟩, ⟨rfl, rfl, rfl, by simp [setBlock], fun k _ hk => heap_setBlock_other hb _ (fun e => hk (by rw [e]))⟩, by simp [setBlock]⟩
  · intro ty
    simp [Builtin.delete_, run_underlying hT, MapKept.run_getObj_map hb, hne, vkeyed.check w false (vkey (hl _ hp)), h3, MapKept.run_setObj_map _ hb, Result.andThen, setBlock]
  · have e1 : t.filter (fun p => decide (p.1 ≠ id)) = t.eraseIdx j := by
      rw [List.eraseIdx_eq_take_drop_succ]
      conv => lhs; rw [show t = t.take j ++ t[j] :: t.drop (j + 1) by rw [List.getElem_cons_drop, List.take_append_drop]]
      rw [List.filter_append, List.filter_cons, h1]
      have f1 : (t.take j).filter (fun p => decide (p.1 ≠ id)) = t.take j := by
        rw [List.filter_eq_self]
        intro p hp2
        obtain ⟨i, hi, rfl⟩ := List.mem_iff_getElem.1 hp2
        rw [List.length_take] at hi
        rw [List.getElem_take]
        have := List.pairwise_iff_getElem.1 hk i j (by omega) hj (by omega)
        rw [h1] at this
        simpa using this
      have f2 : (t.drop (j + 1)).filter (fun p => decide (p.1 ≠ id)) = t.drop (j + 1) := by
        rw [List.filter_eq_self]
        intro p hp2
        obtain ⟨i, hi, rfl⟩ := List.mem_iff_getElem.1 hp2
        rw [List.length_drop] at hi
        rw [List.getElem_drop]
        have := List.pairwise_iff_getElem.1 hk j (j + 1 + i) hj (by omega) (by omega)
        rw [h1] at this
        simpa using fun e => this e.symm
      rw [f1, f2]
      simp
    have e2 : ∀ {α β : Type} (f : α → β) (l : List α), (l.eraseIdx j).map f = (l.map f).eraseIdx j := fun f l => by
      rw [List.eraseIdx_eq_take_drop_succ, List.eraseIdx_eq_take_drop_succ, List.map_append, List.map_take, List.map_drop]
    rw [e1, Array.eraseIdxIfInBounds, dif_pos h2, Array.toList_eraseIdx, e2, he, e2]
end
end Go.Proofs.YtoihekgmomjhpaaGreatDoor

/-
  Layer 8 (no program): the service's timers as a list by ids, its clients in the order in which they came, and what an operation does to both.
-/
set_option linter.unusedVariables false
namespace Ste
open Crn Nxt
structure Tm where
  id : Int
  client : Int
  gen : Int
  due : Int
  cron : ByteArray
structure Rp where
  err : Int
  gen : Int
  due : Int
structure Kn where
  client : Int
  req : Int
  rp : Rp
structure OpN where
  kind : Int
  client : Int
  req : Int
  id : Int
  gen : Int
  occ : Int
  due : Int
  stamp : Int
  epoch : Int
  cron : ByteArray
structure St where
  room : Nat
  gens : Nat
  T : List Tm
  K : List Kn
theorem size_zero {s : ByteArray} : s = ByteArray.empty ↔ s.size = 0 := by
  constructor
  · rintro rfl; rfl
  · intro h
    apply ByteArray.ext
    apply Array.eq_empty_of_size_eq_zero
    exact h
/-- The first time of a text behind a second; 0: there is none. -/
noncomputable def afterN (s : ByteArray) (sec : Int) : Int := match parse s.data.toList with
  | some x => (nextN x sec).getD 0
  | none => 0
def badB (s : ByteArray) : Bool := (parse s.data.toList).isNone
def find (id : Int) (T : List Tm) : Option Tm := T.find? fun t => decide (t.id = id)
def away (id : Int) (T : List Tm) : List Tm := T.filter fun t => decide (t.id ≠ id)
def put (t : Tm) (T : List Tm) : List Tm := (T.filter fun u => decide (u.id < t.id)) ++ t :: T.filter fun u => decide (t.id < u.id)
def hasId (id : Int) (T : List Tm) : Prop := ∃ u ∈ T, u.id = id
/-- By ids, rising. -/
def Up (T : List Tm) : Prop := T.Pairwise fun t u => t.id < u.id
theorem find_some {id : Int} {T : List Tm} {t : Tm} (h : find id T = some t) : t ∈ T ∧ t.id = id := by
  refine ⟨List.mem_of_find?_eq_some h, ?_⟩
  have := List.find?_some h
  simpa using this
theorem find_none {id : Int} {T : List Tm} (h : find id T = none) : ∀ t ∈ T, t.id ≠ id := by
  intro t ht
  have := List.find?_eq_none.1 h t ht
  simpa using this
theorem Up.one {T : List Tm} (h : Up T) {t u : Tm} (ht : t ∈ T) (hu : u ∈ T) (e : t.id = u.id) : t = u := by
  obtain ⟨i, hi, rfl⟩ := List.mem_iff_getElem.1 ht
  obtain ⟨j, hj, rfl⟩ := List.mem_iff_getElem.1 hu
  rcases Nat.lt_trichotomy i j with g | g | g
  · have := List.pairwise_iff_getElem.1 h i j hi hj g; omega
  · subst g; rfl
  · have := List.pairwise_iff_getElem.1 h j i hj hi g; omega
theorem find_of {T : List Tm} (h : Up T) {t : Tm} (ht : t ∈ T) : find t.id T = some t := by
  cases hf : find t.id T with
  | none => exact absurd rfl (find_none hf t ht)
  | some u =>
    obtain ⟨h1, h2⟩ := find_some hf
    rw [h.one h1 ht h2]
theorem find_none_of {T : List Tm} {id : Int} (h : ∀ t ∈ T, t.id ≠ id) : find id T = none := by
  cases hf : find id T with
  | none => rfl
  | some u =>
    obtain ⟨h1, h2⟩ := find_some hf
    exact absurd h2 (h u h1)
theorem mem_away {id : Int} {T : List Tm} {t : Tm} : t ∈ away id T ↔ t ∈ T ∧ t.id ≠ id := by
  unfold away
  rw [List.mem_filter]
  simp
theorem away_up {id : Int} {T : List Tm} (h : Up T) : Up (away id T) := List.Pairwise.filter _ h
theorem away_none {id : Int} {T : List Tm} (h : ∀ t ∈ T, t.id ≠ id) : away id T = T := by
  unfold away
  rw [List.filter_eq_self]
  intro t ht
  simpa using h t ht
theorem mem_put {t u : Tm} {T : List Tm} (h : ∀ u ∈ T, u.id ≠ t.id) : u ∈ put t T ↔ u = t ∨ u ∈ T := by
  unfold put
  rw [List.mem_append, List.mem_cons, List.mem_filter, List.mem_filter]
  simp only [decide_eq_true_eq]
  constructor
  · rintro (⟨h1, _⟩ | rfl | ⟨h1, _⟩)
    · exact .inr h1
    · exact .inl rfl
    · exact .inr h1
  · rintro (rfl | h1)
    · exact .inr (.inl rfl)
    · have := h u h1
      rcases Int.lt_or_gt_of_ne this with g | g
      · exact .inl ⟨h1, g⟩
      · exact .inr (.inr ⟨h1, g⟩)
theorem put_up {t : Tm} {T : List Tm} (h : Up T) : Up (put t T) := by
  unfold put Up
  rw [List.pairwise_append]
  refine ⟨List.Pairwise.filter _ h, ?_, ?_⟩
  · rw [List.pairwise_cons]
    refine ⟨fun u hu => ?_, List.Pairwise.filter _ h⟩
    have := (List.mem_filter.1 hu).2
    simpa using this
  · intro u hu v hv
    have h1 := (List.mem_filter.1 hu).2
    simp only [decide_eq_true_eq] at h1
    rcases List.mem_cons.1 hv with rfl | g
    · exact h1
    · have h2 := (List.mem_filter.1 g).2
      simp only [decide_eq_true_eq] at h2
      omega
theorem Up.nodup {T : List Tm} (h : Up T) : T.Nodup := h.imp fun {a b} g e => by rw [e] at g; omega
theorem put_perm {t : Tm} {T : List Tm} (h : Up T) (hn : ∀ u ∈ T, u.id ≠ t.id) : (put t T).Perm (t :: T) := by
  rw [List.perm_ext_iff_of_nodup (put_up h).nodup (List.nodup_cons.2 ⟨fun g => hn t g rfl, h.nodup⟩)]
  intro u
  rw [mem_put hn, List.mem_cons]
theorem put_length {t : Tm} {T : List Tm} (h : Up T) (hn : ∀ u ∈ T, u.id ≠ t.id) : (put t T).length = T.length + 1 := by
  rw [(put_perm h hn).length_eq, List.length_cons]
theorem away_perm {T : List Tm} (h : Up T) {t : Tm} (ht : t ∈ T) : T.Perm (t :: away t.id T) := by
  rw [List.perm_ext_iff_of_nodup h.nodup (List.nodup_cons.2 ⟨fun g => (mem_away.1 g).2 rfl, (away_up h).nodup⟩)]
  intro u
  rw [List.mem_cons, mem_away]
  constructor
  · intro hu
    by_cases e : u.id = t.id
    · exact .inl (h.one hu ht e)
    · exact .inr ⟨hu, e⟩
  · rintro (rfl | ⟨g, _⟩)
    · exact ht
    · exact g
theorem away_length {T : List Tm} (h : Up T) {t : Tm} (ht : t ∈ T) : (away t.id T).length + 1 = T.length := by
  rw [(away_perm h ht).length_eq, List.length_cons]
/-! Clients. -/
def known (c : Int) (K : List Kn) : Option Kn := K.find? fun k => decide (k.client = c)
def renew (k : Kn) (K : List Kn) : List Kn := K.map fun j => if j.client = k.client then k else j
def Apart (K : List Kn) : Prop := K.Pairwise fun j k => j.client ≠ k.client
theorem known_some {c : Int} {K : List Kn} {k : Kn} (h : known c K = some k) : k ∈ K ∧ k.client = c := by
  refine ⟨List.mem_of_find?_eq_some h, ?_⟩
  have := List.find?_some h
  simpa using this
theorem known_none {c : Int} {K : List Kn} (h : known c K = none) : ∀ k ∈ K, k.client ≠ c := by
  intro k hk
  have := List.find?_eq_none.1 h k hk
  simpa using this
theorem Apart.one {K : List Kn} (h : Apart K) {j k : Kn} (hj : j ∈ K) (hk : k ∈ K) (e : j.client = k.client) : j = k := by
  obtain ⟨i, hi, rfl⟩ := List.mem_iff_getElem.1 hj
  obtain ⟨i2, hi2, rfl⟩ := List.mem_iff_getElem.1 hk
  rcases Nat.lt_trichotomy i i2 with g | g | g
  · exact absurd e (List.pairwise_iff_getElem.1 h i i2 hi hi2 g)
  · subst g; rfl
  · exact absurd e.symm (List.pairwise_iff_getElem.1 h i2 i hi2 hi g)
theorem renew_clients (k : Kn) (K : List Kn) : (renew k K).map (·.client) = K.map (·.client) := by
  unfold renew
  rw [List.map_map]
  apply List.map_congr_left
  intro j _
  simp only [Function.comp]
  split
  · rename_i e; exact e.symm
  · rfl
theorem apart_iff {K : List Kn} : Apart K ↔ (K.map (·.client)).Nodup := by
  unfold Apart List.Nodup
  rw [List.pairwise_map]
theorem renew_apart {k : Kn} {K : List Kn} (h : Apart K) : Apart (renew k K) := by
  rw [apart_iff, renew_clients]
  exact apart_iff.1 h
theorem mem_renew {k j : Kn} {K : List Kn} : j ∈ renew k K → j = k ∨ (j ∈ K ∧ j.client ≠ k.client) := by
  intro h
  obtain ⟨i, hi, rfl⟩ := List.mem_map.1 h
  split
  · exact .inl rfl
  · rename_i e; exact .inr ⟨hi, e⟩
/-! What an operation does. -/
def settableB (o : OpN) : Bool := decide (0 ≤ o.id) && decide (o.id ≤ 1000) && decide (0 ≤ o.due) && decide (o.due ≤ if o.cron.size = 0 then 1099511627776 else 0)
noncomputable def dueN (o : OpN) : Int := if o.cron.size = 0 then o.due else afterN o.cron o.stamp
noncomputable def setN (s : St) (o : OpN) : St × Rp :=
  if settableB o = false then (s, ⟨1, 0, 0⟩)
  else if o.cron.size ≠ 0 ∧ badB o.cron = true then (s, ⟨7, 0, 0⟩)
  else if find o.id s.T = none ∧ s.room ≤ s.T.length then (s, ⟨5, 0, 0⟩)
  else ({ s with gens := s.gens + 1, T := put ⟨o.id, o.client, (s.gens + 1 : Nat), dueN o, o.cron⟩ (away o.id s.T) }, ⟨0, (s.gens + 1 : Nat), dueN o⟩)
def cancelN (s : St) (o : OpN) : St × Rp := match find o.id s.T with
  | none => (s, ⟨6, 0, 0⟩)
  | some t => ({ s with T := away o.id s.T }, ⟨0, t.gen, t.due⟩)
noncomputable def changeN (s : St) (o : OpN) : St × Rp := if o.kind = 1 then setN s o else cancelN s o
noncomputable def askN (s : St) (o : OpN) : St × Rp := match known o.client s.K with
  | some k => if o.req < k.req then (s, ⟨11, 0, 0⟩) else if k.req = o.req then (s, k.rp)
      else ({ (changeN s o).1 with K := renew ⟨o.client, o.req, (changeN s o).2⟩ s.K }, (changeN s o).2)
  | none => if 3 ≤ s.K.length then (s, ⟨8, 0, 0⟩)
      else ({ (changeN s o).1 with K := s.K ++ [⟨o.client, o.req, (changeN s o).2⟩] }, (changeN s o).2)
def firesB (s : St) (o : OpN) : Bool := decide (o.kind = 3) && match find o.id s.T with
  | none => false
  | some t => decide (t.gen = o.gen) && decide (t.due = o.occ) && decide (0 < o.occ) && decide (o.occ ≤ o.stamp)
noncomputable def fireN (s : St) (o : OpN) : St × Rp :=
  if firesB s o = false then (s, ⟨6, 0, 0⟩)
  else match find o.id s.T with
  | none => (s, ⟨6, 0, 0⟩)
  | some t => ({ s with T := if t.cron.size = 0 then away o.id s.T else put { t with due := afterN t.cron (max o.occ o.stamp) } (away o.id s.T) }, ⟨0, o.gen, o.occ⟩)
noncomputable def applyN (s : St) (o : OpN) : St × Rp :=
  if o.kind = 1 ∨ o.kind = 2 then askN s o else if o.kind = 3 then fireN s o else (s, ⟨1, 0, 0⟩)
def newN (timers : Int) : St := ⟨(min (max timers 1) 16).toNat, 0, [], []⟩
def i64 (a : Int) : Prop := -9223372036854775808 ≤ a ∧ a ≤ 9223372036854775807
/-- An operation that may be played. -/
structure OpOk (o : OpN) : Prop where
  kind : i64 o.kind
  client : i64 o.client
  req : i64 o.req
  id : i64 o.id
  gen : i64 o.gen
  occ : i64 o.occ
  due : i64 o.due
  stamp : i64 o.stamp
  epoch : i64 o.epoch
  cron : o.cron.size ≤ 400
structure TmOk (g : Nat) (t : Tm) : Prop where
  id0 : 0 ≤ t.id
  id1 : t.id ≤ 1000
  client : i64 t.client
  gen0 : 1 ≤ t.gen
  gen1 : t.gen ≤ g
  due : i64 t.due
  cron : t.cron.size ≤ 400
structure RpOk (r : Rp) : Prop where
  err : i64 r.err
  gen : i64 r.gen
  due : i64 r.due
structure KnOk (k : Kn) : Prop where
  client : i64 k.client
  req : i64 k.req
  rp : RpOk k.rp
structure Ok (s : St) : Prop where
  room0 : 1 ≤ s.room
  room1 : s.room ≤ 16
  up : Up s.T
  full : s.T.length ≤ s.room
  apart : Apart s.K
  few : s.K.length ≤ 3
  tm : ∀ t ∈ s.T, TmOk s.gens t
  kn : ∀ k ∈ s.K, KnOk k
  gens : s.gens ≤ 1000000
theorem afterN_range (s : ByteArray) (sec : Int) : 0 ≤ afterN s sec ∧ afterN s sec ≤ 253402300799 := by
  unfold afterN
  split
  · rename_i x _
    cases h : nextN x sec with
    | none => simp
    | some a =>
      have := nextN_range h
      have h2 : last = 253402300799 := rfl
      simp only [Option.getD_some]
      omega
  · simp
theorem new_ok (timers : Int) : Ok (newN timers) := by
  refine ⟨?_, ?_, List.Pairwise.nil, Nat.zero_le _, List.Pairwise.nil, Nat.zero_le _, (fun t h => by cases h), (fun t h => by cases h), Nat.zero_le _⟩
  · show 1 ≤ (min (max timers 1) 16).toNat; omega
  · show (min (max timers 1) 16).toNat ≤ 16; omega
theorem TmOk.mono {g h : Nat} {t : Tm} (k : TmOk g t) (hh : g ≤ h) : TmOk h t := ⟨k.id0, k.id1, k.client, k.gen0, by have := k.gen1; omega, k.due, k.cron⟩
theorem dueN_range {o : OpN} (h : settableB o = true) : 0 ≤ dueN o ∧ dueN o ≤ 1099511627776 := by
  unfold dueN
  unfold settableB at h
  simp only [Bool.and_eq_true, decide_eq_true_eq] at h
  split
  · rename_i e; rw [if_pos e] at h; exact ⟨h.1.2, h.2⟩
  · have := afterN_range o.cron o.stamp; omega
theorem settable_id {o : OpN} (h : settableB o = true) : 0 ≤ o.id ∧ o.id ≤ 1000 := by
  unfold settableB at h
  simp only [Bool.and_eq_true, decide_eq_true_eq] at h
  exact ⟨h.1.1.1, h.1.1.2⟩
/-- Timers and what is answered behind a change. -/
structure Chg (s : St) (p : St × Rp) : Prop where
  room : p.1.room = s.room
  K : p.1.K = s.K
  gens0 : s.gens ≤ p.1.gens
  gens1 : p.1.gens ≤ s.gens + 1
  up : Up p.1.T
  full : p.1.T.length ≤ s.room
  tm : ∀ t ∈ p.1.T, TmOk p.1.gens t
  rp : RpOk p.2
theorem Chg.none {s : St} (h : Ok s) (e : Int) (he : i64 e) : Chg s (s, ⟨e, 0, 0⟩) := ⟨rfl, rfl, Nat.le_refl _, Nat.le_succ _, h.up, h.full, h.tm, ⟨he, ⟨by simp, by simp⟩, ⟨by simp, by simp⟩⟩⟩
theorem i64_small {a : Int} (h1 : -1000000000000000000 ≤ a) (h2 : a ≤ 1000000000000000000) : i64 a := ⟨by omega, by omega⟩
theorem set_chg {s : St} (h : Ok s) {o : OpN} (ho : OpOk o) : Chg s (setN s o) := by
  unfold setN
  split
  · exact Chg.none h 1 (i64_small (by omega) (by omega))
  rename_i h1
  have h1 : settableB o = true := by simpa using h1
  split
  · exact Chg.none h 7 (i64_small (by omega) (by omega))
  split
  · exact Chg.none h 5 (i64_small (by omega) (by omega))
  rename_i h3
  have hd := dueN_range h1
  have hi := settable_id h1
  have hg := h.gens
  have hn : ∀ u ∈ away o.id s.T, u.id ≠ o.id := fun u hu => (mem_away.1 hu).2
  refine ⟨rfl, rfl, Nat.le_succ _, Nat.le_refl _, put_up (away_up h.up), ?_, ?_, ⟨i64_small (by simp) (by simp), i64_small (by simp; omega) (by simp; omega), i64_small (by simp only []; omega) (by simp only []; omega)⟩⟩
  · show (put _ _).length ≤ s.room
    rw [put_length (away_up h.up) hn]
    cases hf : find o.id s.T with
    | none =>
      rw [away_none (find_none hf)]
      have : ¬ s.room ≤ s.T.length := fun g => h3 ⟨hf, g⟩
      omega
    | some t =>
      obtain ⟨g1, g2⟩ := find_some hf
      have := away_length h.up g1
      rw [g2] at this
      have := h.full
      omega
  · intro t ht
    rcases (mem_put hn).1 ht with rfl | g
    · exact ⟨hi.1, hi.2, ho.client, by simp only []; omega, by simp only []; omega, i64_small (by simp only []; omega) (by simp only []; omega), ho.cron⟩
    · exact (h.tm t (mem_away.1 g).1).mono (Nat.le_succ _)
theorem cancel_chg {s : St} (h : Ok s) {o : OpN} (ho : OpOk o) : Chg s (cancelN s o) := by
  unfold cancelN
  split
  · exact Chg.none h 6 (i64_small (by omega) (by omega))
  rename_i t ht
  obtain ⟨g1, g2⟩ := find_some ht
  have hl := away_length h.up g1
  rw [g2] at hl
  have hf := h.full
  have ht := h.tm t g1
  have hg := h.gens
  refine ⟨rfl, rfl, Nat.le_refl _, Nat.le_succ _, away_up h.up, by show (away o.id s.T).length ≤ s.room; omega, fun u hu => h.tm u (mem_away.1 hu).1, ⟨i64_small (by simp) (by simp), i64_small (by have := ht.gen0; simp only []; omega) (by have := ht.gen1; simp only []; omega), ht.due⟩⟩
theorem change_chg {s : St} (h : Ok s) {o : OpN} (ho : OpOk o) : Chg s (changeN s o) := by
  unfold changeN
  split
  · exact set_chg h ho
  · exact cancel_chg h ho
theorem Chg.ok {s : St} {p : St × Rp} (h : Ok s) (k : Chg s p) (hg : p.1.gens ≤ 1000000) : Ok p.1 :=
  ⟨by rw [k.room]; exact h.room0, by rw [k.room]; exact h.room1, k.up, by rw [k.room]; exact k.full, by rw [k.K]; exact h.apart, by rw [k.K]; exact h.few, k.tm, by rw [k.K]; exact h.kn, hg⟩
/-- What an operation leaves is as it should be. -/
theorem apply_ok {s : St} (h : Ok s) {o : OpN} (ho : OpOk o) (hg : s.gens < 1000000) : Ok (applyN s o).1 ∧ RpOk (applyN s o).2 ∧ (applyN s o).1.room = s.room ∧ s.gens ≤ (applyN s o).1.gens ∧ (applyN s o).1.gens ≤ s.gens + 1 := by
  have hz : ∀ e : Int, i64 e → RpOk ⟨e, 0, 0⟩ := fun e he => ⟨he, ⟨by simp, by simp⟩, ⟨by simp, by simp⟩⟩
  have hc := change_chg h ho
  unfold applyN
  split
  · unfold askN
    split
    · rename_i k hk
      obtain ⟨k1, k2⟩ := known_some hk
      split
      · exact ⟨h, hz 11 (i64_small (by omega) (by omega)), rfl, Nat.le_refl _, Nat.le_succ _⟩
      split
      · exact ⟨h, (h.kn k k1).rp, rfl, Nat.le_refl _, Nat.le_succ _⟩
      · refine ⟨⟨by have := h.room0; rw [← hc.room] at this; exact this, by have := h.room1; rw [← hc.room] at this; exact this, hc.up, by rw [show ({ (changeN s o).1 with K := renew ⟨o.client, o.req, (changeN s o).2⟩ s.K } : St).room = s.room from hc.room]; exact hc.full, renew_apart h.apart, by show (renew _ _).length ≤ 3; unfold renew; rw [List.length_map]; exact h.few, hc.tm, ?_, ?_⟩, hc.rp, hc.room, hc.gens0, hc.gens1⟩
        · intro j hj
          rcases mem_renew hj with rfl | ⟨g, _⟩
          · exact ⟨ho.client, ho.req, hc.rp⟩
          · exact h.kn j g
        · have := hc.gens1; show (changeN s o).1.gens ≤ _; omega
    · rename_i hk
      split
      · exact ⟨h, hz 8 (i64_small (by omega) (by omega)), rfl, Nat.le_refl _, Nat.le_succ _⟩
      · rename_i hl
        refine ⟨⟨by have := h.room0; rw [← hc.room] at this; exact this, by have := h.room1; rw [← hc.room] at this; exact this, hc.up, by rw [show ({ (changeN s o).1 with K := s.K ++ [⟨o.client, o.req, (changeN s o).2⟩] } : St).room = s.room from hc.room]; exact hc.full, ?_, ?_, hc.tm, ?_, ?_⟩, hc.rp, hc.room, hc.gens0, hc.gens1⟩
        · show Apart (s.K ++ _)
          unfold Apart
          rw [List.pairwise_append]
          exact ⟨h.apart, by simp, fun j hj k hk2 => by simp only [List.mem_singleton] at hk2; subst hk2; exact known_none hk j hj⟩
        · show (s.K ++ _).length ≤ 3
          rw [List.length_append]
          simp
          omega
        · intro j hj
          rcases List.mem_append.1 hj with g | g
          · exact h.kn j g
          · simp only [List.mem_singleton] at g
            subst g
            exact ⟨ho.client, ho.req, hc.rp⟩
        · have := hc.gens1; show (changeN s o).1.gens ≤ _; omega
  split
  · unfold fireN
    split
    · exact ⟨h, hz 6 (i64_small (by omega) (by omega)), rfl, Nat.le_refl _, Nat.le_succ _⟩
    split
    · exact ⟨h, hz 6 (i64_small (by omega) (by omega)), rfl, Nat.le_refl _, Nat.le_succ _⟩
    · rename_i t ht
      obtain ⟨g1, g2⟩ := find_some ht
      have hl := away_length h.up g1
      rw [g2] at hl
      have hf := h.full
      have hn : ∀ u ∈ away o.id s.T, u.id ≠ o.id := fun u hu => (mem_away.1 hu).2
      have hn2 : ∀ u ∈ away o.id s.T, u.id ≠ ({ t with due := afterN t.cron (max o.occ o.stamp) } : Tm).id := fun u hu => by show u.id ≠ t.id; rw [g2]; exact hn u hu
      have hok := h.tm t g1
      refine ⟨⟨h.room0, h.room1, ?_, ?_, h.apart, h.few, ?_, h.kn, h.gens⟩, ⟨i64_small (by simp) (by simp), ho.gen, ho.occ⟩, rfl, Nat.le_refl _, Nat.le_succ _⟩
      · show Up (if _ then _ else _)
        split
        · exact away_up h.up
        · exact put_up (away_up h.up)
      · show (if _ then _ else _ : List Tm).length ≤ s.room
        split
        · omega
        · rw [put_length (away_up h.up) hn2]; omega
      · intro u hu
        have hu2 : u ∈ (if t.cron.size = 0 then away o.id s.T else put { t with due := afterN t.cron (max o.occ o.stamp) } (away o.id s.T)) := hu
        by_cases hc : t.cron.size = 0
        · rw [if_pos hc] at hu2
          exact h.tm u (mem_away.1 hu2).1
        · rw [if_neg hc] at hu2
          rcases (mem_put hn2).1 hu2 with rfl | g
          · have := afterN_range t.cron (max o.occ o.stamp)
            exact ⟨hok.id0, hok.id1, hok.client, hok.gen0, hok.gen1, i64_small (by simp only []; omega) (by simp only []; omega), hok.cron⟩
          · exact h.tm u (mem_away.1 g).1
  · exact ⟨h, hz 1 (i64_small (by omega) (by omega)), rfl, Nat.le_refl _, Nat.le_succ _⟩
end Ste

/-
  Layer 8: the service in memory: its block, its two maps, the row of its clients, its cache.
-/
set_option linter.unusedVariables false
namespace Go.Proofs.YtoihekgmomjhpaaGreatDoor
open Go.RowKit Crn Nxt Ste
set_option maxRecDepth 100000
abbrev tmV (t : Tm) : Value := .agg #[.int .i64 t.id, .int .i64 t.client, .int .i64 t.gen, .int .i64 t.due, .string t.cron]
abbrev rpV (r : Rp) : Value := .agg #[.int .i64 r.err, .int .i64 r.gen, .int .i64 r.due]
abbrev knV (k : Kn) : Value := .agg #[.int .i64 k.req, .int .i64 k.rp.err, .int .i64 k.rp.gen, .int .i64 k.rp.due]
abbrev opC (o : OpN) : Array Value := #[.int .i64 o.kind, .int .i64 o.client, .int .i64 o.req, .int .i64 o.id, .int .i64 o.gen, .int .i64 o.occ, .int .i64 o.due, .int .i64 o.stamp, .int .i64 o.epoch, .string o.cron]
abbrev opV (o : OpN) : Value := .agg (opC o)
def tmP (t : Tm) : Int × Value := (t.id, tmV t)
def knP (k : Kn) : Int × Value := (k.client, knV k)
def iv (c : Int) : Value := .int .i64 c
abbrev mt : TypeId := 102
abbrev ml : TypeId := 103
abbrev ts : TypeId := 108
/-- Where its parts lie. -/
structure Px where
  tb : Nat
  lb : Nat
  cb : Nat
  p : Option Addr
  cap : Nat
  a : Nat
  m : Option Nat
  l : List (ByteArray × Nat)
  tl : List Tm
  kl : List Kn
def rowOf (p : Option Addr) : List Nat := ((Value.slice p 0 0).ownBlock).toList
def own (x : Px) (b : Nat) : List Nat := b :: x.tb :: x.lb :: (rowOf x.p ++ owned x.cb x.m x.l)
abbrev stC (room gens n : Nat) (x : Px) : Array Value := #[.int .i64 (room : Int), .int .i64 (gens : Int), .map (some x.tb), .slice x.p n x.cap, .map (some x.lb), .pointer (some ⟨x.cb, 0, none⟩)]
structure Sv (w : World) (b : Nat) (s : St) (cl : List Int) (x : Px) (c : Nat) : Prop where
  blk : w.heap[b]? = some (.cells (stC s.room s.gens cl.length x) ts)
  tm : VMap w x.tb (x.tl.map tmP)
  tp : x.tl.Perm s.T
  km : VMap w x.lb (x.kl.map knP)
  row : w.ownsRow (topTab + 1) 3 1 (.slice x.p cl.length x.cap) cl.length (cl.map iv)
  ca : Ca w x.cb x.a x.l.length x.m x.l
  cnt : x.l.length ≤ x.a ∧ x.a ≤ c
  hb : topTab < b
  ht : topTab < x.tb
  hl : topTab < x.lb
  sep : x.tb ≠ x.lb ∧ x.m ≠ some x.tb ∧ x.m ≠ some x.lb
  ok : Ok s
  gc : s.gens ≤ c
theorem type_no {w : World} {a b : Nat} {c d : Array Value} {t u : TypeId} {f h : Nat × Nat} (h1 : w.heap[a]? = some (.cells c t f)) (h2 : w.heap[b]? = some (.cells d u h)) (hn : t ≠ u) : a ≠ b := by
  intro e
  subst e
  rw [h1] at h2
  injection h2 with h2
  injection h2 with _ h3 _
  exact hn h3
theorem map_no {w : World} {a b : Nat} {c : Array Value} {t : TypeId} {f : Nat × Nat} {tl : List (Int × Value)} (h1 : w.heap[a]? = some (.cells c t f)) (h2 : VMap w b tl) : a ≠ b := by
  intro e
  subst e
  obtain ⟨es, clock, h3, _⟩ := h2
  rw [h1] at h3
  cases h3
theorem row_at {w : World} {base e size n g : Nat} {v : Value} {xs : List Value} (h : w.ownsRow base e size v n xs) (hg : v.ownBlock = some g) : ∃ cur, w.heap[g]? = some (.cells cur e (0, 0)) := by
  rcases h.2 with ⟨rfl, _⟩ | ⟨g', cap, cur, rfl, _, hh, _⟩
  · simp [Value.ownBlock] at hg
  · simp [Value.ownBlock] at hg
    subst hg
    exact ⟨cur, hh⟩
theorem row_same {w w' : World} {base e size n : Nat} {v : Value} {xs : List Value} (h : w.ownsRow base e size v n xs) (hk : ∀ g, v.ownBlock = some g → w'.heap[g]? = w.heap[g]?) : w'.ownsRow base e size v n xs := by
  refine ⟨h.1, ?_⟩
  rcases h.2 with h0 | ⟨g, cap, cur, rfl, hb, hg, hr⟩
  · exact Or.inl h0
  · exact Or.inr ⟨g, cap, cur, rfl, hb, (hk g rfl).trans hg, hr⟩
theorem own_row {p : Option Addr} {n cap : Nat} {g : Nat} : (Value.slice p n cap).ownBlock = some g ↔ g ∈ rowOf p := by
  unfold rowOf
  rw [Option.mem_toList]
  cases p <;> simp [Value.ownBlock]
section
variable {w w' : World} {b : Nat} {s : St} {cl : List Int} {x : Px} {c : Nat}
theorem Sv.lt (h : Sv w b s cl x c) : ∀ k, k ∈ own x b → k < w.heap.size ∧ topTab < k := by
  intro k hk
  simp only [own, List.mem_cons, List.mem_append] at hk
  rcases hk with rfl | rfl | rfl | hk | hk
  · exact ⟨lt_in h.blk, h.hb⟩
  · exact ⟨h.tm.lt, h.ht⟩
  · exact ⟨h.km.lt, h.hl⟩
  · have h1 := own_row (n := cl.length) (cap := x.cap).2 hk
    have := h.row.lt k h1
    omega
  · exact h.ca.lt k hk
/-- The parts lie apart. -/
structure Far (x : Px) (b : Nat) : Prop where
  bt : b ≠ x.tb
  bl : b ≠ x.lb
  br : b ∉ rowOf x.p
  bc : b ∉ owned x.cb x.m x.l
  tl : x.tb ≠ x.lb
  tr : x.tb ∉ rowOf x.p
  tc : x.tb ∉ owned x.cb x.m x.l
  lr : x.lb ∉ rowOf x.p
  lc : x.lb ∉ owned x.cb x.m x.l
  rc : ∀ g, g ∈ rowOf x.p → g ∉ owned x.cb x.m x.l
theorem Sv.far (h : Sv w b s cl x c) : Far x b := by
  have hr : ∀ g, g ∈ rowOf x.p → ∃ cur, w.heap[g]? = some (.cells cur 3 (0, 0)) := fun g hg => row_at h.row (own_row.2 hg)
  have ho : ∀ k, k ∈ owned x.cb x.m x.l → x.m = some k ∨ ∃ cs t, w.heap[k]? = some (.cells cs t (0, 0)) ∧ (t = 146 ∨ t = 175) := fun k hk => by
    simp only [owned, List.mem_cons, List.mem_append, List.mem_map, Option.mem_toList] at hk
    rcases hk with rfl | hk | ⟨q, hq, rfl⟩
    · exact .inr ⟨_, _, h.ca.blk, .inl rfl⟩
    · exact .inl hk
    · exact .inr ⟨_, _, (h.ca.rd q hq).1, .inr rfl⟩
  have hm : ∀ k, x.m = some k → ∃ es clock, w.heap[k]? = some (.map es clock) := fun k hk => by
    obtain ⟨⟨es, clock, h1, _⟩, _⟩ := h.ca.map k hk
    exact ⟨es, clock, h1⟩
  have noc : ∀ k (cs : Array Value) (t : TypeId), w.heap[k]? = some (.cells cs t (0, 0)) → t ≠ 146 → t ≠ 175 → k ∉ owned x.cb x.m x.l := fun k cs t hk h1 h2 hin => by
    rcases ho k hin with e | ⟨cs2, t2, e, e2⟩
    · obtain ⟨es, clock, e⟩ := hm k e
      rw [e] at hk; cases hk
    · rw [e] at hk
      injection hk with hk
      injection hk with _ h3 _
      subst h3
      rcases e2 with e2 | e2
      · exact h1 e2
      · exact h2 e2
  have nom : ∀ k, (∃ tl, VMap w k tl) → x.m ≠ some k → k ∉ owned x.cb x.m x.l := fun k ⟨tl, hk⟩ hne hin => by
    rcases ho k hin with e | ⟨cs2, t2, e, _⟩
    · exact hne e
    · exact map_no e hk rfl
  refine ⟨map_no h.blk h.tm, map_no h.blk h.km, fun hg => ?_, noc b _ _ h.blk (by decide) (by decide), h.sep.1, fun hg => ?_, nom _ ⟨_, h.tm⟩ h.sep.2.1, fun hg => ?_, nom _ ⟨_, h.km⟩ h.sep.2.2, fun g hg => ?_⟩
  · obtain ⟨cur, e⟩ := hr b hg
    exact type_no h.blk e (by decide) rfl
  · obtain ⟨cur, e⟩ := hr _ hg
    exact map_no e h.tm rfl
  · obtain ⟨cur, e⟩ := hr _ hg
    exact map_no e h.km rfl
  · obtain ⟨cur, e⟩ := hr g hg
    exact noc g _ _ e (by decide) (by decide)
theorem Sv.kept (h : Sv w b s cl x c) {L : List Nat} (k : Kl L w w') (hL : ∀ i, i ∈ L → i ∉ own x b) : Sv w' b s cl x c := by
  have hn : ∀ i, i ∈ own x b → i ∉ L := fun i hi hl => hL i hl hi
  have hbl : ∀ i, i ∈ own x b → w'.heap[i]? = w.heap[i]? := fun i hi => k.block i (h.lt i hi).1 (hn i hi)
  refine ⟨(hbl b (by simp [own])).trans h.blk, h.tm.kept (hbl _ (by simp [own])), h.tp, h.km.kept (hbl _ (by simp [own])), row_same h.row (fun g hg => hbl g ?_), h.ca.kept k (fun i hi ho => hL i hi ?_), h.cnt, h.hb, h.ht, h.hl, h.sep, h.ok, h.gc⟩
  · have := own_row.1 hg
    simp [own, this]
  · simp [own, ho]
theorem Sv.below (h : Sv w b s cl x c) (k : Below w.heap.size w w') : Sv w' b s cl x c := h.kept (L := []) (Kl.ofBelow k) (fun _ hx => by cases hx)
theorem Sv.mono (h : Sv w b s cl x c) {c' : Nat} (hc : c ≤ c') : Sv w b s cl x c' := ⟨h.blk, h.tm, h.tp, h.km, h.row, h.ca, ⟨h.cnt.1, Nat.le_trans h.cnt.2 hc⟩, h.hb, h.ht, h.hl, h.sep, h.ok, Nat.le_trans h.gc hc⟩
theorem Sv.c0 (h : Sv w b s cl x c) : w.cell? ⟨b, 0, none⟩ = some (.int .i64 (s.room : Int)) := cell_in h.blk 0
theorem Sv.c1 (h : Sv w b s cl x c) : w.cell? ⟨b, 1, none⟩ = some (.int .i64 (s.gens : Int)) := cell_in h.blk 1
theorem Sv.c2 (h : Sv w b s cl x c) : w.cell? ⟨b, 2, none⟩ = some (.map (some x.tb)) := cell_in h.blk 2
theorem Sv.c3 (h : Sv w b s cl x c) : w.cell? ⟨b, 3, none⟩ = some (.slice x.p cl.length x.cap) := cell_in h.blk 3
theorem Sv.c4 (h : Sv w b s cl x c) : w.cell? ⟨b, 4, none⟩ = some (.map (some x.lb)) := cell_in h.blk 4
theorem Sv.c5 (h : Sv w b s cl x c) : w.cell? ⟨b, 5, none⟩ = some (.pointer (some ⟨x.cb, 0, none⟩)) := cell_in h.blk 5
theorem Sv.fz (h : Sv w b s cl x c) (o : Nat) : w.frozen? ⟨b, o, none⟩ = false := free_in h.blk o
/-! What a map holds. -/
theorem Sv.tkeys (h : Sv w b s cl x c) : (∀ p ∈ x.tl.map tmP, I64 p.1) ∧ (x.tl.map tmP).Pairwise fun p q => p.1 ≠ q.1 := by
  have hm : ∀ t ∈ x.tl, TmOk s.gens t := fun t ht => h.ok.tm t (h.tp.mem_iff.1 ht)
  refine ⟨fun p hp => ?_, ?_⟩
  · obtain ⟨t, ht, rfl⟩ := List.mem_map.1 hp
    have := hm t ht
    have h1 := this.id0
    have h2 := this.id1
    exact ⟨by show -9223372036854775808 ≤ t.id; omega, by show t.id ≤ 9223372036854775807; omega⟩
  · rw [List.pairwise_map]
    have h1 : s.T.Pairwise fun t u => t.id ≠ u.id := h.ok.up.imp (fun {a b} g e => by rw [e] at g; omega)
    exact (h.tp.pairwise_iff (fun {a b} g e => g e.symm)).2 h1
theorem Sv.kkeys (hk : x.kl.Perm s.K) (h : Sv w b s cl x c) : (∀ p ∈ x.kl.map knP, I64 p.1) ∧ (x.kl.map knP).Pairwise fun p q => p.1 ≠ q.1 := by
  have hm : ∀ t ∈ x.kl, KnOk t := fun t ht => h.ok.kn t (hk.mem_iff.1 ht)
  refine ⟨fun p hp => ?_, ?_⟩
  · obtain ⟨t, ht, rfl⟩ := List.mem_map.1 hp
    exact (hm t ht).client
  · rw [List.pairwise_map]
    exact (hk.pairwise_iff (fun {a b} g e => g e.symm)).2 h.ok.apart
def zTm : Tm := ⟨0, 0, 0, 0, ⟨#[]⟩⟩
def zKn : Kn := ⟨0, 0, ⟨0, 0, 0⟩⟩
theorem mapT : Tryz.prog.underlying mt = some (.map 3 55) := Tryz.underlying102
theorem mapL : Tryz.prog.underlying ml = some (.map 3 150) := Tryz.underlying103
def valT (T : List Tm) (id : Int) : Tm := (find id T).getD zTm
def hasT (T : List Tm) (id : Int) : Bool := (find id T).isSome
theorem Sv.lookT (h : Sv w b s cl x c) {id : Int} (hid : i64 id) {W : World} (hW : W.heap[x.tb]? = w.heap[x.tb]?) : (Instr.lookup mt (.map (some x.tb)) (.int .i64 id) true).run Tryz.prog W = .ok (.tuple #[tmV (valT s.T id), .bool (hasT s.T id)]) W ∧
    (Instr.lookup mt (.map (some x.tb)) (.int .i64 id) false).run Tryz.prog W = .ok (tmV (valT s.T id)) W := by
  have hm : VMap W x.tb (x.tl.map tmP) := h.tm.kept hW
  obtain ⟨k1, k2⟩ := h.tkeys
  cases hf : find id s.T with
  | none =>
    have hn : ∀ p ∈ x.tl.map tmP, p.1 ≠ id := fun p hp => by
      obtain ⟨t, ht, rfl⟩ := List.mem_map.1 hp
      exact find_none hf t (h.tp.mem_iff.1 ht)
    unfold valT hasT
    rw [hf]
    exact ⟨vlook_none mapT Tryz.zeroValue55 hm k1 hid hn true, vlook_none mapT Tryz.zeroValue55 hm k1 hid hn false⟩
  | some t =>
    obtain ⟨h1, h2⟩ := find_some hf
    have hp : (id, tmV t) ∈ x.tl.map tmP := List.mem_map.2 ⟨t, h.tp.mem_iff.2 h1, by unfold tmP; rw [h2]⟩
    unfold valT hasT
    rw [hf]
    exact ⟨vlook_some mapT hm k1 k2 hp true, vlook_some mapT hm k1 k2 hp false⟩
def valK (K : List Kn) (c : Int) : Kn := (known c K).getD zKn
def hasK (K : List Kn) (c : Int) : Bool := (known c K).isSome
theorem Sv.lookK (h : Sv w b s cl x c) (hk : x.kl.Perm s.K) {id : Int} (hid : i64 id) {W : World} (hW : W.heap[x.lb]? = w.heap[x.lb]?) : (Instr.lookup ml (.map (some x.lb)) (.int .i64 id) true).run Tryz.prog W = .ok (.tuple #[knV (valK s.K id), .bool (hasK s.K id)]) W := by
  have hm : VMap W x.lb (x.kl.map knP) := h.km.kept hW
  obtain ⟨k1, k2⟩ := Sv.kkeys hk h
  cases hf : known id s.K with
  | none =>
    have hn : ∀ p ∈ x.kl.map knP, p.1 ≠ id := fun p hp => by
      obtain ⟨t, ht, rfl⟩ := List.mem_map.1 hp
      exact known_none hf t (hk.mem_iff.1 ht)
    unfold valK hasK
    rw [hf]
    exact vlook_none mapL Tryz.zeroValue150 hm k1 hid hn true
  | some t =>
    obtain ⟨h1, h2⟩ := known_some hf
    have hp : (id, knV t) ∈ x.kl.map knP := List.mem_map.2 ⟨t, hk.mem_iff.2 h1, by unfold knP; rw [h2]⟩
    unfold valK hasK
    rw [hf]
    exact vlook_some mapL hm k1 k2 hp true
/-! What is said behind a call. -/
structure Aft (w : World) (b : Nat) (x : Px) (w' : World) (s' : St) (cl' : List Int) (x' : Px) (c' : Nat) : Prop where
  sv : Sv w' b s' cl' x' c'
  kept : Kl (own x b) w w'
  own : ∀ k, k ∈ own x' b → k ∈ own x b ∨ w.heap.size ≤ k
  kl : x'.kl = x.kl
theorem Aft.refl (h : Sv w b s cl x c) : Aft w b x w s cl x c := ⟨h, Kl.refl _ _, fun _ hk => .inl hk, rfl⟩
end
end Go.Proofs.YtoihekgmomjhpaaGreatDoor
