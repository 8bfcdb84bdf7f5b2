/-
  Layer 8: texts laid into one (a claim has 60 files at most): SMath, SMap, SState, SCalls, STurn, SDue, SSet, SDone, SCancel, SFire, SAsk, SAsk2, SAsk3, SNew, SApply.
-/
import Derived.Test.YtiidhcpflplpiaaGreatDoorNList
import Derived.Test.YtiidhcpflplpiaaGreatDoorProg
import Derived.Lib.Hide
import Derived.Maps.Own
import Derived.MapKept
import Derived.WalkSpells
import Derived.WalkKit
import Derived.Test.YtiidhcpflplpiaaGreatDoorNAwake
import Derived.Lib.MinMax
import Derived.Laws.ResultCell
import Derived.Deep.RegionHeld3
import Derived.BigQuiet
import Derived.Deep.RegionLaw
import Derived.Maps.AppendAt
import Derived.OwnWalk
import Derived.Lib.AppendZeros
/-
  Layer 8 (no program): the service's timers as a list by ids, its clients in the order in which they came, and what an operation does to both.
-/
set_option linter.unusedVariables false
namespace Ste
open Crn Nxt

structure Tm where
  id : Int
  client : Int
  gen : Int
  due : Int
  cron : ByteArray
structure Rp where
  err : Int
  gen : Int
  due : Int
structure Kn where
  client : Int
  req : Int
  rp : Rp
structure OpN where
  kind : Int
  client : Int
  req : Int
  id : Int
  gen : Int
  occ : Int
  due : Int
  stamp : Int
  epoch : Int
  cron : ByteArray
structure St where
  room : Nat
  gens : Nat
  T : List Tm
  K : List Kn

theorem size_zero {s : ByteArray} : s = ByteArray.empty ↔ s.size = 0 := by
  constructor
  · rintro rfl; rfl
  · intro h
    apply ByteArray.ext
    apply Array.eq_empty_of_size_eq_zero
    exact h

/-- The first time of a text behind a second; 0: there is none. -/
noncomputable def afterN (s : ByteArray) (sec : Int) : Int := match parse s.data.toList with
  | some x => (nextN x sec).getD 0
  | none => 0
def badB (s : ByteArray) : Bool := (parse s.data.toList).isNone

def find (id : Int) (T : List Tm) : Option Tm := T.find? fun t => decide (t.id = id)
def away (id : Int) (T : List Tm) : List Tm := T.filter fun t => decide (t.id ≠ id)
def put (t : Tm) (T : List Tm) : List Tm := (T.filter fun u => decide (u.id < t.id)) ++ t :: T.filter fun u => decide (t.id < u.id)
def hasId (id : Int) (T : List Tm) : Prop := ∃ u ∈ T, u.id = id
/-- By ids, rising. -/
def Up (T : List Tm) : Prop := T.Pairwise fun t u => t.id < u.id

theorem find_some {id : Int} {T : List Tm} {t : Tm} (h : find id T = some t) : t ∈ T ∧ t.id = id := by
  refine ⟨List.mem_of_find?_eq_some h, ?_⟩
  have := List.find?_some h
  simpa using this
theorem find_none {id : Int} {T : List Tm} (h : find id T = none) : ∀ t ∈ T, t.id ≠ id := by
  intro t ht
  have := List.find?_eq_none.1 h t ht
  simpa using this
theorem Up.one {T : List Tm} (h : Up T) {t u : Tm} (ht : t ∈ T) (hu : u ∈ T) (e : t.id = u.id) : t = u := by
  obtain ⟨i, hi, rfl⟩ := List.mem_iff_getElem.1 ht
  obtain ⟨j, hj, rfl⟩ := List.mem_iff_getElem.1 hu
  rcases Nat.lt_trichotomy i j with g | g | g
  · have := List.pairwise_iff_getElem.1 h i j hi hj g; omega
  · subst g; rfl
  · have := List.pairwise_iff_getElem.1 h j i hj hi g; omega
theorem find_of {T : List Tm} (h : Up T) {t : Tm} (ht : t ∈ T) : find t.id T = some t := by
  cases hf : find t.id T with
  | none => exact absurd rfl (find_none hf t ht)
  | some u =>
    obtain ⟨h1, h2⟩ := find_some hf
    rw [h.one h1 ht h2]
theorem find_none_of {T : List Tm} {id : Int} (h : ∀ t ∈ T, t.id ≠ id) : find id T = none := by
  cases hf : find id T with
  | none => rfl
  | some u =>
    obtain ⟨h1, h2⟩ := find_some hf
    exact absurd h2 (h u h1)
theorem mem_away {id : Int} {T : List Tm} {t : Tm} : t ∈ away id T ↔ t ∈ T ∧ t.id ≠ id := by
  unfold away
  rw [List.mem_filter]
  simp
theorem away_up {id : Int} {T : List Tm} (h : Up T) : Up (away id T) := List.Pairwise.filter _ h
theorem away_none {id : Int} {T : List Tm} (h : ∀ t ∈ T, t.id ≠ id) : away id T = T := by
  unfold away
  rw [List.filter_eq_self]
  intro t ht
  simpa using h t ht
theorem mem_put {t u : Tm} {T : List Tm} (h : ∀ u ∈ T, u.id ≠ t.id) : u ∈ put t T ↔ u = t ∨ u ∈ T := by
  unfold put
  rw [List.mem_append, List.mem_cons, List.mem_filter, List.mem_filter]
  simp only [decide_eq_true_eq]
  constructor
  · rintro (⟨h1, _⟩ | rfl | ⟨h1, _⟩)
    · exact .inr h1
    · exact .inl rfl
    · exact .inr h1
  · rintro (rfl | h1)
    · exact .inr (.inl rfl)
    · have := h u h1
      rcases Int.lt_or_gt_of_ne this with g | g
      · exact .inl ⟨h1, g⟩
      · exact .inr (.inr ⟨h1, g⟩)
theorem put_up {t : Tm} {T : List Tm} (h : Up T) : Up (put t T) := by
  unfold put Up
  rw [List.pairwise_append]
  refine ⟨List.Pairwise.filter _ h, ?_, ?_⟩
  · rw [List.pairwise_cons]
    refine ⟨fun u hu => ?_, List.Pairwise.filter _ h⟩
    have := (List.mem_filter.1 hu).2
    simpa using this
  · intro u hu v hv
    have h1 := (List.mem_filter.1 hu).2
    simp only [decide_eq_true_eq] at h1
    rcases List.mem_cons.1 hv with rfl | g
    · exact h1
    · have h2 := (List.mem_filter.1 g).2
      simp only [decide_eq_true_eq] at h2
      omega
theorem Up.nodup {T : List Tm} (h : Up T) : T.Nodup := h.imp fun {a b} g e => by rw [e] at g; omega
theorem put_perm {t : Tm} {T : List Tm} (h : Up T) (hn : ∀ u ∈ T, u.id ≠ t.id) : (put t T).Perm (t :: T) := by
  rw [List.perm_ext_iff_of_nodup (put_up h).nodup (List.nodup_cons.2 ⟨fun g => hn t g rfl, h.nodup⟩)]
  intro u
  rw [mem_put hn, List.mem_cons]
theorem put_length {t : Tm} {T : List Tm} (h : Up T) (hn : ∀ u ∈ T, u.id ≠ t.id) : (put t T).length = T.length + 1 := by
  rw [(put_perm h hn).length_eq, List.length_cons]
theorem away_perm {T : List Tm} (h : Up T) {t : Tm} (ht : t ∈ T) : T.Perm (t :: away t.id T) := by
  rw [List.perm_ext_iff_of_nodup h.nodup (List.nodup_cons.2 ⟨fun g => (mem_away.1 g).2 rfl, (away_up h).nodup⟩)]
  intro u
  rw [List.mem_cons, mem_away]
  constructor
  · intro hu
    by_cases e : u.id = t.id
    · exact .inl (h.one hu ht e)
    · exact .inr ⟨hu, e⟩
  · rintro (rfl | ⟨g, _⟩)
    · exact ht
    · exact g
theorem away_length {T : List Tm} (h : Up T) {t : Tm} (ht : t ∈ T) : (away t.id T).length + 1 = T.length := by
  rw [(away_perm h ht).length_eq, List.length_cons]
/-- The document's ways to the same lists. -/
theorem away_split {A B : List Tm} {t : Tm} (h : Up (A ++ t :: B)) : A ++ B = away t.id (A ++ t :: B) := by
  unfold Up at h
  rw [List.pairwise_append, List.pairwise_cons] at h
  obtain ⟨h1, ⟨h2, h3⟩, h4⟩ := h
  unfold away
  rw [List.filter_append, List.filter_cons]
  have e1 : A.filter (fun u => decide (u.id ≠ t.id)) = A := by
    rw [List.filter_eq_self]
    intro u hu
    have := h4 u hu t (by simp)
    simp; omega
  have e2 : B.filter (fun u => decide (u.id ≠ t.id)) = B := by
    rw [List.filter_eq_self]
    intro u hu
    have := h2 u hu
    simp; omega
  rw [e1, e2]
  simp
theorem away_at {T : List Tm} (h : Up T) {i : Nat} (hi : i < T.length) : T.take i ++ T.drop (i + 1) = away T[i].id T := by
  have h1 : T.take i ++ T[i] :: T.drop (i + 1) = T := by rw [List.getElem_cons_drop, List.take_append_drop]
  have h2 : Up (T.take i ++ T[i] :: T.drop (i + 1)) := by rw [h1]; exact h
  have h3 := away_split h2
  rw [h1] at h3
  exact h3
theorem put_at {t : Tm} {T : List Tm} (h : Up T) {i : Nat} (hi : i ≤ T.length) (hlo : ∀ j (hj : j < i), T[j].id < t.id) (hhi : ∀ hj : i < T.length, t.id < T[i].id) : T.take i ++ t :: T.drop i = put t T := by
  have h2 := List.pairwise_iff_getElem.1 h
  have key : ∀ j (hj : j < T.length), i ≤ j → t.id < T[j].id := by
    intro j hj hij
    have h3 := hhi (by omega)
    rcases Nat.lt_or_ge i j with g | g
    · have := h2 i j (by omega) hj g; omega
    · obtain rfl : i = j := by omega
      exact h3
  have s1 : T.filter (fun u => decide (u.id < t.id)) = T.take i := by
    conv => lhs; rw [← List.take_append_drop i T, List.filter_append]
    have e1 : (T.take i).filter (fun u => decide (u.id < t.id)) = T.take i := by
      rw [List.filter_eq_self]
      intro u hu
      obtain ⟨j, hj, rfl⟩ := List.mem_iff_getElem.1 hu
      rw [List.length_take] at hj
      rw [List.getElem_take]
      have := hlo j (by omega)
      simpa using this
    have e2 : (T.drop i).filter (fun u => decide (u.id < t.id)) = [] := by
      rw [List.filter_eq_nil_iff]
      intro u hu
      obtain ⟨j, hj, rfl⟩ := List.mem_iff_getElem.1 hu
      rw [List.length_drop] at hj
      rw [List.getElem_drop]
      have := key (i + j) (by omega) (by omega)
      simp; omega
    rw [e1, e2, List.append_nil]
  have s2 : T.filter (fun u => decide (t.id < u.id)) = T.drop i := by
    conv => lhs; rw [← List.take_append_drop i T, List.filter_append]
    have e1 : (T.take i).filter (fun u => decide (t.id < u.id)) = [] := by
      rw [List.filter_eq_nil_iff]
      intro u hu
      obtain ⟨j, hj, rfl⟩ := List.mem_iff_getElem.1 hu
      rw [List.length_take] at hj
      rw [List.getElem_take]
      have := hlo j (by omega)
      simp; omega
    have e2 : (T.drop i).filter (fun u => decide (t.id < u.id)) = T.drop i := by
      rw [List.filter_eq_self]
      intro u hu
      obtain ⟨j, hj, rfl⟩ := List.mem_iff_getElem.1 hu
      rw [List.length_drop] at hj
      rw [List.getElem_drop]
      have := key (i + j) (by omega) (by omega)
      simpa using this
    rw [e1, e2, List.nil_append]
  unfold put
  rw [s1, s2]

/-! Clients. -/
def known (c : Int) (K : List Kn) : Option Kn := K.find? fun k => decide (k.client = c)
def renew (k : Kn) (K : List Kn) : List Kn := K.map fun j => if j.client = k.client then k else j
def Apart (K : List Kn) : Prop := K.Pairwise fun j k => j.client ≠ k.client
theorem known_some {c : Int} {K : List Kn} {k : Kn} (h : known c K = some k) : k ∈ K ∧ k.client = c := by
  refine ⟨List.mem_of_find?_eq_some h, ?_⟩
  have := List.find?_some h
  simpa using this
theorem known_none {c : Int} {K : List Kn} (h : known c K = none) : ∀ k ∈ K, k.client ≠ c := by
  intro k hk
  have := List.find?_eq_none.1 h k hk
  simpa using this
theorem Apart.one {K : List Kn} (h : Apart K) {j k : Kn} (hj : j ∈ K) (hk : k ∈ K) (e : j.client = k.client) : j = k := by
  obtain ⟨i, hi, rfl⟩ := List.mem_iff_getElem.1 hj
  obtain ⟨i2, hi2, rfl⟩ := List.mem_iff_getElem.1 hk
  rcases Nat.lt_trichotomy i i2 with g | g | g
  · exact absurd e (List.pairwise_iff_getElem.1 h i i2 hi hi2 g)
  · subst g; rfl
  · exact absurd e.symm (List.pairwise_iff_getElem.1 h i2 i hi2 hi g)
theorem known_of {K : List Kn} (h : Apart K) {k : Kn} (hk : k ∈ K) : known k.client K = some k := by
  cases hf : known k.client K with
  | none => exact absurd rfl (known_none hf k hk)
  | some u =>
    obtain ⟨h1, h2⟩ := known_some hf
    rw [h.one h1 hk h2]
theorem known_none_of {K : List Kn} {c : Int} (h : ∀ k ∈ K, k.client ≠ c) : known c K = none := by
  cases hf : known c K with
  | none => rfl
  | some u =>
    obtain ⟨h1, h2⟩ := known_some hf
    exact absurd h2 (h u h1)
theorem renew_clients (k : Kn) (K : List Kn) : (renew k K).map (·.client) = K.map (·.client) := by
  unfold renew
  rw [List.map_map]
  apply List.map_congr_left
  intro j _
  simp only [Function.comp]
  split
  · rename_i e; exact e.symm
  · rfl
theorem apart_iff {K : List Kn} : Apart K ↔ (K.map (·.client)).Nodup := by
  unfold Apart List.Nodup
  rw [List.pairwise_map]
theorem renew_apart {k : Kn} {K : List Kn} (h : Apart K) : Apart (renew k K) := by
  rw [apart_iff, renew_clients]
  exact apart_iff.1 h
theorem mem_renew {k j : Kn} {K : List Kn} : j ∈ renew k K → j = k ∨ (j ∈ K ∧ j.client ≠ k.client) := by
  intro h
  obtain ⟨i, hi, rfl⟩ := List.mem_map.1 h
  split
  · exact .inl rfl
  · rename_i e; exact .inr ⟨hi, e⟩

/-! What an operation does. -/
def settableB (o : OpN) : Bool := decide (0 ≤ o.id) && decide (o.id ≤ 1000) && decide (0 ≤ o.due) && decide (o.due ≤ if o.cron.size = 0 then 1099511627776 else 0)
noncomputable def dueN (o : OpN) : Int := if o.cron.size = 0 then o.due else afterN o.cron o.stamp
noncomputable def setN (s : St) (o : OpN) : St × Rp :=
  if settableB o = false then (s, ⟨1, 0, 0⟩)
  else if o.cron.size ≠ 0 ∧ badB o.cron = true then (s, ⟨7, 0, 0⟩)
  else if find o.id s.T = none ∧ s.room ≤ s.T.length then (s, ⟨5, 0, 0⟩)
  else ({ s with gens := s.gens + 1, T := put ⟨o.id, o.client, (s.gens + 1 : Nat), dueN o, o.cron⟩ (away o.id s.T) }, ⟨0, (s.gens + 1 : Nat), dueN o⟩)
def cancelN (s : St) (o : OpN) : St × Rp := match find o.id s.T with
  | none => (s, ⟨6, 0, 0⟩)
  | some t => ({ s with T := away o.id s.T }, ⟨0, t.gen, t.due⟩)
noncomputable def changeN (s : St) (o : OpN) : St × Rp := if o.kind = 1 then setN s o else cancelN s o
noncomputable def askN (s : St) (o : OpN) : St × Rp := match known o.client s.K with
  | some k => if o.req < k.req then (s, ⟨11, 0, 0⟩) else if k.req = o.req then (s, k.rp)
      else ({ (changeN s o).1 with K := renew ⟨o.client, o.req, (changeN s o).2⟩ s.K }, (changeN s o).2)
  | none => if 3 ≤ s.K.length then (s, ⟨8, 0, 0⟩)
      else ({ (changeN s o).1 with K := s.K ++ [⟨o.client, o.req, (changeN s o).2⟩] }, (changeN s o).2)
def firesB (s : St) (o : OpN) : Bool := decide (o.kind = 3) && match find o.id s.T with
  | none => false
  | some t => decide (t.gen = o.gen) && decide (t.due = o.occ) && decide (0 < o.occ) && decide (o.occ ≤ o.stamp)
noncomputable def fireN (s : St) (o : OpN) : St × Rp :=
  if firesB s o = false then (s, ⟨6, 0, 0⟩)
  else match find o.id s.T with
  | none => (s, ⟨6, 0, 0⟩)
  | some t => ({ s with T := if t.cron.size = 0 then away o.id s.T else put { t with due := afterN t.cron (max o.occ o.stamp) } (away o.id s.T) }, ⟨0, o.gen, o.occ⟩)
noncomputable def applyN (s : St) (o : OpN) : St × Rp :=
  if o.kind = 1 ∨ o.kind = 2 then askN s o else if o.kind = 3 then fireN s o else (s, ⟨1, 0, 0⟩)
noncomputable def runN : St → List OpN → St
  | s, [] => s
  | s, o :: l => runN (applyN s o).1 l
def newN (timers : Int) : St := ⟨(min (max timers 1) 16).toNat, 0, [], []⟩

def i64 (a : Int) : Prop := -9223372036854775808 ≤ a ∧ a ≤ 9223372036854775807
/-- An operation that may be played. -/
structure OpOk (o : OpN) : Prop where
  kind : i64 o.kind
  client : i64 o.client
  req : i64 o.req
  id : i64 o.id
  gen : i64 o.gen
  occ : i64 o.occ
  due : i64 o.due
  stamp : i64 o.stamp
  epoch : i64 o.epoch
  cron : o.cron.size ≤ 400
structure TmOk (g : Nat) (t : Tm) : Prop where
  id0 : 0 ≤ t.id
  id1 : t.id ≤ 1000
  client : i64 t.client
  gen0 : 1 ≤ t.gen
  gen1 : t.gen ≤ g
  due : i64 t.due
  cron : t.cron.size ≤ 400
structure RpOk (r : Rp) : Prop where
  err : i64 r.err
  gen : i64 r.gen
  due : i64 r.due
structure KnOk (k : Kn) : Prop where
  client : i64 k.client
  req : i64 k.req
  rp : RpOk k.rp
structure Ok (s : St) : Prop where
  room0 : 1 ≤ s.room
  room1 : s.room ≤ 16
  up : Up s.T
  full : s.T.length ≤ s.room
  apart : Apart s.K
  few : s.K.length ≤ 3
  tm : ∀ t ∈ s.T, TmOk s.gens t
  kn : ∀ k ∈ s.K, KnOk k
  gens : s.gens ≤ 1000000

theorem afterN_range (s : ByteArray) (sec : Int) : 0 ≤ afterN s sec ∧ afterN s sec ≤ 253402300799 := by
  unfold afterN
  split
  · rename_i x _
    cases h : nextN x sec with
    | none => simp
    | some a =>
      have := nextN_range h
      have h2 : last = 253402300799 := rfl
      simp only [Option.getD_some]
      omega
  · simp
theorem new_ok (timers : Int) : Ok (newN timers) := by
  refine ⟨?_, ?_, List.Pairwise.nil, Nat.zero_le _, List.Pairwise.nil, Nat.zero_le _, (fun t h => by cases h), (fun t h => by cases h), Nat.zero_le _⟩
  · show 1 ≤ (min (max timers 1) 16).toNat; omega
  · show (min (max timers 1) 16).toNat ≤ 16; omega
theorem TmOk.mono {g h : Nat} {t : Tm} (k : TmOk g t) (hh : g ≤ h) : TmOk h t := ⟨k.id0, k.id1, k.client, k.gen0, by have := k.gen1; omega, k.due, k.cron⟩
theorem dueN_range {o : OpN} (h : settableB o = true) : 0 ≤ dueN o ∧ dueN o ≤ 1099511627776 := by
  unfold dueN
  unfold settableB at h
  simp only [Bool.and_eq_true, decide_eq_true_eq] at h
  split
  · rename_i e; rw [if_pos e] at h; exact ⟨h.1.2, h.2⟩
  · have := afterN_range o.cron o.stamp; omega
theorem settable_id {o : OpN} (h : settableB o = true) : 0 ≤ o.id ∧ o.id ≤ 1000 := by
  unfold settableB at h
  simp only [Bool.and_eq_true, decide_eq_true_eq] at h
  exact ⟨h.1.1.1, h.1.1.2⟩

/-- Timers and what is answered behind a change. -/
structure Chg (s : St) (p : St × Rp) : Prop where
  room : p.1.room = s.room
  K : p.1.K = s.K
  gens0 : s.gens ≤ p.1.gens
  gens1 : p.1.gens ≤ s.gens + 1
  up : Up p.1.T
  full : p.1.T.length ≤ s.room
  tm : ∀ t ∈ p.1.T, TmOk p.1.gens t
  rp : RpOk p.2
theorem Chg.none {s : St} (h : Ok s) (e : Int) (he : i64 e) : Chg s (s, ⟨e, 0, 0⟩) := ⟨rfl, rfl, Nat.le_refl _, Nat.le_succ _, h.up, h.full, h.tm, ⟨he, ⟨by simp, by simp⟩, ⟨by simp, by simp⟩⟩⟩
theorem i64_small {a : Int} (h1 : -1000000000000000000 ≤ a) (h2 : a ≤ 1000000000000000000) : i64 a := ⟨by omega, by omega⟩
theorem set_chg {s : St} (h : Ok s) {o : OpN} (ho : OpOk o) : Chg s (setN s o) := by
  unfold setN
  split
  · exact Chg.none h 1 (i64_small (by omega) (by omega))
  rename_i h1
  have h1 : settableB o = true := by simpa using h1
  split
  · exact Chg.none h 7 (i64_small (by omega) (by omega))
  split
  · exact Chg.none h 5 (i64_small (by omega) (by omega))
  rename_i h3
  have hd := dueN_range h1
  have hi := settable_id h1
  have hg := h.gens
  have hn : ∀ u ∈ away o.id s.T, u.id ≠ o.id := fun u hu => (mem_away.1 hu).2
  refine ⟨rfl, rfl, Nat.le_succ _, Nat.le_refl _, put_up (away_up h.up), ?_, ?_, ⟨i64_small (by simp) (by simp), i64_small (by simp; omega) (by simp; omega), i64_small (by simp only []; omega) (by simp only []; omega)⟩⟩
  · show (put _ _).length ≤ s.room
    rw [put_length (away_up h.up) hn]
    cases hf : find o.id s.T with
    | none =>
      rw [away_none (find_none hf)]
      have : ¬ s.room ≤ s.T.length := fun g => h3 ⟨hf, g⟩
      omega
    | some t =>
      obtain ⟨g1, g2⟩ := find_some hf
      have := away_length h.up g1
      rw [g2] at this
      have := h.full
      omega
  · intro t ht
    rcases (mem_put hn).1 ht with rfl | g
    · exact ⟨hi.1, hi.2, ho.client, by simp only []; omega, by simp only []; omega, i64_small (by simp only []; omega) (by simp only []; omega), ho.cron⟩
    · exact (h.tm t (mem_away.1 g).1).mono (Nat.le_succ _)
theorem cancel_chg {s : St} (h : Ok s) {o : OpN} (ho : OpOk o) : Chg s (cancelN s o) := by
  unfold cancelN
  split
  · exact Chg.none h 6 (i64_small (by omega) (by omega))
  rename_i t ht
  obtain ⟨g1, g2⟩ := find_some ht
  have hl := away_length h.up g1
  rw [g2] at hl
  have hf := h.full
  have ht := h.tm t g1
  have hg := h.gens
  refine ⟨rfl, rfl, Nat.le_refl _, Nat.le_succ _, away_up h.up, by show (away o.id s.T).length ≤ s.room; omega, fun u hu => h.tm u (mem_away.1 hu).1, ⟨i64_small (by simp) (by simp), i64_small (by have := ht.gen0; simp only []; omega) (by have := ht.gen1; simp only []; omega), ht.due⟩⟩
theorem change_chg {s : St} (h : Ok s) {o : OpN} (ho : OpOk o) : Chg s (changeN s o) := by
  unfold changeN
  split
  · exact set_chg h ho
  · exact cancel_chg h ho
theorem Chg.ok {s : St} {p : St × Rp} (h : Ok s) (k : Chg s p) (hg : p.1.gens ≤ 1000000) : Ok p.1 :=
  ⟨by rw [k.room]; exact h.room0, by rw [k.room]; exact h.room1, k.up, by rw [k.room]; exact k.full, by rw [k.K]; exact h.apart, by rw [k.K]; exact h.few, k.tm, by rw [k.K]; exact h.kn, hg⟩
/-- What an operation leaves is as it should be. -/
theorem apply_ok {s : St} (h : Ok s) {o : OpN} (ho : OpOk o) (hg : s.gens < 1000000) : Ok (applyN s o).1 ∧ RpOk (applyN s o).2 ∧ (applyN s o).1.room = s.room ∧ s.gens ≤ (applyN s o).1.gens ∧ (applyN s o).1.gens ≤ s.gens + 1 := by
  have hz : ∀ e : Int, i64 e → RpOk ⟨e, 0, 0⟩ := fun e he => ⟨he, ⟨by simp, by simp⟩, ⟨by simp, by simp⟩⟩
  have hc := change_chg h ho
  unfold applyN
  split
  · unfold askN
    split
    · rename_i k hk
      obtain ⟨k1, k2⟩ := known_some hk
      split
      · exact ⟨h, hz 11 (i64_small (by omega) (by omega)), rfl, Nat.le_refl _, Nat.le_succ _⟩
      split
      · exact ⟨h, (h.kn k k1).rp, rfl, Nat.le_refl _, Nat.le_succ _⟩
      · refine ⟨⟨by have := h.room0; rw [← hc.room] at this; exact this, by have := h.room1; rw [← hc.room] at this; exact this, hc.up, by rw [show ({ (changeN s o).1 with K := renew ⟨o.client, o.req, (changeN s o).2⟩ s.K } : St).room = s.room from hc.room]; exact hc.full, renew_apart h.apart, by show (renew _ _).length ≤ 3; unfold renew; rw [List.length_map]; exact h.few, hc.tm, ?_, ?_⟩, hc.rp, hc.room, hc.gens0, hc.gens1⟩
        · intro j hj
          rcases mem_renew hj with rfl | ⟨g, _⟩
          · exact ⟨ho.client, ho.req, hc.rp⟩
          · exact h.kn j g
        · have := hc.gens1; show (changeN s o).1.gens ≤ _; omega
    · rename_i hk
      split
      · exact ⟨h, hz 8 (i64_small (by omega) (by omega)), rfl, Nat.le_refl _, Nat.le_succ _⟩
      · rename_i hl
        refine ⟨⟨by have := h.room0; rw [← hc.room] at this; exact this, by have := h.room1; rw [← hc.room] at this; exact this, hc.up, by rw [show ({ (changeN s o).1 with K := s.K ++ [⟨o.client, o.req, (changeN s o).2⟩] } : St).room = s.room from hc.room]; exact hc.full, ?_, ?_, hc.tm, ?_, ?_⟩, hc.rp, hc.room, hc.gens0, hc.gens1⟩
        · show Apart (s.K ++ _)
          unfold Apart
          rw [List.pairwise_append]
          exact ⟨h.apart, by simp, fun j hj k hk2 => by simp only [List.mem_singleton] at hk2; subst hk2; exact known_none hk j hj⟩
        · show (s.K ++ _).length ≤ 3
          rw [List.length_append]
          simp
          omega
        · intro j hj
          rcases List.mem_append.1 hj with g | g
          · exact h.kn j g
          · simp only [List.mem_singleton] at g
            subst g
            exact ⟨ho.client, ho.req, hc.rp⟩
        · have := hc.gens1; show (changeN s o).1.gens ≤ _; omega
  split
  · unfold fireN
    split
    · exact ⟨h, hz 6 (i64_small (by omega) (by omega)), rfl, Nat.le_refl _, Nat.le_succ _⟩
    split
    · exact ⟨h, hz 6 (i64_small (by omega) (by omega)), rfl, Nat.le_refl _, Nat.le_succ _⟩
    · rename_i t ht
      obtain ⟨g1, g2⟩ := find_some ht
      have hl := away_length h.up g1
      rw [g2] at hl
      have hf := h.full
      have hn : ∀ u ∈ away o.id s.T, u.id ≠ o.id := fun u hu => (mem_away.1 hu).2
      have hn2 : ∀ u ∈ away o.id s.T, u.id ≠ ({ t with due := afterN t.cron (max o.occ o.stamp) } : Tm).id := fun u hu => by show u.id ≠ t.id; rw [g2]; exact hn u hu
      have hok := h.tm t g1
      refine ⟨⟨h.room0, h.room1, ?_, ?_, h.apart, h.few, ?_, h.kn, h.gens⟩, ⟨i64_small (by simp) (by simp), ho.gen, ho.occ⟩, rfl, Nat.le_refl _, Nat.le_succ _⟩
      · show Up (if _ then _ else _)
        split
        · exact away_up h.up
        · exact put_up (away_up h.up)
      · show (if _ then _ else _ : List Tm).length ≤ s.room
        split
        · omega
        · rw [put_length (away_up h.up) hn2]; omega
      · intro u hu
        have hu2 : u ∈ (if t.cron.size = 0 then away o.id s.T else put { t with due := afterN t.cron (max o.occ o.stamp) } (away o.id s.T)) := hu
        by_cases hc : t.cron.size = 0
        · rw [if_pos hc] at hu2
          exact h.tm u (mem_away.1 hu2).1
        · rw [if_neg hc] at hu2
          rcases (mem_put hn2).1 hu2 with rfl | g
          · have := afterN_range t.cron (max o.occ o.stamp)
            exact ⟨hok.id0, hok.id1, hok.client, hok.gen0, hok.gen1, i64_small (by simp only []; omega) (by simp only []; omega), hok.cron⟩
          · exact h.tm u (mem_away.1 g).1
  · exact ⟨h, hz 1 (i64_small (by omega) (by omega)), rfl, Nat.le_refl _, Nat.le_succ _⟩
theorem run_ok {l : List OpN} : ∀ {s : St}, Ok s → (∀ o ∈ l, OpOk o) → s.gens + l.length ≤ 1000000 → Ok (runN s l) ∧ (runN s l).room = s.room ∧ s.gens ≤ (runN s l).gens ∧ (runN s l).gens ≤ s.gens + l.length := by
  induction l with
  | nil => exact fun h _ _ => ⟨h, rfl, Nat.le_refl _, Nat.le_refl _⟩
  | cons o l ih =>
    intro s h ho hg
    simp only [List.length_cons] at hg ⊢
    obtain ⟨a1, a2, a3, a4, a5⟩ := apply_ok h (ho o (List.mem_cons_self ..)) (by omega)
    obtain ⟨b1, b2, b3, b4⟩ := ih a1 (fun p hp => ho p (List.mem_cons_of_mem _ hp)) (by omega)
    exact ⟨b1, b2.trans a3, by show s.gens ≤ (runN (applyN s o).1 l).gens; omega, by show (runN (applyN s o).1 l).gens ≤ _; omega⟩
theorem run_snoc (s : St) (l : List OpN) (o : OpN) : runN s (l ++ [o]) = (applyN (runN s l) o).1 := by
  induction l generalizing s with
  | nil => rfl
  | cons p l ih => exact ih _
end Ste

/-
  Layer 8: a map with numbers as keys in memory, as a list of pairs: looked up, written, taken from.
-/
set_option linter.unusedVariables false
namespace Go.Proofs.YtiidhcpflplpiaaGreatDoor
open Go.RowKit Go.ChangeMaps Go.MapKept

theorem vkeyed : Go.Maps.Keyed Tryz.prog 3 := Go.Maps.int_keyed Tryz.underlying3
theorem vwf {a : Int} (h1 : -9223372036854775808 ≤ a) (h2 : a ≤ 9223372036854775807) : (Lit.int .i64 a).wf = true := by
  simp [Lit.wf]
  exact ⟨by show (-9223372036854775808 : Int) ≤ a; exact h1, h2⟩
def I64 (a : Int) : Prop := -9223372036854775808 ≤ a ∧ a ≤ 9223372036854775807
theorem vkey {a : Int} (h : I64 a) : keyOf Tryz.prog 3 (.int .i64 a) = some (.int .i64 a) := Go.Maps.keyOf_int_mk Tryz.underlying3 (vwf h.1 h.2)
/-- The block mb is a map of these keys and values. -/
def VMap (w : World) (mb : Nat) (t : List (Int × Value)) : Prop :=
  ∃ es clock, w.heap[mb]? = some (.map es clock) ∧ Stamped es clock ∧ es.toList.map (fun e => (e.key, e.val)) = t.map fun p => (Value.int .i64 p.1, p.2)
theorem VMap.kept {w w' : World} {mb : Nat} {t : List (Int × Value)} (h : VMap w mb t) (k : w'.heap[mb]? = w.heap[mb]?) : VMap w' mb t := by
  obtain ⟨es, clock, h1, h2, h3⟩ := h
  exact ⟨es, clock, k.trans h1, h2, h3⟩
theorem VMap.lt {w : World} {mb : Nat} {t : List (Int × Value)} (h : VMap w mb t) : mb < w.heap.size := by
  obtain ⟨es, clock, h1, _⟩ := h
  exact (Array.getElem?_eq_some_iff.1 h1).1
theorem VMap.made (w : World) : VMap (w.alloc (.map #[] 0)) w.heap.size [] := ⟨#[], 0, (MapKept.heap_alloc w _).1, stamped_empty 0, rfl⟩
theorem VMap.len {T E : TypeId} (hT : Tryz.prog.underlying T = some (.map 3 E)) {w : World} {mb : Nat} {t : List (Int × Value)} (h : VMap w mb t) (ty : TypeId) : (Builtin.len_ #[T] ty #[.map (some mb)]).run Tryz.prog w = .ok (.int .i64 t.length) w := by
  obtain ⟨es, clock, h1, _, h2⟩ := h
  have e : es.size = t.length := by
    have := congrArg List.length h2
    simpa using this
  simp [Builtin.len_, run_underlying hT, MapKept.run_getObj_map h1, goInt, Result.andThen, e]
theorem vmap_keys {t : List (Int × Value)} {es : Array MapEntry} (hl : ∀ p ∈ t, I64 p.1) (he : es.toList.map (fun e => (e.key, e.val)) = t.map fun p => (Value.int .i64 p.1, p.2)) :
    (∀ e ∈ es.toList, ∃ k, keyOf Tryz.prog 3 e.key = some k) ∧ ∀ e ∈ es.toList, ∃ p ∈ t, e.key = .int .i64 p.1 ∧ e.val = p.2 := by
  have h2 : ∀ e ∈ es.toList, ∃ p ∈ t, e.key = .int .i64 p.1 ∧ e.val = p.2 := fun e h => by
    have : (e.key, e.val) ∈ t.map fun p => (Value.int .i64 p.1, p.2) := by
      rw [← he]
      exact List.mem_map.2 ⟨e, h, rfl⟩
    obtain ⟨p, hp, e1⟩ := List.mem_map.1 this
    injection e1 with a b
    exact ⟨p, hp, a.symm, b.symm⟩
  refine ⟨fun e h => ?_, h2⟩
  obtain ⟨p, hp, e1, _⟩ := h2 e h
  rw [e1]
  exact ⟨_, vkey (hl p hp)⟩
theorem vinj {a b : Int} (h : (Value.int .i64 a) = .int .i64 b) : a = b := by injection h
/-- What is found at a key. -/
theorem vfind {w : World} {mb : Nat} {t : List (Int × Value)} (hl : ∀ p ∈ t, I64 p.1) (hk : t.Pairwise fun p q => p.1 ≠ q.1) {es : Array MapEntry} (he : es.toList.map (fun e => (e.key, e.val)) = t.map fun p => (Value.int .i64 p.1, p.2)) {id : Int} {v : Value} (hp : (id, v) ∈ t) :
    ∃ j, ∃ hj : j < t.length, ∃ e0, t[j] = (id, v) ∧ j < es.size ∧ (Instr.findKey 3 (.int .i64 id) es.toList).run Tryz.prog w = .ok (some (j, v)) w ∧ es[j]? = some e0 ∧ e0.key = .int .i64 id := by
  obtain ⟨k1, k2⟩ := vmap_keys hl he
  have hkey := vkey (hl _ hp)
  rcases vkeyed.find w hkey es.toList k1 with ⟨f1, f2⟩ | ⟨j, e0, f1, f2, f3⟩
  · have : (Value.int .i64 id, v) ∈ es.toList.map (fun e => (e.key, e.val)) := by
      rw [he]
      exact List.mem_map.2 ⟨_, hp, rfl⟩
    obtain ⟨x, hx, ex⟩ := List.mem_map.1 this
    injection ex with a _
    exact absurd a (f2 x hx)
  · have hj : j < es.size := by
      have := (List.getElem?_eq_some_iff.1 f2).1
      simpa using this
    have hlen : es.toList.length = t.length := by
      have := congrArg List.length he
      simpa using this
    have hjt : j < t.length := by rw [← hlen]; simpa using hj
    have hat : t[j] = (id, v) ∧ e0.val = v := by
      have h1 := congrArg (·[j]?) he
      simp only [List.getElem?_map, f2, List.getElem?_eq_getElem hjt, Option.map_some] at h1
      injection h1 with h1
      injection h1 with h2 h3
      rw [f3] at h2
      have hid2 : t[j].1 = id := (vinj h2).symm
      obtain ⟨i2, hi2, e3⟩ := List.mem_iff_getElem.1 hp
      rcases Nat.lt_trichotomy j i2 with g | g | g
      · exact absurd (by rw [e3]; exact hid2) (List.pairwise_iff_getElem.1 hk j i2 hjt hi2 g)
      · subst g; exact ⟨e3, by rw [h3, e3]⟩
      · exact absurd (by rw [e3]; exact hid2.symm) (List.pairwise_iff_getElem.1 hk i2 j hi2 hjt g)
    exact ⟨j, hjt, e0, hat.1, hj, by rw [f1, hat.2], by rw [← Array.getElem?_toList]; exact f2, f3⟩
theorem vfind_none {w : World} {t : List (Int × Value)} (hl : ∀ p ∈ t, I64 p.1) {es : Array MapEntry} (he : es.toList.map (fun e => (e.key, e.val)) = t.map fun p => (Value.int .i64 p.1, p.2)) {id : Int} (hid : I64 id) (hn : ∀ p ∈ t, p.1 ≠ id) :
    (Instr.findKey 3 (.int .i64 id) es.toList).run Tryz.prog w = .ok none w := by
  obtain ⟨k1, k2⟩ := vmap_keys hl he
  rcases vkeyed.find w (vkey hid) es.toList k1 with ⟨f1, f2⟩ | ⟨j, e0, f1, f2, f3⟩
  · exact f1
  · obtain ⟨p, hp, e1, e2⟩ := k2 e0 (List.mem_of_getElem? f2)
    rw [f3] at e1
    exact absurd (vinj e1).symm (hn p hp)
theorem vstays (w : World) (x : Int) : (Instr.keyThatStays (.int .i64 x) (.int .i64 x)).run Tryz.prog w = .ok (.int .i64 x) w := by
  have h : Instr.sameBits 10000 (.int .i64 x) (.int .i64 x) = true := by
    unfold Instr.sameBits
    simp
  simp [Instr.keyThatStays, h]
theorem vmake (T : TypeId) (W : World) : (Instr.makeMap T none).run Tryz.prog W = .ok (.map (some W.heap.size)) (W.alloc (.map #[] 0)) := by
  simp [Instr.makeMap, Result.andThen, go_sem]
section
variable {T E : TypeId} (hT : Tryz.prog.underlying T = some (.map 3 E))
include hT
theorem vlook_none {z : Value} (hz : ∀ w, (zeroValue E).run Tryz.prog w = .ok z w) {w : World} {mb : Nat} {t : List (Int × Value)} (hm : VMap w mb t) (hl : ∀ p ∈ t, I64 p.1) {id : Int} (hid : I64 id) (hn : ∀ p ∈ t, p.1 ≠ id) (b : Bool) :
    (Instr.lookup T (.map (some mb)) (.int .i64 id) b).run Tryz.prog w = .ok (if b then .tuple #[z, .bool false] else z) w := by
  obtain ⟨es, clock, hb, hst, he⟩ := hm
  simp [Instr.lookup, run_underlying hT, MapKept.run_getObj_map hb, vkeyed.check w _ (vkey hid), vfind_none hl he hid hn, Result.andThen, hz]
theorem vlook_some {w : World} {mb : Nat} {t : List (Int × Value)} (hm : VMap w mb t) (hl : ∀ p ∈ t, I64 p.1) (hk : t.Pairwise fun p q => p.1 ≠ q.1) {id : Int} {v : Value} (hp : (id, v) ∈ t) (b : Bool) :
    (Instr.lookup T (.map (some mb)) (.int .i64 id) b).run Tryz.prog w = .ok (if b then .tuple #[v, .bool true] else v) w := by
  obtain ⟨es, clock, hb, hst, he⟩ := hm
  obtain ⟨j, hj, e0, h1, h2, h3, h4, h5⟩ := vfind (w := w) (mb := mb) hl hk he hp
  simp [Instr.lookup, run_underlying hT, MapKept.run_getObj_map hb, vkeyed.check w _ (vkey (hl _ hp)), h3, Result.andThen]
theorem vinsert {w : World} {mb : Nat} {t : List (Int × Value)} (hm : VMap w mb t) (hl : ∀ p ∈ t, I64 p.1) {id : Int} (v : Value) (hid : I64 id) (hn : ∀ p ∈ t, p.1 ≠ id) :
    ∃ w', (Instr.mapUpdate T (.map (some mb)) (.int .i64 id) v).run Tryz.prog w = .ok () w' ∧ VMap w' mb (t ++ [(id, v)]) ∧ w.grownBy w' (some mb) ∧ w'.heap.size = w.heap.size := by
  obtain ⟨es, clock, hb, hst, he⟩ := hm
  have hnk : ∀ e ∈ es.toList, e.key ≠ .int .i64 id := fun e he2 hek => by
    obtain ⟨p, hp, e1, _⟩ := (vmap_keys hl he).2 e he2
    rw [e1] at hek
    exact hn p hp (vinj hek)
  refine ⟨setBlock w mb (.map (es.push ⟨.int .i64 id, v, clock⟩) (clock + 1)), ?_, ⟨_, _, heap_setBlock_same hb _, stamped_push hst hnk, ?_⟩, ⟨rfl, rfl, rfl, by simp [setBlock], fun k _ hk => heap_setBlock_other hb _ (fun e => hk (by rw [e]))⟩, by simp [setBlock]⟩
  · simp [Instr.mapUpdate, run_underlying hT, MapKept.run_getObj_map hb, vkeyed.check w false (vkey hid), vfind_none hl he hid hn, MapKept.run_setObj_map _ hb, Result.andThen, setBlock]
  · simp [he]
theorem vupdate {w : World} {mb : Nat} {t : List (Int × Value)} (hm : VMap w mb t) (hl : ∀ p ∈ t, I64 p.1) (hk : t.Pairwise fun p q => p.1 ≠ q.1) {id : Int} {v : Value} (hp : (id, v) ∈ t) (v2 : Value) :
    ∃ w', (Instr.mapUpdate T (.map (some mb)) (.int .i64 id) v2).run Tryz.prog w = .ok () w' ∧ VMap w' mb (t.map fun p => if p.1 = id then (id, v2) else p) ∧ w.grownBy w' (some mb) ∧ w'.heap.size = w.heap.size := by
  obtain ⟨es, clock, hb, hst, he⟩ := hm
  obtain ⟨j, hj, e0, h1, h2, h3, h4, h5⟩ := vfind (w := w) (mb := mb) hl hk he hp
  have hsm : Stamped (es.modify j fun e => { e with key := .int .i64 id, val := v2 }) clock := stamped_modify hst _ _ (fun _ _ => rfl) (fun e' _ he' => by
    have e9 : e0 = e' := Option.some.inj (h4.symm.trans he')
    show Value.int .i64 id = e'.key
    rw [← e9]
    exact h5.symm)
  refine ⟨setBlock w mb (.map (es.modify j fun e => { e with key := .int .i64 id, val := v2 }) clock), ?_, ⟨_, _, heap_setBlock_same hb _, hsm, ?_⟩, ⟨rfl, rfl, rfl, by simp [setBlock], fun k _ hk => heap_setBlock_other hb _ (fun e => hk (by rw [e]))⟩, by simp [setBlock]⟩
  · simp [Instr.mapUpdate, run_underlying hT, MapKept.run_getObj_map hb, vkeyed.check w false (vkey (hl _ hp)), h3, h4, h5, vstays, MapKept.run_setObj_map _ hb, Result.andThen, setBlock]
  · apply List.ext_getElem?
    intro i
    have g1 := congrArg (·[i]?) he
    simp only [List.getElem?_map] at g1
    rw [List.getElem?_map, List.getElem?_map, Array.getElem?_toList, Array.getElem?_modify, List.getElem?_map]
    by_cases e : j = i
    · subst e
      rw [if_pos rfl, h4, List.getElem?_eq_getElem hj, h1]
      simp
    · rw [if_neg e, ← Array.getElem?_toList, g1]
      cases hti : t[i]? with
      | none => rfl
      | some p =>
        obtain ⟨hi, rfl⟩ := List.getElem?_eq_some_iff.1 hti
        have hne : t[i].1 ≠ id := by
          intro e2
          rcases Nat.lt_or_gt_of_ne e with g | g
          · exact List.pairwise_iff_getElem.1 hk j i hj hi g (by rw [h1, e2])
          · exact List.pairwise_iff_getElem.1 hk i j hi hj g (by rw [h1, e2])
        simp [hne]
theorem vdelete {w : World} {mb : Nat} {t : List (Int × Value)} (hm : VMap w mb t) (hl : ∀ p ∈ t, I64 p.1) (hk : t.Pairwise fun p q => p.1 ≠ q.1) {id : Int} {v : Value} (hp : (id, v) ∈ t) :
    ∃ w', (∀ ty, (Builtin.delete_ #[T, 3] ty #[.map (some mb), .int .i64 id]).run Tryz.prog w = .ok (.tuple #[]) w') ∧ VMap w' mb (t.filter fun p => decide (p.1 ≠ id)) ∧ w.grownBy w' (some mb) ∧ w'.heap.size = w.heap.size := by
  obtain ⟨es, clock, hb, hst, he⟩ := hm
  obtain ⟨j, hj, e0, h1, h2, h3, h4, h5⟩ := vfind (w := w) (mb := mb) hl hk he hp
  have hne : es.isEmpty = false := by
    rw [Array.isEmpty_eq_false_iff]
    intro e
    rw [e] at h2
    simp at h2
  refine ⟨setBlock w mb (.map (es.eraseIdxIfInBounds j) clock), ?_, ⟨_, _, heap_setBlock_same hb _, stamped_erase hst j, ?_⟩, ⟨rfl, rfl, rfl, by simp [setBlock], fun k _ hk => heap_setBlock_other hb _ (fun e => hk (by rw [e]))⟩, by simp [setBlock]⟩
  · intro ty
    simp [Builtin.delete_, run_underlying hT, MapKept.run_getObj_map hb, hne, vkeyed.check w false (vkey (hl _ hp)), h3, MapKept.run_setObj_map _ hb, Result.andThen, setBlock]
  · have e1 : t.filter (fun p => decide (p.1 ≠ id)) = t.eraseIdx j := by
      rw [List.eraseIdx_eq_take_drop_succ]
      conv => lhs; rw [show t = t.take j ++ t[j] :: t.drop (j + 1) by rw [List.getElem_cons_drop, List.take_append_drop]]
      rw [List.filter_append, List.filter_cons, h1]
      have f1 : (t.take j).filter (fun p => decide (p.1 ≠ id)) = t.take j := by
        rw [List.filter_eq_self]
        intro p hp2
        obtain ⟨i, hi, rfl⟩ := List.mem_iff_getElem.1 hp2
        rw [List.length_take] at hi
        rw [List.getElem_take]
        have := List.pairwise_iff_getElem.1 hk i j (by omega) hj (by omega)
        rw [h1] at this
        simpa using this
      have f2 : (t.drop (j + 1)).filter (fun p => decide (p.1 ≠ id)) = t.drop (j + 1) := by
        rw [List.filter_eq_self]
        intro p hp2
        obtain ⟨i, hi, rfl⟩ := List.mem_iff_getElem.1 hp2
        rw [List.length_drop] at hi
        rw [List.getElem_drop]
        have := List.pairwise_iff_getElem.1 hk j (j + 1 + i) hj (by omega) (by omega)
        rw [h1] at this
        simpa using fun e => this e.symm
      rw [f1, f2]
      simp
    have e2 : ∀ {α β : Type} (f : α → β) (l : List α), (l.eraseIdx j).map f = (l.map f).eraseIdx j := fun f l => by
      rw [List.eraseIdx_eq_take_drop_succ, List.eraseIdx_eq_take_drop_succ, List.map_append, List.map_take, List.map_drop]
    rw [e1, Array.eraseIdxIfInBounds, dif_pos h2, Array.toList_eraseIdx, e2, he, e2]
end
end Go.Proofs.YtiidhcpflplpiaaGreatDoor

/-
  Layer 8: the service in memory: its block, its two maps, the row of its clients, its cache.
-/
set_option linter.unusedVariables false
namespace Go.Proofs.YtiidhcpflplpiaaGreatDoor
open Go.RowKit Crn Nxt Ste
set_option maxRecDepth 100000

abbrev tmV (t : Tm) : Value := .agg #[.int .i64 t.id, .int .i64 t.client, .int .i64 t.gen, .int .i64 t.due, .string t.cron]
abbrev rpV (r : Rp) : Value := .agg #[.int .i64 r.err, .int .i64 r.gen, .int .i64 r.due]
abbrev knV (k : Kn) : Value := .agg #[.int .i64 k.req, .int .i64 k.rp.err, .int .i64 k.rp.gen, .int .i64 k.rp.due]
abbrev opC (o : OpN) : Array Value := #[.int .i64 o.kind, .int .i64 o.client, .int .i64 o.req, .int .i64 o.id, .int .i64 o.gen, .int .i64 o.occ, .int .i64 o.due, .int .i64 o.stamp, .int .i64 o.epoch, .string o.cron]
abbrev opV (o : OpN) : Value := .agg (opC o)
def tmP (t : Tm) : Int × Value := (t.id, tmV t)
def knP (k : Kn) : Int × Value := (k.client, knV k)
def iv (c : Int) : Value := .int .i64 c
abbrev mt : TypeId := 71
abbrev ml : TypeId := 72
abbrev ts : TypeId := 76

/-- Where its parts lie. -/
structure Px where
  tb : Nat
  lb : Nat
  cb : Nat
  p : Option Addr
  cap : Nat
  a : Nat
  m : Option Nat
  l : List (ByteArray × Nat)
  tl : List Tm
  kl : List Kn
def rowOf (p : Option Addr) : List Nat := ((Value.slice p 0 0).ownBlock).toList
def own (x : Px) (b : Nat) : List Nat := b :: x.tb :: x.lb :: (rowOf x.p ++ owned x.cb x.m x.l)
abbrev stC (room gens n : Nat) (x : Px) : Array Value := #[.int .i64 (room : Int), .int .i64 (gens : Int), .map (some x.tb), .slice x.p n x.cap, .map (some x.lb), .pointer (some ⟨x.cb, 0, none⟩)]
structure Sv (w : World) (b : Nat) (s : St) (cl : List Int) (x : Px) (c : Nat) : Prop where
  blk : w.heap[b]? = some (.cells (stC s.room s.gens cl.length x) ts)
  tm : VMap w x.tb (x.tl.map tmP)
  tp : x.tl.Perm s.T
  km : VMap w x.lb (x.kl.map knP)
  row : w.ownsRow (topTab + 1) 3 1 (.slice x.p cl.length x.cap) cl.length (cl.map iv)
  ca : Ca w x.cb x.a x.l.length x.m x.l
  cnt : x.l.length ≤ x.a ∧ x.a ≤ c
  hb : topTab < b
  ht : topTab < x.tb
  hl : topTab < x.lb
  sep : x.tb ≠ x.lb ∧ x.m ≠ some x.tb ∧ x.m ≠ some x.lb
  ok : Ok s
  gc : s.gens ≤ c

theorem type_no {w : World} {a b : Nat} {c d : Array Value} {t u : TypeId} {f h : Nat × Nat} (h1 : w.heap[a]? = some (.cells c t f)) (h2 : w.heap[b]? = some (.cells d u h)) (hn : t ≠ u) : a ≠ b := by
  intro e
  subst e
  rw [h1] at h2
  injection h2 with h2
  injection h2 with _ h3 _
  exact hn h3
theorem map_no {w : World} {a b : Nat} {c : Array Value} {t : TypeId} {f : Nat × Nat} {tl : List (Int × Value)} (h1 : w.heap[a]? = some (.cells c t f)) (h2 : VMap w b tl) : a ≠ b := by
  intro e
  subst e
  obtain ⟨es, clock, h3, _⟩ := h2
  rw [h1] at h3
  cases h3
theorem row_at {w : World} {base e size n g : Nat} {v : Value} {xs : List Value} (h : w.ownsRow base e size v n xs) (hg : v.ownBlock = some g) : ∃ cur, w.heap[g]? = some (.cells cur e (0, 0)) := by
  rcases h.2 with ⟨rfl, _⟩ | ⟨g', cap, cur, rfl, _, hh, _⟩
  · simp [Value.ownBlock] at hg
  · simp [Value.ownBlock] at hg
    subst hg
    exact ⟨cur, hh⟩
theorem row_same {w w' : World} {base e size n : Nat} {v : Value} {xs : List Value} (h : w.ownsRow base e size v n xs) (hk : ∀ g, v.ownBlock = some g → w'.heap[g]? = w.heap[g]?) : w'.ownsRow base e size v n xs := by
  refine ⟨h.1, ?_⟩
  rcases h.2 with h0 | ⟨g, cap, cur, rfl, hb, hg, hr⟩
  · exact Or.inl h0
  · exact Or.inr ⟨g, cap, cur, rfl, hb, (hk g rfl).trans hg, hr⟩
theorem own_row {p : Option Addr} {n cap : Nat} {g : Nat} : (Value.slice p n cap).ownBlock = some g ↔ g ∈ rowOf p := by
  unfold rowOf
  rw [Option.mem_toList]
  cases p <;> simp [Value.ownBlock]
section
variable {w w' : World} {b : Nat} {s : St} {cl : List Int} {x : Px} {c : Nat}
theorem Sv.lt (h : Sv w b s cl x c) : ∀ k, k ∈ own x b → k < w.heap.size ∧ topTab < k := by
  intro k hk
  simp only [own, List.mem_cons, List.mem_append] at hk
  rcases hk with rfl | rfl | rfl | hk | hk
  · exact ⟨lt_in h.blk, h.hb⟩
  · exact ⟨h.tm.lt, h.ht⟩
  · exact ⟨h.km.lt, h.hl⟩
  · have h1 := own_row (n := cl.length) (cap := x.cap).2 hk
    have := h.row.lt k h1
    omega
  · exact h.ca.lt k hk
/-- The parts lie apart. -/
structure Far (x : Px) (b : Nat) : Prop where
  bt : b ≠ x.tb
  bl : b ≠ x.lb
  br : b ∉ rowOf x.p
  bc : b ∉ owned x.cb x.m x.l
  tl : x.tb ≠ x.lb
  tr : x.tb ∉ rowOf x.p
  tc : x.tb ∉ owned x.cb x.m x.l
  lr : x.lb ∉ rowOf x.p
  lc : x.lb ∉ owned x.cb x.m x.l
  rc : ∀ g, g ∈ rowOf x.p → g ∉ owned x.cb x.m x.l
theorem Sv.far (h : Sv w b s cl x c) : Far x b := by
  have hr : ∀ g, g ∈ rowOf x.p → ∃ cur, w.heap[g]? = some (.cells cur 3 (0, 0)) := fun g hg => row_at h.row (own_row.2 hg)
  have ho : ∀ k, k ∈ owned x.cb x.m x.l → x.m = some k ∨ ∃ cs t, w.heap[k]? = some (.cells cs t (0, 0)) ∧ (t = 122 ∨ t = 143) := fun k hk => by
    simp only [owned, List.mem_cons, List.mem_append, List.mem_map, Option.mem_toList] at hk
    rcases hk with rfl | hk | ⟨q, hq, rfl⟩
    · exact .inr ⟨_, _, h.ca.blk, .inl rfl⟩
    · exact .inl hk
    · exact .inr ⟨_, _, (h.ca.rd q hq).1, .inr rfl⟩
  have hm : ∀ k, x.m = some k → ∃ es clock, w.heap[k]? = some (.map es clock) := fun k hk => by
    obtain ⟨⟨es, clock, h1, _⟩, _⟩ := h.ca.map k hk
    exact ⟨es, clock, h1⟩
  have noc : ∀ k (cs : Array Value) (t : TypeId), w.heap[k]? = some (.cells cs t (0, 0)) → t ≠ 122 → t ≠ 143 → k ∉ owned x.cb x.m x.l := fun k cs t hk h1 h2 hin => by
    rcases ho k hin with e | ⟨cs2, t2, e, e2⟩
    · obtain ⟨es, clock, e⟩ := hm k e
      rw [e] at hk; cases hk
    · rw [e] at hk
      injection hk with hk
      injection hk with _ h3 _
      subst h3
      rcases e2 with e2 | e2
      · exact h1 e2
      · exact h2 e2
  have nom : ∀ k, (∃ tl, VMap w k tl) → x.m ≠ some k → k ∉ owned x.cb x.m x.l := fun k ⟨tl, hk⟩ hne hin => by
    rcases ho k hin with e | ⟨cs2, t2, e, _⟩
    · exact hne e
    · exact map_no e hk rfl
  refine ⟨map_no h.blk h.tm, map_no h.blk h.km, fun hg => ?_, noc b _ _ h.blk (by decide) (by decide), h.sep.1, fun hg => ?_, nom _ ⟨_, h.tm⟩ h.sep.2.1, fun hg => ?_, nom _ ⟨_, h.km⟩ h.sep.2.2, fun g hg => ?_⟩
  · obtain ⟨cur, e⟩ := hr b hg
    exact type_no h.blk e (by decide) rfl
  · obtain ⟨cur, e⟩ := hr _ hg
    exact map_no e h.tm rfl
  · obtain ⟨cur, e⟩ := hr _ hg
    exact map_no e h.km rfl
  · obtain ⟨cur, e⟩ := hr g hg
    exact noc g _ _ e (by decide) (by decide)
theorem Sv.kept (h : Sv w b s cl x c) {L : List Nat} (k : Kl L w w') (hL : ∀ i, i ∈ L → i ∉ own x b) : Sv w' b s cl x c := by
  have hn : ∀ i, i ∈ own x b → i ∉ L := fun i hi hl => hL i hl hi
  have hbl : ∀ i, i ∈ own x b → w'.heap[i]? = w.heap[i]? := fun i hi => k.block i (h.lt i hi).1 (hn i hi)
  refine ⟨(hbl b (by simp [own])).trans h.blk, h.tm.kept (hbl _ (by simp [own])), h.tp, h.km.kept (hbl _ (by simp [own])), row_same h.row (fun g hg => hbl g ?_), h.ca.kept k (fun i hi ho => hL i hi ?_), h.cnt, h.hb, h.ht, h.hl, h.sep, h.ok, h.gc⟩
  · have := own_row.1 hg
    simp [own, this]
  · simp [own, ho]
theorem Sv.below (h : Sv w b s cl x c) (k : Below w.heap.size w w') : Sv w' b s cl x c := h.kept (L := []) (Kl.ofBelow k) (fun _ hx => by cases hx)
theorem Sv.mono (h : Sv w b s cl x c) {c' : Nat} (hc : c ≤ c') : Sv w b s cl x c' := ⟨h.blk, h.tm, h.tp, h.km, h.row, h.ca, ⟨h.cnt.1, Nat.le_trans h.cnt.2 hc⟩, h.hb, h.ht, h.hl, h.sep, h.ok, Nat.le_trans h.gc hc⟩
theorem Sv.c0 (h : Sv w b s cl x c) : w.cell? ⟨b, 0, none⟩ = some (.int .i64 (s.room : Int)) := cell_in h.blk 0
theorem Sv.c1 (h : Sv w b s cl x c) : w.cell? ⟨b, 1, none⟩ = some (.int .i64 (s.gens : Int)) := cell_in h.blk 1
theorem Sv.c2 (h : Sv w b s cl x c) : w.cell? ⟨b, 2, none⟩ = some (.map (some x.tb)) := cell_in h.blk 2
theorem Sv.c3 (h : Sv w b s cl x c) : w.cell? ⟨b, 3, none⟩ = some (.slice x.p cl.length x.cap) := cell_in h.blk 3
theorem Sv.c4 (h : Sv w b s cl x c) : w.cell? ⟨b, 4, none⟩ = some (.map (some x.lb)) := cell_in h.blk 4
theorem Sv.c5 (h : Sv w b s cl x c) : w.cell? ⟨b, 5, none⟩ = some (.pointer (some ⟨x.cb, 0, none⟩)) := cell_in h.blk 5
theorem Sv.fz (h : Sv w b s cl x c) (o : Nat) : w.frozen? ⟨b, o, none⟩ = false := free_in h.blk o

/-! What a map holds. -/
theorem Sv.tkeys (h : Sv w b s cl x c) : (∀ p ∈ x.tl.map tmP, I64 p.1) ∧ (x.tl.map tmP).Pairwise fun p q => p.1 ≠ q.1 := by
  have hm : ∀ t ∈ x.tl, TmOk s.gens t := fun t ht => h.ok.tm t (h.tp.mem_iff.1 ht)
  refine ⟨fun p hp => ?_, ?_⟩
  · obtain ⟨t, ht, rfl⟩ := List.mem_map.1 hp
    have := hm t ht
    have h1 := this.id0
    have h2 := this.id1
    exact ⟨by show -9223372036854775808 ≤ t.id; omega, by show t.id ≤ 9223372036854775807; omega⟩
  · rw [List.pairwise_map]
    have h1 : s.T.Pairwise fun t u => t.id ≠ u.id := h.ok.up.imp (fun {a b} g e => by rw [e] at g; omega)
    exact (h.tp.pairwise_iff (fun {a b} g e => g e.symm)).2 h1
theorem Sv.kkeys (hk : x.kl.Perm s.K) (h : Sv w b s cl x c) : (∀ p ∈ x.kl.map knP, I64 p.1) ∧ (x.kl.map knP).Pairwise fun p q => p.1 ≠ q.1 := by
  have hm : ∀ t ∈ x.kl, KnOk t := fun t ht => h.ok.kn t (hk.mem_iff.1 ht)
  refine ⟨fun p hp => ?_, ?_⟩
  · obtain ⟨t, ht, rfl⟩ := List.mem_map.1 hp
    exact (hm t ht).client
  · rw [List.pairwise_map]
    exact (hk.pairwise_iff (fun {a b} g e => g e.symm)).2 h.ok.apart
def zTm : Tm := ⟨0, 0, 0, 0, ⟨#[]⟩⟩
def zKn : Kn := ⟨0, 0, ⟨0, 0, 0⟩⟩
theorem mapT : Tryz.prog.underlying mt = some (.map 3 37) := Tryz.underlying71
theorem mapL : Tryz.prog.underlying ml = some (.map 3 90) := Tryz.underlying72
def valT (T : List Tm) (id : Int) : Tm := (find id T).getD zTm
def hasT (T : List Tm) (id : Int) : Bool := (find id T).isSome
theorem Sv.lookT (h : Sv w b s cl x c) {id : Int} (hid : i64 id) {W : World} (hW : W.heap[x.tb]? = w.heap[x.tb]?) : (Instr.lookup mt (.map (some x.tb)) (.int .i64 id) true).run Tryz.prog W = .ok (.tuple #[tmV (valT s.T id), .bool (hasT s.T id)]) W ∧
    (Instr.lookup mt (.map (some x.tb)) (.int .i64 id) false).run Tryz.prog W = .ok (tmV (valT s.T id)) W := by
  have hm : VMap W x.tb (x.tl.map tmP) := h.tm.kept hW
  obtain ⟨k1, k2⟩ := h.tkeys
  cases hf : find id s.T with
  | none =>
    have hn : ∀ p ∈ x.tl.map tmP, p.1 ≠ id := fun p hp => by
      obtain ⟨t, ht, rfl⟩ := List.mem_map.1 hp
      exact find_none hf t (h.tp.mem_iff.1 ht)
    unfold valT hasT
    rw [hf]
    exact ⟨vlook_none mapT Tryz.zeroValue37 hm k1 hid hn true, vlook_none mapT Tryz.zeroValue37 hm k1 hid hn false⟩
  | some t =>
    obtain ⟨h1, h2⟩ := find_some hf
    have hp : (id, tmV t) ∈ x.tl.map tmP := List.mem_map.2 ⟨t, h.tp.mem_iff.2 h1, by unfold tmP; rw [h2]⟩
    unfold valT hasT
    rw [hf]
    exact ⟨vlook_some mapT hm k1 k2 hp true, vlook_some mapT hm k1 k2 hp false⟩
def valK (K : List Kn) (c : Int) : Kn := (known c K).getD zKn
def hasK (K : List Kn) (c : Int) : Bool := (known c K).isSome
theorem Sv.lookK (h : Sv w b s cl x c) (hk : x.kl.Perm s.K) {id : Int} (hid : i64 id) {W : World} (hW : W.heap[x.lb]? = w.heap[x.lb]?) : (Instr.lookup ml (.map (some x.lb)) (.int .i64 id) true).run Tryz.prog W = .ok (.tuple #[knV (valK s.K id), .bool (hasK s.K id)]) W := by
  have hm : VMap W x.lb (x.kl.map knP) := h.km.kept hW
  obtain ⟨k1, k2⟩ := Sv.kkeys hk h
  cases hf : known id s.K with
  | none =>
    have hn : ∀ p ∈ x.kl.map knP, p.1 ≠ id := fun p hp => by
      obtain ⟨t, ht, rfl⟩ := List.mem_map.1 hp
      exact known_none hf t (hk.mem_iff.1 ht)
    unfold valK hasK
    rw [hf]
    exact vlook_none mapL Tryz.zeroValue90 hm k1 hid hn true
  | some t =>
    obtain ⟨h1, h2⟩ := known_some hf
    have hp : (id, knV t) ∈ x.kl.map knP := List.mem_map.2 ⟨t, hk.mem_iff.2 h1, by unfold knP; rw [h2]⟩
    unfold valK hasK
    rw [hf]
    exact vlook_some mapL hm k1 k2 hp true

/-! What is said behind a call. -/
structure Aft (w : World) (b : Nat) (x : Px) (w' : World) (s' : St) (cl' : List Int) (x' : Px) (c' : Nat) : Prop where
  sv : Sv w' b s' cl' x' c'
  kept : Kl (own x b) w w'
  own : ∀ k, k ∈ own x' b → k ∈ own x b ∨ w.heap.size ≤ k
  kl : x'.kl = x.kl
theorem Aft.refl (h : Sv w b s cl x c) : Aft w b x w s cl x c := ⟨h, Kl.refl _ _, fun _ hk => .inl hk, rfl⟩
end
end Go.Proofs.YtiidhcpflplpiaaGreatDoor

/-
  Layer 8: what tells without changing anything: refusal, Get, Fires, settable.
-/
set_option linter.unusedVariables false
namespace Go.Proofs.YtiidhcpflplpiaaGreatDoor
open Go.RowKit Crn Nxt Ste
set_option maxRecDepth 100000

theorem results_cellA {fn : Func} {p : Tmp} {ty : TypeId} (h : fn.results = #[.cell p ty]) (tmps : Array Value) (P : Program) (w : World) :
    (results fn tmps).run P w = ((asAddr (tmps.getD p undef)).run P w).andThen fun a w1 => (loadVar ty a).run P w1 := by
  simp only [results, h]
  simp [Sem.run_bind, Result.andThen]
theorem results_tmp_cell_tmp {fn : Func} {q p u : Tmp} {ty : TypeId} (h : fn.results = #[.tmp q, .cell p ty, .tmp u]) (tmps : Array Value) (P : Program) (w : World) :
    (results fn tmps).run P w =
      ((asAddr (tmps.getD p undef)).run P w).andThen fun a w₁ => ((loadVar ty a).run P w₁).andThen fun v w₂ => .ok (.tuple #[tmps.getD q undef, v, tmps.getD u undef]) w₂ := by
  simp only [results, h]
  simp [Sem.run_bind, Result.andThen]

theorem refusal_any (e : Int) (w : World) : Calls Tryz.prog 30 #[.int .i64 e] w fun e' w' => e' = .returned (rpV ⟨e, 0, 0⟩) ∧ Below w.heap.size w w' := by
  go_enter Tryz.func30, Tryz.ntmps30
  go_wp2_with fail
  refine bodyPost_ret (v := rpV ⟨e, 0, 0⟩) ?_ rfl ?_
  · rw [results_cellA rfl]
    go_simp
  · exact ⟨rfl, (Below.refl _ _).alloc (Nat.le_refl _) _⟩
theorem hasT_false {T : List Tm} {id : Int} (h : hasT T id = false) : valT T id = zTm := by
  unfold hasT at h
  unfold valT
  cases hf : find id T with
  | none => rfl
  | some t => rw [hf] at h; cases h
def getE (T : List Tm) (id : Int) : Int := if hasT T id = true then 0 else 6
abbrev zCells : Obj := .cells #[.int .i64 0, .int .i64 0, .int .i64 0, .int .i64 0, .string ⟨#[]⟩] 37
section
variable {w : World} {b : Nat} {s : St} {cl : List Int} {x : Px} {c : Nat}
theorem alloc_old {w : World} {o : Obj} {k : Nat} (h : k < w.heap.size) : (w.alloc o).heap[k]? = w.heap[k]? := ((Below.refl w.heap.size w).alloc (Nat.le_refl _) o).block k h
theorem get_any (h : Sv w b s cl x c) (id : Int) (hid : i64 id) : Calls Tryz.prog 17 #[.pointer (some ⟨b, 0, none⟩), .int .i64 id] w fun e w' => e = .returned (.tuple #[tmV (valT s.T id), .int .i64 (getE s.T id)]) ∧ Below w.heap.size w w' := by
  have hb := (h.lt b (by simp [own])).1
  have hc := (h.below ((Below.refl w.heap.size w).alloc (Nat.le_refl _) zCells)).c2
  have hlk := (h.lookT hid (W := w.alloc zCells) (alloc_old (h.lt x.tb (by simp [own])).1)).1
  clear h hid
  cases hq : hasT s.T id with
  | false =>
    have hz := hasT_false hq
    have he : getE s.T id = 6 := by unfold getE; rw [hq]; rfl
    rw [hz, hq] at hlk
    rw [hz, he]
    clear hz hq he
    unfold zTm at *
    go_enter Tryz.func17, Tryz.ntmps17
    go_wp2_with fail
    refine bodyPost_ret (v := .tuple #[tmV zTm, .int .i64 6]) ?_ rfl ?_
    · rw [results_cell_tmp rfl]
      go_simp
      try exact ⟨rfl, rfl, rfl, rfl, rfl⟩
    · exact ⟨rfl, ((Below.refl _ _).alloc (Nat.le_refl _) _).alloc (by simp) _⟩
  | true =>
    have he : getE s.T id = 0 := by unfold getE; rw [hq]; rfl
    rw [hq] at hlk
    rw [he]
    clear hq he
    generalize valT s.T id = t at *
    go_enter Tryz.func17, Tryz.ntmps17
    go_wp2_with fail
    refine bodyPost_ret (v := .tuple #[tmV t, .int .i64 0]) ?_ rfl ?_
    · rw [results_cell_tmp rfl]
      go_simp
      try exact ⟨rfl, rfl, rfl, rfl, rfl⟩
    · exact ⟨rfl, ((Below.refl _ _).alloc (Nat.le_refl _) _).alloc (by simp) _⟩

theorem hasT_some {T : List Tm} {id : Int} (h : hasT T id = true) : find id T = some (valT T id) := by
  unfold hasT at h
  unfold valT
  cases hf : find id T with
  | none => rw [hf] at h; cases h
  | some t => rfl
theorem fires_kind {s : St} {o : OpN} (h : o.kind ≠ 3) : firesB s o = false := by
  unfold firesB
  rw [decide_eq_false h]
  rfl
theorem fires_is {s : St} {o : OpN} (h : o.kind = 3) : firesB s o = (hasT s.T o.id && decide ((valT s.T o.id).gen = o.gen) && decide ((valT s.T o.id).due = o.occ) && decide (0 < o.occ) && decide (o.occ ≤ o.stamp)) := by
  unfold firesB
  rw [decide_eq_true h]
  cases hq : hasT s.T o.id with
  | false =>
    have : find o.id s.T = none := by
      unfold hasT at hq
      cases hf : find o.id s.T with
      | none => rfl
      | some t => rw [hf] at hq; cases hq
    rw [this]
    simp
  | true => rw [hasT_some hq]; simp
theorem hid_alloc {w W : World} {o : Obj} (h : Hid (Below w.heap.size w W)) : Hid (Below w.heap.size w (W.alloc o)) := h.out.alloc h.out.size o
set_option maxHeartbeats 4000000 in
theorem fires_any (h : Sv w b s cl x c) (o : OpN) (ho : OpOk o) : Calls Tryz.prog 13 #[.pointer (some ⟨b, 0, none⟩), opV o] w fun e w' => e = .returned (.bool (firesB s o)) ∧ Below w.heap.size w w' := by
  by_cases hk : o.kind = 3
  · have hr := Lib.hid (fires_is (s := s) hk)
    have e0 : (o.kind != 3) = false := by simp [hk]
    generalize firesB s o = R at *
    replace hk := Lib.hid hk
    have HL : Hid (∀ W, Hid (Below w.heap.size w W) → W.cell? ⟨w.heap.size, 3, none⟩ = some (.int .i64 o.id) → Hid (Below w.heap.size w W) ∧ W.cell? ⟨w.heap.size, 3, none⟩ = some (.int .i64 o.id) ∧ W.cell? ⟨b, 2, none⟩ = some (.map (some x.tb)) ∧ (Instr.lookup mt (.map (some x.tb)) (.int .i64 o.id) true).run Tryz.prog W = .ok (.tuple #[tmV (valT s.T o.id), .bool (hasT s.T o.id)]) W) := fun W k hc => ⟨k, hc, (h.below k.out).c2, (h.lookT ho.id (k.out.block x.tb (h.lt x.tb (by simp [own])).1)).1⟩
    clear h ho
    obtain ⟨okind, oclient, oreq, oid, ogen, oocc, odue, ostamp, oepoch, ocron⟩ := o
    simp only [opV, opC] at *
    go_enter Tryz.func13, Tryz.ntmps13
    go_wp2_with fail
    go_region_held3 (fun w' => Hid (Below w.heap.size w w') ∧ w'.cell? ⟨w.heap.size, 3, none⟩ = some (.int .i64 oid) ∧ w'.cell? ⟨b, 2, none⟩ = some (.map (some x.tb)) ∧ (Instr.lookup mt (.map (some x.tb)) (.int .i64 oid) true).run Tryz.prog w' = .ok (.tuple #[tmV (valT s.T oid), .bool (hasT s.T oid)]) w')
      (first
        | exact HL.out _ (((Below.refl w.heap.size w).alloc (Nat.le_refl _) _).drew) (by go_keep)
        | exact HL.out _ ((((Below.refl w.heap.size w).alloc (Nat.le_refl _) _).alloc (by simp) _).drew) (by go_keep)) (fail)
    all_goals
      clear HL
      generalize valT s.T oid = t at *
      generalize hasT s.T oid = q at *
      cases q with
      | false =>
        go_wp2_with fail
        go_ret
        exact ⟨by rw [hr.out]; simp, ((((Below.refl w.heap.size w).alloc (Nat.le_refl _) _).alloc (by simp) _).drew)⟩
      | true =>
        by_cases h1 : t.gen = ogen
        · have e1 : (t.gen == ogen) = true := by simp [h1]
          replace h1 := Lib.hid h1
          by_cases h2 : t.due = oocc
          · have e2 : (t.due == oocc) = true := by simp [h2]
            replace h2 := Lib.hid h2
            by_cases h3 : 0 < oocc
            · have e3 : decide (0 < oocc) = true := by simpa using h3
              replace h3 := Lib.hid h3
              by_cases h4 : oocc ≤ ostamp
              · have e4 : decide (oocc ≤ ostamp) = true := by simpa using h4
                replace h4 := Lib.hid h4
                go_wp2_with fail
                go_ret
                exact ⟨by rw [hr.out]; simp [h1.out, h2.out, h3.out, h4.out], ((((Below.refl w.heap.size w).alloc (Nat.le_refl _) _).alloc (by simp) _).drew)⟩
              · have e4 : decide (oocc ≤ ostamp) = false := by simpa using h4
                replace h4 := Lib.hid h4
                go_wp2_with fail
                go_ret
                exact ⟨by rw [hr.out, e4]; simp, ((((Below.refl w.heap.size w).alloc (Nat.le_refl _) _).alloc (by simp) _).drew)⟩
            · have e3 : decide (0 < oocc) = false := by simpa using h3
              replace h3 := Lib.hid h3
              go_wp2_with fail
              go_ret
              exact ⟨by rw [hr.out, e3]; simp, ((((Below.refl w.heap.size w).alloc (Nat.le_refl _) _).alloc (by simp) _).drew)⟩
          · have e2 : (t.due == oocc) = false := by simpa using h2
            replace h2 := Lib.hid h2
            go_wp2_with fail
            go_ret
            exact ⟨by rw [hr.out]; simp [h2.out], ((((Below.refl w.heap.size w).alloc (Nat.le_refl _) _).alloc (by simp) _).drew)⟩
        · have e1 : (t.gen == ogen) = false := by simpa using h1
          replace h1 := Lib.hid h1
          go_wp2_with fail
          go_ret
          exact ⟨by rw [hr.out]; simp [h1.out], ((((Below.refl w.heap.size w).alloc (Nat.le_refl _) _).alloc (by simp) _).drew)⟩
  · rw [fires_kind hk]
    have e0 : (o.kind != 3) = true := by simp [hk]
    clear h ho
    obtain ⟨okind, oclient, oreq, oid, ogen, oocc, odue, ostamp, oepoch, ocron⟩ := o
    simp only [opV, opC] at *
    replace hk := Lib.hid hk
    go_enter Tryz.func13, Tryz.ntmps13
    go_wp2_with fail
    go_ret
    exact ⟨rfl, (Below.refl _ _).alloc (Nat.le_refl _) _⟩

theorem size_no {s : ByteArray} (h : s.size = 0) : s = ⟨#[]⟩ := size_zero.2 h
theorem empty_no {s : ByteArray} (h : ¬ s.size = 0) : s.toList.isEmpty = false := by
  cases hq : s.toList.isEmpty with
  | false => rfl
  | true =>
    exfalso
    apply h
    rw [List.isEmpty_iff] at hq
    have : s.toList = s.data.toList := by simp [ByteArray.toList_eq]
    rw [this] at hq
    show s.data.size = 0
    rw [← Array.length_toList, hq]
    rfl
set_option maxHeartbeats 2000000 in
theorem settable_any (o : OpN) (w : World) : Calls Tryz.prog 85 #[opV o] w fun e w' => e = .returned (.bool (settableB o)) ∧ Below w.heap.size w w' := by
  have hr := Lib.hid (show settableB o = (decide (0 ≤ o.id) && decide (o.id ≤ 1000) && decide (0 ≤ o.due) && decide (o.due ≤ if o.cron.size = 0 then 1099511627776 else 0)) from rfl)
  obtain ⟨okind, oclient, oreq, oid, ogen, oocc, odue, ostamp, oepoch, ocron⟩ := o
  generalize settableB _ = R at *
  simp only [opV, opC] at *
  by_cases hz : ocron.size = 0
  · rw [if_pos hz] at hr
    obtain rfl := size_no hz
    clear hz
    go_enter Tryz.func85, Tryz.ntmps85
    by_cases h1 : 0 ≤ oid
    · have e1 : decide (0 ≤ oid) = true := by simpa using h1
      replace h1 := Lib.hid h1
      by_cases h2 : oid ≤ 1000
      · have e2 : decide (oid ≤ 1000) = true := by simpa using h2
        replace h2 := Lib.hid h2
        by_cases h3 : 0 ≤ odue
        · have e3 : decide (0 ≤ odue) = true := by simpa using h3
          replace h3 := Lib.hid h3
          by_cases h4 : odue ≤ 1099511627776
          · have e4 : decide (odue ≤ 1099511627776) = true := by simpa using h4
            replace h4 := Lib.hid h4
            go_wp2_with fail
            go_ret
            exact ⟨by rw [hr.out]; simp [e1, e2, e3, e4], (Below.refl w.heap.size w).alloc (Nat.le_refl _) _⟩
          · have e4 : decide (odue ≤ 1099511627776) = false := by simpa using h4
            replace h4 := Lib.hid h4
            go_wp2_with fail
            go_ret
            exact ⟨by rw [hr.out]; simp [e4], (Below.refl w.heap.size w).alloc (Nat.le_refl _) _⟩
        · have e3 : decide (0 ≤ odue) = false := by simpa using h3
          replace h3 := Lib.hid h3
          go_wp2_with fail
          go_ret
          exact ⟨by rw [hr.out]; simp [e3], (Below.refl w.heap.size w).alloc (Nat.le_refl _) _⟩
      · have e2 : decide (oid ≤ 1000) = false := by simpa using h2
        replace h2 := Lib.hid h2
        go_wp2_with fail
        go_ret
        exact ⟨by rw [hr.out]; simp [e2], (Below.refl w.heap.size w).alloc (Nat.le_refl _) _⟩
    · have e1 : decide (0 ≤ oid) = false := by simpa using h1
      replace h1 := Lib.hid h1
      go_wp2_with fail
      go_ret
      exact ⟨by rw [hr.out]; simp [e1], (Below.refl w.heap.size w).alloc (Nat.le_refl _) _⟩
  · rw [if_neg hz] at hr
    have hq := empty_no hz
    have hq2 : (!ocron.toList.isEmpty) = true := by rw [hq]; rfl
    replace hz := Lib.hid hz
    go_enter Tryz.func85, Tryz.ntmps85
    by_cases h1 : 0 ≤ oid
    · have e1 : decide (0 ≤ oid) = true := by simpa using h1
      replace h1 := Lib.hid h1
      by_cases h2 : oid ≤ 1000
      · have e2 : decide (oid ≤ 1000) = true := by simpa using h2
        replace h2 := Lib.hid h2
        by_cases h3 : 0 ≤ odue
        · have e3 : decide (0 ≤ odue) = true := by simpa using h3
          replace h3 := Lib.hid h3
          by_cases h4 : odue ≤ 0
          · have e4 : decide (odue ≤ 0) = true := by simpa using h4
            replace h4 := Lib.hid h4
            go_wp2_with fail
            go_ret
            exact ⟨by rw [hr.out]; simp [e1, e2, e3, e4], (Below.refl w.heap.size w).alloc (Nat.le_refl _) _⟩
          · have e4 : decide (odue ≤ 0) = false := by simpa using h4
            replace h4 := Lib.hid h4
            go_wp2_with fail
            go_ret
            exact ⟨by rw [hr.out]; simp [e4], (Below.refl w.heap.size w).alloc (Nat.le_refl _) _⟩
        · have e3 : decide (0 ≤ odue) = false := by simpa using h3
          replace h3 := Lib.hid h3
          go_wp2_with fail
          go_ret
          exact ⟨by rw [hr.out]; simp [e3], (Below.refl w.heap.size w).alloc (Nat.le_refl _) _⟩
      · have e2 : decide (oid ≤ 1000) = false := by simpa using h2
        replace h2 := Lib.hid h2
        go_wp2_with fail
        go_ret
        exact ⟨by rw [hr.out]; simp [e2], (Below.refl w.heap.size w).alloc (Nat.le_refl _) _⟩
    · have e1 : decide (0 ≤ oid) = false := by simpa using h1
      replace h1 := Lib.hid h1
      go_wp2_with fail
      go_ret
      exact ⟨by rw [hr.out]; simp [e1], (Below.refl w.heap.size w).alloc (Nat.le_refl _) _⟩
end
end Go.Proofs.YtiidhcpflplpiaaGreatDoor

/-
  Layer 8: what becomes of the service's parts when one of them is written.
-/
set_option linter.unusedVariables false
namespace Go.Proofs.YtiidhcpflplpiaaGreatDoor
open Go.RowKit Crn Nxt Ste
set_option maxRecDepth 100000
section
variable {w w' : World} {b : Nat} {s : St} {cl : List Int} {x : Px} {c : Nat}
theorem Aft.mono' {w0 w1 w2 : World} {s' s'' : St} {cl' cl'' : List Int} {x' x'' : Px} {c' c'' : Nat} (h : Aft w0 b x w1 s' cl' x' c') (k : Aft w1 b x' w2 s'' cl'' x'' c'') : Aft w0 b x w2 s'' cl'' x'' c'' := by
  have hs := h.kept.size
  have kk : Kl (Go.Proofs.YtiidhcpflplpiaaGreatDoor.own x b) w0 w2 := ⟨k.kept.os.trans h.kept.os, k.kept.tape.trans h.kept.tape, k.kept.output.trans h.kept.output, Nat.le_trans hs k.kept.size, fun i hi hn => (k.kept.block i (Nat.lt_of_lt_of_le hi hs) (fun e => by
    rcases h.own i e with g | g
    · exact hn g
    · omega)).trans (h.kept.block i hi hn)⟩
  refine ⟨k.sv, kk, fun i hi => ?_, k.kl.trans h.kl⟩
  rcases k.own i hi with g | g
  · exact h.own i g
  · right; omega
theorem Aft.ofBelow (h : Sv w b s cl x c) (k : Below w.heap.size w w') : Aft w b x w' s cl x c := ⟨h.below k, Kl.ofBelow k, fun _ hi => .inl hi, rfl⟩
theorem Aft.below {w2 : World} {s' : St} {cl' : List Int} {x' : Px} {c' : Nat} (h : Aft w b x w' s' cl' x' c') (k : Below w'.heap.size w' w2) : Aft w b x w2 s' cl' x' c' := h.mono' (Aft.ofBelow h.sv k)
theorem Aft.before {w0 : World} {s' : St} {cl' : List Int} {x' : Px} {c' : Nat} (k : Below w0.heap.size w0 w) (h : Aft w b x w' s' cl' x' c') : Aft w0 b x w' s' cl' x' c' := by
  have hs := k.size
  refine ⟨h.sv, (Kl.ofBelow k).trans h.kept, fun i hi => ?_, h.kl⟩
  rcases h.own i hi with g | g
  · exact .inl g
  · right; omega
theorem Aft.more {s' : St} {cl' : List Int} {x' : Px} {c' c'' : Nat} (h : Aft w b x w' s' cl' x' c') (hc : c' ≤ c'') : Aft w b x w' s' cl' x' c'' := ⟨h.sv.mono hc, h.kept, h.own, h.kl⟩
theorem own_m {x : Px} {b k : Nat} (h : k ∈ owned x.cb x.m x.l) : k ∈ own x b := by
  simp only [own, List.mem_cons, List.mem_append]
  exact Or.inr (Or.inr (Or.inr (Or.inr h)))
theorem owned_m {cb : Nat} {m : Option Nat} {l : List (ByteArray × Nat)} {k : Nat} (h : m = some k) : k ∈ owned cb m l := by simp [owned, h]
/-- The cache was asked. -/
theorem Sv.cache (h : Sv w b s cl x c) {str : ByteArray} {m' : Option Nat} {l' : List (ByteArray × Nat)} (k : Behind w x.cb x.a x.m x.l str w' m' l') : Aft w b x w' s cl { x with a := x.a + 1, m := m', l := l' } (c + 1) := by
  have f := h.far
  have hlt := h.lt
  have hb : ∀ i, i ∈ own x b → i ∉ owned x.cb x.m x.l → w'.heap[i]? = w.heap[i]? := fun i hi ho => k.kept.block i (hlt i hi).1 ho
  have hlen : l'.length ≤ x.l.length + 1 := by
    by_cases hs : str ∈ x.l.map (·.1)
    · have := congrArg List.length (k.old hs)
      simp only [List.length_map] at this
      omega
    · have := congrArg List.length (k.new hs)
      simp only [List.length_map, List.length_append, List.length_singleton] at this
      omega
  have hm : ∀ i, i ∈ own x b → i ∉ owned x.cb x.m x.l → m' ≠ some i := fun i hi ho e => by
    rcases k.own i (owned_m e) with g | g
    · exact ho g
    · have := (hlt i hi).1; omega
  have i1 : b ∈ own x b := by simp [own]
  have i2 : x.tb ∈ own x b := by simp [own]
  have i3 : x.lb ∈ own x b := by simp [own]
  refine ⟨⟨(hb b i1 f.bc).trans h.blk, h.tm.kept (hb _ i2 f.tc), h.tp, h.km.kept (hb _ i3 f.lc), row_same h.row (fun g hg => hb g (by have := own_row.1 hg; simp [own, this]) (f.rc g (own_row.1 hg))), k.ca, ⟨by have := h.cnt.1; show l'.length ≤ x.a + 1; omega, by have := h.cnt.2; show x.a + 1 ≤ c + 1; omega⟩, h.hb, h.ht, h.hl, ⟨h.sep.1, hm _ i2 f.tc, hm _ i3 f.lc⟩, h.ok, by have := h.gc; omega⟩, k.kept.mono (fun i hi => .inl (own_m hi)), fun i hi => ?_, rfl⟩
  simp only [own, List.mem_cons, List.mem_append] at hi
  rcases hi with rfl | rfl | rfl | hi | hi
  · exact .inl i1
  · exact .inl i2
  · exact .inl i3
  · exact .inl (by simp [own, hi])
  · rcases k.own i hi with g | g
    · exact .inl (own_m g)
    · exact .inr g
/-- The map of timers was written: only its block turned. -/
theorem Sv.timers (h : Sv w b s cl x c) {s' : St} {tl' : List Tm} (hv : VMap w' x.tb (tl'.map tmP)) (g : w.grownBy w' (some x.tb)) (hp : tl'.Perm s'.T) (hr : s'.room = s.room) (hg : s'.gens = s.gens) (ok : Ok s') : Aft w b x w' s' cl { x with tl := tl' } c := by
  have f := h.far
  have hlt := h.lt
  have hb : ∀ i, i ∈ own x b → i ≠ x.tb → w'.heap[i]? = w.heap[i]? := fun i hi ho => g.block i (hlt i hi).1 (fun e => ho (by injection e))
  have i1 : b ∈ own x b := by simp [own]
  have i2 : x.tb ∈ own x b := by simp [own]
  have i3 : x.lb ∈ own x b := by simp [own]
  have kl : Kl [x.tb] w w' := ⟨g.os, g.tape, g.output, g.size, fun i hi ho => g.block i hi (fun e => ho (by injection e with e; simp [e]))⟩
  refine ⟨⟨by rw [hr, hg]; exact (hb b i1 f.bt).trans h.blk, hv, hp, h.km.kept (hb _ i3 (fun e => f.tl e.symm)), row_same h.row (fun i hi => hb i (by have := own_row.1 hi; simp [own, this]) (fun e => f.tr (by rw [← e]; exact own_row.1 hi))), h.ca.kept kl (fun i hi => by simp only [List.mem_singleton] at hi; subst hi; exact f.tc), h.cnt, h.hb, h.ht, h.hl, h.sep, ok, by rw [hg]; exact h.gc⟩, kl.mono (fun i hi => .inl (by simp only [List.mem_singleton] at hi; subst hi; exact i2)), fun i hi => .inl hi, rfl⟩
/-- The map of last requests was written. -/
theorem Sv.last (h : Sv w b s cl x c) {kl' : List Kn} (hv : VMap w' x.lb (kl'.map knP)) (g : w.grownBy w' (some x.lb)) : Sv w' b s cl { x with kl := kl' } c ∧ Kl (own x b) w w' := by
  have f := h.far
  have hlt := h.lt
  have hb : ∀ i, i ∈ own x b → i ≠ x.lb → w'.heap[i]? = w.heap[i]? := fun i hi ho => g.block i (hlt i hi).1 (fun e => ho (by injection e))
  have i1 : b ∈ own x b := by simp [own]
  have i2 : x.tb ∈ own x b := by simp [own]
  have i3 : x.lb ∈ own x b := by simp [own]
  have kl : Kl [x.lb] w w' := ⟨g.os, g.tape, g.output, g.size, fun i hi ho => g.block i hi (fun e => ho (by injection e with e; simp [e]))⟩
  refine ⟨⟨(hb b i1 f.bl).trans h.blk, h.tm.kept (hb _ i2 f.tl), h.tp, hv, row_same h.row (fun i hi => hb i (by have := own_row.1 hi; simp [own, this]) (fun e => f.lr (by rw [← e]; exact own_row.1 hi))), h.ca.kept kl (fun i hi => by simp only [List.mem_singleton] at hi; subst hi; exact f.lc), h.cnt, h.hb, h.ht, h.hl, h.sep, h.ok, h.gc⟩, kl.mono (fun i hi => .inl (by simp only [List.mem_singleton] at hi; subst hi; exact i3))⟩
/-- One generation more. -/
theorem Sv.again (h : Sv w b s cl x c) (hc : s.gens + 1 ≤ c) (hg : s.gens < 1000000) : Aft w b x (w.setCell ⟨b, 1, none⟩ (.int .i64 ((s.gens + 1 : Nat) : Int))) { s with gens := s.gens + 1 } cl x c := by
  have f := h.far
  have hlt := h.lt
  have hb : ∀ i, i ≠ b → (w.setCell ⟨b, 1, none⟩ (.int .i64 ((s.gens + 1 : Nat) : Int))).heap[i]? = w.heap[i]? := fun i hi => heap_setCell_other _ _ _ _ hi
  have i1 : b ∈ own x b := by simp [own]
  have kl : Kl [b] w (w.setCell ⟨b, 1, none⟩ (.int .i64 ((s.gens + 1 : Nat) : Int))) := (Kl.refl _ _).setCell (by simp) _ _
  have ok : Ok { s with gens := s.gens + 1 } := ⟨h.ok.room0, h.ok.room1, h.ok.up, h.ok.full, h.ok.apart, h.ok.few, fun t ht => (h.ok.tm t ht).mono (Nat.le_succ _), h.ok.kn, hg⟩
  refine ⟨⟨heap_setCell_same _ b 1 _ _ _ h.blk, h.tm.kept (hb _ (fun e => f.bt e.symm)), h.tp, h.km.kept (hb _ (fun e => f.bl e.symm)), row_same h.row (fun i hi => hb i (fun e => f.br (by rw [← e]; exact own_row.1 hi))), h.ca.kept kl (fun i hi => by simp only [List.mem_singleton] at hi; subst hi; exact f.bc), h.cnt, h.hb, h.ht, h.hl, h.sep, ok, hc⟩, kl.mono (fun i hi => .inl (by simp only [List.mem_singleton] at hi; subst hi; exact i1)), fun i hi => .inl hi, rfl⟩
end
/-! The map's entries and the sorted list. -/
theorem perm_new {tl T : List Tm} (h : tl.Perm T) (hu : Up T) {t : Tm} (hn : find t.id T = none) : (tl ++ [t]).Perm (put t (away t.id T)) := by
  rw [away_none (find_none hn)]
  exact (List.perm_append_comm.trans (List.Perm.cons t h)).trans (put_perm hu (find_none hn)).symm
theorem perm_old {tl T : List Tm} (h : tl.Perm T) (hu : Up T) {t : Tm} (hn : hasId t.id T) : (tl.map fun u => if u.id = t.id then t else u).Perm (put t (away t.id T)) := by
  have hn2 : ∀ u ∈ away t.id T, u.id ≠ t.id := fun u hu => (mem_away.1 hu).2
  refine (h.map _).trans (List.Perm.trans ?_ (put_perm (away_up hu) hn2).symm)
  obtain ⟨u, h1, h2⟩ := hn
  have h3 := (away_perm hu h1).map fun u => if u.id = t.id then t else u
  rw [h2] at h3
  refine h3.trans ?_
  rw [List.map_cons, if_pos h2]
  refine List.Perm.cons t ?_
  have : (away t.id T).map (fun u => if u.id = t.id then t else u) = away t.id T := by
    conv => rhs; rw [← List.map_id (away t.id T)]
    apply List.map_congr_left
    intro v hv
    rw [if_neg (hn2 v hv)]
    rfl
  rw [this]
theorem perm_away {tl T : List Tm} (h : tl.Perm T) (id : Int) : (tl.filter fun t => decide (t.id ≠ id)).Perm (away id T) := h.filter _
theorem tmP_map (tl : List Tm) (t : Tm) : ((tl.map tmP).map fun p => if p.1 = t.id then (t.id, tmV t) else p) = (tl.map fun u => if u.id = t.id then t else u).map tmP := by
  rw [List.map_map, List.map_map]
  apply List.map_congr_left
  intro u _
  by_cases e : u.id = t.id
  · simp [tmP, e]
  · simp [tmP, e]
theorem tmP_filter (tl : List Tm) (id : Int) : ((tl.map tmP).filter fun p => decide (p.1 ≠ id)) = (tl.filter fun t => decide (t.id ≠ id)).map tmP := by
  rw [List.filter_map]
  rfl
theorem knP_map (tl : List Kn) (t : Kn) : ((tl.map knP).map fun p => if p.1 = t.client then (t.client, knV t) else p) = (tl.map fun u => if u.client = t.client then t else u).map knP := by
  rw [List.map_map, List.map_map]
  apply List.map_congr_left
  intro u _
  by_cases e : u.client = t.client
  · simp [knP, e]
  · simp [knP, e]
end Go.Proofs.YtiidhcpflplpiaaGreatDoor

/-
  Layer 8: the service's cache, and when a timer that is set is due.
-/
set_option linter.unusedVariables false
namespace Go.Proofs.YtiidhcpflplpiaaGreatDoor
open Go.RowKit Crn Nxt Ste
set_option maxRecDepth 100000

theorem atC_after (s : ByteArray) (a : Int) : atC s a = afterN s a := by
  unfold atC afterN
  cases parse s.data.toList <;> rfl
theorem erC_bad {s : ByteArray} (a : Int) (h : badB s = true) : erC s a = 7 := by
  unfold badB at h
  unfold erC
  cases hp : parse s.data.toList with
  | none => rfl
  | some x => rw [hp] at h; cases h
theorem erC_good {s : ByteArray} (a : Int) (h : badB s = false) : (erC s a == 7) = false := by
  unfold badB at h
  unfold erC
  cases hp : parse s.data.toList with
  | none => rw [hp] at h; cases h
  | some x =>
    show ((if (nextN x a).isSome = true then (0 : Int) else 10) == 7) = false
    split <;> rfl
section
variable {w w' : World} {b : Nat} {s : St} {cl : List Int} {x : Px} {c : Nat}
theorem Sv.ask (h : Sv w b s cl x c) (tb : Tab w) (nt : NTab w) (hc : c ≤ 900000) (str : ByteArray) (after : Int) (hs : str.size ≤ 400) (ha : i64 after) :
    Calls Tryz.prog 57 #[.pointer (some ⟨x.cb, 0, none⟩), .string str, .int .i64 after] w fun e w' => e = .returned (.tuple #[.int .i64 (afterN str after), .int .i64 (erC str after)]) ∧ ∃ x', Aft w b x w' s cl x' (c + 1) ∧ x'.cb = x.cb ∧ x'.tb = x.tb := by
  refine (cache_any w x.cb x.a x.m x.l str after tb nt (by omega) (by have := h.cnt.2; omega) (by have := h.cnt; omega) ha.1 ha.2 ?_).mono ?_
  · exact h.ca
  · rintro e w' ⟨rfl, m', l', k⟩
    exact ⟨by rw [← atC_after]; rfl, _, h.cache k, rfl, rfl⟩
theorem Tab.behind (t : Tab w) {L : List Nat} (k : Kl L w w') (hL : ∀ i, i ∈ L → topTab < i) : Tab w' := t.kl k hL
noncomputable def dueR (o : OpN) : Int := if o.cron.size ≠ 0 ∧ badB o.cron = true then 0 else dueN o
def dueE (o : OpN) : Int := if o.cron.size ≠ 0 ∧ badB o.cron = true then 7 else 0
/-- What is said behind a call of the cache. -/
structure Said (w : World) (b : Nat) (x : Px) (s : St) (cl : List Int) (c : Nat) (W w' : World) : Prop where
  c5 : w'.cell? ⟨b, 5, none⟩ = some (.pointer (some ⟨x.cb, 0, none⟩))
  new : ∀ k, w.heap.size ≤ k → k < W.heap.size → w'.heap[k]? = W.heap[k]?
  aft : ∃ x', Aft w b x w' s cl x' (c + 1)
theorem Said.cell {W : World} (h : Said w b x s cl c W w') {o : Nat} {v : Value} (hc : W.cell? ⟨w.heap.size, o, none⟩ = some v) : w'.cell? ⟨w.heap.size, o, none⟩ = some v :=
  (World.cell?_of_block (w := W) (a := ⟨w.heap.size, o, none⟩) (h.new _ (Nat.le_refl _) (World.block_lt_of_cell? _ _ hc))).trans hc
set_option maxHeartbeats 2000000 in
theorem firstDue_any (h : Sv w b s cl x c) (tb : Tab w) (nt : NTab w) (hc : c ≤ 900000) (o : OpN) (ho : OpOk o) :
    Calls Tryz.prog 86 #[.pointer (some ⟨b, 0, none⟩), opV o] w fun e w' => e = .returned (.tuple #[.int .i64 (dueR o), .int .i64 (dueE o)]) ∧ ∃ x', Aft w b x w' s cl x' (c + 1) := by
  have hbx : ∀ W : World, Below w.heap.size w W → Sv W b s cl x c := fun W k => h.below k
  by_cases hz : o.cron.size = 0
  · have e1 : dueR o = o.due := by unfold dueR dueN; rw [if_neg (fun g => g.1 hz), if_pos hz]
    have e2 : dueE o = 0 := by unfold dueE; rw [if_neg (fun g => g.1 hz)]
    rw [e1, e2]
    clear e1 e2 ho
    have fin := Lib.hid (fun o => Aft.more (Aft.ofBelow h ((Below.refl w.heap.size w).alloc (Nat.le_refl _) o)) (Nat.le_succ c))
    obtain ⟨okind, oclient, oreq, oid, ogen, oocc, odue, ostamp, oepoch, ocron⟩ := o
    obtain rfl := size_no hz
    simp only [opV, opC] at *
    clear h tb nt hc hz hbx
    go_enter Tryz.func86, Tryz.ntmps86
    go_wp2_with fail
    go_ret2
    exact ⟨rfl, x, fin.out _⟩
  · have hq := empty_no hz
    have HC : Hid (∀ W, Below w.heap.size w W → Calls Tryz.prog 57 #[.pointer (some ⟨x.cb, 0, none⟩), .string o.cron, .int .i64 o.stamp] W fun e w' => e = .returned (.tuple #[.int .i64 (afterN o.cron o.stamp), .int .i64 (erC o.cron o.stamp)]) ∧ Said w b x s cl c W w') := fun W k =>
      ((h.below k).ask (tb.below k) (nt.below k) hc o.cron o.stamp ho.cron ho.stamp).mono fun e w' ⟨he, x', A, hx⟩ => ⟨he, by have := A.sv.c5; rw [hx.1] at this; exact this, fun k1 h1 h2 => A.kept.block k1 h2 (fun g => by have := (h.lt k1 g).1; omega), x', A.before k⟩
    have H0 : Hid (∀ o : Obj, Below w.heap.size w (w.alloc o).drew ∧ (w.alloc o).drew.cell? ⟨b, 5, none⟩ = some (.pointer (some ⟨x.cb, 0, none⟩))) := fun o => ⟨((Below.refl w.heap.size w).alloc (Nat.le_refl _) o).drew, (h.below ((Below.refl w.heap.size w).alloc (Nat.le_refl _) o).drew).c5⟩
    have e1 : badB o.cron = true → dueR o = 0 ∧ dueE o = 7 := fun g => by unfold dueR dueE; rw [if_pos ⟨hz, g⟩, if_pos ⟨hz, g⟩]; exact ⟨rfl, rfl⟩
    have e2 : badB o.cron = false → dueR o = afterN o.cron o.stamp ∧ dueE o = 0 := fun g => by
      have gn : ¬ (o.cron.size ≠ 0 ∧ badB o.cron = true) := fun g2 => by rw [g] at g2; cases g2.2
      unfold dueR dueE dueN
      rw [if_neg gn, if_neg gn, if_neg hz]
      exact ⟨rfl, rfl⟩
    replace e1 := Lib.hid e1
    replace e2 := Lib.hid e2
    have g1 := Lib.hid (erC_bad (s := o.cron) o.stamp)
    have g2 := Lib.hid (erC_good (s := o.cron) o.stamp)
    have hbs := (h.lt b (by simp [own])).1
    clear h
    replace hz := Lib.hid hz
    clear tb nt hc ho hbx
    generalize dueR o = DR at *
    generalize dueE o = DE at *
    obtain ⟨okind, oclient, oreq, oid, ogen, oocc, odue, ostamp, oepoch, ocron⟩ := o
    simp only [opV, opC] at *
    generalize afterN ocron ostamp = A at *
    generalize erC ocron ostamp = E at *
    go_enter Tryz.func86, Tryz.ntmps86
    go_wp2_with fail
    obtain ⟨b0, c5⟩ := H0.out (.cells #[.int .i64 okind, .int .i64 oclient, .int .i64 oreq, .int .i64 oid, .int .i64 ogen, .int .i64 oocc, .int .i64 odue, .int .i64 ostamp, .int .i64 oepoch, .string ocron] 30)
    have c7 : (w.alloc (.cells #[.int .i64 okind, .int .i64 oclient, .int .i64 oreq, .int .i64 oid, .int .i64 ogen, .int .i64 oocc, .int .i64 odue, .int .i64 ostamp, .int .i64 oepoch, .string ocron] 30)).drew.cell? ⟨w.heap.size, 7, none⟩ = some (.int .i64 ostamp) := cell_in (Go.heap_alloc_new w _) 7
    have c9 : (w.alloc (.cells #[.int .i64 okind, .int .i64 oclient, .int .i64 oreq, .int .i64 oid, .int .i64 ogen, .int .i64 oocc, .int .i64 odue, .int .i64 ostamp, .int .i64 oepoch, .string ocron] 30)).drew.cell? ⟨w.heap.size, 9, none⟩ = some (.string ocron) := cell_in (Go.heap_alloc_new w _) 9
    replace b0 := Lib.hid b0
    go_region_held3 (fun w' => w'.cell? ⟨b, 5, none⟩ = some (.pointer (some ⟨x.cb, 0, none⟩)) ∧ w'.cell? ⟨w.heap.size, 7, none⟩ = some (.int .i64 ostamp) ∧ w'.cell? ⟨w.heap.size, 9, none⟩ = some (.string ocron))
      (first | exact ⟨d5, d7, d9⟩ | exact ⟨c5, c7, c9⟩)
      ((go_at_call 57; refine (HC.out _ b0.out).mono ?_; rintro e w6 ⟨rfl, A6⟩; have d5 := A6.c5; have d7 := A6.cell c7; have d9 := A6.cell c9; replace A6 := Lib.hid A6.aft))
    clear c5 c7 c9 d5 d7 d9 HC H0 b0
    cases hB : badB ocron with
    | true =>
      obtain ⟨r1, r2⟩ := e1.out hB
      have g := g1.out hB
      subst g
      replace r1 := Lib.hid r1
      replace r2 := Lib.hid r2
      clear e1 e2 g1 g2
      replace hB := Lib.hid hB
      go_wp2_with fail
      go_ret2
      exact ⟨by rw [r1.out, r2.out]; rfl, A6.out⟩
    | false =>
      obtain ⟨r1, r2⟩ := e2.out hB
      have g := g2.out hB
      replace r1 := Lib.hid r1
      replace r2 := Lib.hid r2
      clear e1 e2 g1 g2
      replace hB := Lib.hid hB
      go_wp2_with fail
      go_ret2
      exact ⟨by rw [r1.out, r2.out]; rfl, A6.out⟩
end
end Go.Proofs.YtiidhcpflplpiaaGreatDoor

/-
  Layer 8: set.
-/
set_option linter.unusedVariables false
namespace Go.Proofs.YtiidhcpflplpiaaGreatDoor
open Go.RowKit Crn Nxt Ste
set_option maxRecDepth 100000
section
variable {w w' : World} {b : Nat} {s : St} {cl : List Int} {x : Px} {c : Nat}
abbrev opO (o : OpN) : Obj := .cells (opC o) 30
abbrev rpO : Obj := .cells #[.int .i64 0, .int .i64 0, .int .i64 0] 34
/-- Ten cells. -/
theorem op_cells {W : World} {g : Nat} {o : OpN} (h : W.heap[g]? = some (opO o)) : W.cell? ⟨g, 0, none⟩ = some (.int .i64 o.kind) ∧ W.cell? ⟨g, 1, none⟩ = some (.int .i64 o.client) ∧ W.cell? ⟨g, 2, none⟩ = some (.int .i64 o.req) ∧ W.cell? ⟨g, 3, none⟩ = some (.int .i64 o.id) ∧ W.cell? ⟨g, 4, none⟩ = some (.int .i64 o.gen) ∧
    W.cell? ⟨g, 5, none⟩ = some (.int .i64 o.occ) ∧ W.cell? ⟨g, 6, none⟩ = some (.int .i64 o.due) ∧ W.cell? ⟨g, 7, none⟩ = some (.int .i64 o.stamp) ∧ W.cell? ⟨g, 8, none⟩ = some (.int .i64 o.epoch) ∧ W.cell? ⟨g, 9, none⟩ = some (.string o.cron) :=
  ⟨cell_in h 0, cell_in h 1, cell_in h 2, cell_in h 3, cell_in h 4, cell_in h 5, cell_in h 6, cell_in h 7, cell_in h 8, cell_in h 9⟩
theorem rp_cells {W : World} {g : Nat} {v0 v1 v2 : Value} (h : W.heap[g]? = some (.cells #[v0, v1, v2] 34)) : W.cell? ⟨g, 0, none⟩ = some v0 ∧ W.cell? ⟨g, 1, none⟩ = some v1 ∧ W.cell? ⟨g, 2, none⟩ = some v2 ∧ W.frozen? ⟨g, 0, none⟩ = false ∧ W.frozen? ⟨g, 1, none⟩ = false ∧ W.frozen? ⟨g, 2, none⟩ = false :=
  ⟨cell_in h 0, cell_in h 1, cell_in h 2, free_in h 0, free_in h 1, free_in h 2⟩
theorem Aft.store {W1 : World} {s' : St} {cl' : List Int} {x' : Px} {c' r : Nat} (A : Aft W1 b x w' s' cl' x' c') (k : Below w.heap.size w W1) (hlt : ∀ i, i ∈ Go.Proofs.YtiidhcpflplpiaaGreatDoor.own x b → i < w.heap.size) (hr : w.heap.size ≤ r) (hr1 : r < W1.heap.size) (v0 v1 v2 : Value) :
    Aft w b x (((w'.setCell ⟨r, 0, none⟩ v0).setCell ⟨r, 1, none⟩ v1).setCell ⟨r, 2, none⟩ v2) s' cl' x' c' := by
  have A0 := A.before k
  have kr : Kl [r] w' (((w'.setCell ⟨r, 0, none⟩ v0).setCell ⟨r, 1, none⟩ v1).setCell ⟨r, 2, none⟩ v2) := (((Kl.refl _ _).setCell (by simp) 0 v0).setCell (by simp) 1 v1).setCell (by simp) 2 v2
  refine ⟨A.sv.kept kr (fun i hi ho => ?_), ⟨kr.os.trans A0.kept.os, kr.tape.trans A0.kept.tape, kr.output.trans A0.kept.output, Nat.le_trans A0.kept.size kr.size, fun i hi hn => (kr.block i (Nat.lt_of_lt_of_le hi A0.kept.size) (by simp only [List.mem_singleton]; omega)).trans (A0.kept.block i hi hn)⟩, A0.own, A0.kl⟩
  simp only [List.mem_singleton] at hi
  subst hi
  rcases A.own i ho with g | g
  · have := hlt i g; omega
  · omega
/-- The boxes of a call: the operation's, and the reply's. -/
structure Bx (w W : World) (o : OpN) : Prop where
  bel : Below w.heap.size w W
  op : W.heap[w.heap.size]? = some (opO o)
  rp : W.heap[w.heap.size + 1]? = some rpO
theorem Bx.start (w : World) (o : OpN) : Bx w ((w.alloc (opO o)).alloc rpO) o := by
  refine ⟨((Below.refl _ _).alloc (Nat.le_refl _) _).alloc (by simp) _, heap_alloc2_old w _ _, ?_⟩
  exact Go.heap_alloc2_new w _ _
theorem Bx.lt {W : World} {o : OpN} (h : Bx w W o) : w.heap.size + 1 < W.heap.size := lt_in h.rp
theorem Bx.below {W W2 : World} {o : OpN} (h : Bx w W o) (k : Below W.heap.size W W2) : Bx w W2 o := by
  have h1 := h.lt
  exact ⟨h.bel.trans (k.mono h.bel.size), (k.block _ (by omega)).trans h.op, (k.block _ h1).trans h.rp⟩
theorem Bx.aft {W W2 : World} {o : OpN} {s' : St} {cl' : List Int} {x' : Px} {c' : Nat} (h : Bx w W o) (hlt : ∀ i, i ∈ Go.Proofs.YtiidhcpflplpiaaGreatDoor.own x b → i < w.heap.size) (A : Aft W b x W2 s' cl' x' c') : W2.heap[w.heap.size]? = some (opO o) ∧ W2.heap[w.heap.size + 1]? = some rpO := by
  have h1 := h.lt
  exact ⟨(A.kept.block _ (by omega) (fun g => by have := hlt _ g; omega)).trans h.op, (A.kept.block _ h1 (fun g => by have := hlt _ g; omega)).trans h.rp⟩

theorem set_A {s : St} {o : OpN} (h : settableB o = false) : setN s o = (s, ⟨1, 0, 0⟩) := by unfold setN; rw [if_pos h]
theorem set_B {s : St} {o : OpN} (h : settableB o = true) (h2 : o.cron.size ≠ 0 ∧ badB o.cron = true) : setN s o = (s, ⟨7, 0, 0⟩) := by unfold setN; rw [if_neg (by rw [h]; simp), if_pos h2]
theorem set_C {s : St} {o : OpN} (h : settableB o = true) (h2 : ¬ (o.cron.size ≠ 0 ∧ badB o.cron = true)) (h3 : find o.id s.T = none ∧ s.room ≤ s.T.length) : setN s o = (s, ⟨5, 0, 0⟩) := by unfold setN; rw [if_neg (by rw [h]; simp), if_neg h2, if_pos h3]
theorem set_D {s : St} {o : OpN} (h : settableB o = true) (h2 : ¬ (o.cron.size ≠ 0 ∧ badB o.cron = true)) (h3 : ¬ (find o.id s.T = none ∧ s.room ≤ s.T.length)) :
    setN s o = ({ s with gens := s.gens + 1, T := put ⟨o.id, o.client, (s.gens + 1 : Nat), dueN o, o.cron⟩ (away o.id s.T) }, ⟨0, (s.gens + 1 : Nat), dueN o⟩) := by unfold setN; rw [if_neg (by rw [h]; simp), if_neg h2, if_neg h3]

set_option maxHeartbeats 2000000 in
/-- What a set does that is refused ahead of its map. -/
theorem set_refused (h : Sv w b s cl x c) (tb : Tab w) (nt : NTab w) (hc : c ≤ 900000) (o : OpN) (ho : OpOk o) (hs : settableB o = false ∨ (settableB o = true ∧ o.cron.size ≠ 0 ∧ badB o.cron = true)) :
    Calls Tryz.prog 71 #[.pointer (some ⟨b, 0, none⟩), opV o] w fun e w' => e = .returned (rpV (setN s o).2) ∧ ∃ x', Aft w b x w' (setN s o).1 cl x' (c + 1) := by
  have hlt : ∀ i, i ∈ own x b → i < w.heap.size := fun i hi => (h.lt i hi).1
  have B0 := Bx.start w o
  have cS := Lib.hid (fun W => settable_any o W)
  have cR := Lib.hid refusal_any
  have A1 := Aft.ofBelow h B0.bel
  have cD : Hid (∀ W, Below w.heap.size w W → Calls Tryz.prog 86 #[.pointer (some ⟨b, 0, none⟩), opV o] W fun e w' => e = .returned (.tuple #[.int .i64 (dueR o), .int .i64 (dueE o)]) ∧ ∃ x', Aft W b x w' s cl x' (c + 1)) := fun W k => firstDue_any (h.below k) (tb.below k) (nt.below k) hc o ho
  have hrefl : Hid (∀ W, Below w.heap.size w W → Aft W b x W s cl x c) := fun W k => Aft.refl (h.below k)
  replace hlt := Lib.hid hlt
  clear A1
  replace B0 := Lib.hid B0
  clear h tb nt ho
  rcases hs with hs | ⟨hs, hz, hb⟩
  · rw [set_A hs]
    rw [hs] at cS
    replace hs := Lib.hid hs
    obtain ⟨okind, oclient, oreq, oid, ogen, oocc, odue, ostamp, oepoch, ocron⟩ := o
    simp only [opV, opC, opO, rpO] at *
    go_enter Tryz.func71, Tryz.ntmps71
    go_wp2_with fail
    refine (cS.out _).mono ?_
    rintro e w2 ⟨rfl, k2⟩
    have B2 := B0.out.below k2
    clear B0 k2
    go_wp2_with fail
    refine (cR.out 1 _).mono ?_
    rintro e w3 ⟨rfl, k3⟩
    have B3 := B2.below k3
    obtain ⟨q0, q1, q2, z0, z1, z2⟩ := rp_cells B3.rp
    replace B3 := Lib.hid B3
    clear B2 k3
    go_wp2_with fail
    refine bodyPost_ret (v := rpV ⟨1, 0, 0⟩) ?_ rfl ?_
    · rw [results_cellA rfl]
      go_simp
    · exact ⟨rfl, x, (Aft.store (hrefl.out _ B3.out.bel) B3.out.bel hlt.out (by omega) B3.out.lt _ _ _).more (Nat.le_succ _)⟩
  · rw [set_B hs ⟨hz, hb⟩]
    rw [hs] at cS
    have e7 : dueE o = 7 := by unfold dueE; rw [if_pos ⟨hz, hb⟩]
    rw [e7] at cD
    clear e7
    replace hs := Lib.hid hs
    replace hz := Lib.hid hz
    replace hb := Lib.hid hb
    generalize dueR o = D at *
    obtain ⟨okind, oclient, oreq, oid, ogen, oocc, odue, ostamp, oepoch, ocron⟩ := o
    simp only [opV, opC, opO, rpO] at *
    go_enter Tryz.func71, Tryz.ntmps71
    go_wp2_with fail
    refine (cS.out _).mono ?_
    rintro e w2 ⟨rfl, k2⟩
    have B2 := B0.out.below k2
    obtain ⟨p0, p1, p2, p3, p4, p5, p6, p7, p8, p9⟩ := op_cells B2.op
    replace B2 := Lib.hid B2
    clear B0 k2
    go_wp2_with fail
    refine (cD.out _ B2.out.bel).mono ?_
    rintro e w3 ⟨rfl, x3, A3⟩
    clear p0 p1 p2 p3 p4 p5 p6 p7 p8 p9
    have C3 := Lib.hid (B2.out.aft hlt.out A3)
    replace A3 := Lib.hid A3
    go_wp2_with fail
    refine (cR.out 7 _).mono ?_
    rintro e w4 ⟨rfl, k4⟩
    obtain ⟨q0, q1, q2, z0, z1, z2⟩ := rp_cells ((k4.block _ (lt_in C3.out.2)).trans C3.out.2)
    have A4 := Lib.hid (A3.out.below k4)
    clear C3 A3 k4
    go_wp2_with fail
    refine bodyPost_ret (v := rpV ⟨7, 0, 0⟩) ?_ rfl ?_
    · rw [results_cellA rfl]
      go_simp
    · exact ⟨rfl, x3, Aft.store A4.out B2.out.bel hlt.out (by omega) B2.out.lt _ _ _⟩

theorem dueE_ok {o : OpN} (h : ¬ (o.cron.size ≠ 0 ∧ badB o.cron = true)) : dueR o = dueN o ∧ dueE o = 0 := by
  unfold dueR dueE
  rw [if_neg h, if_neg h]
  exact ⟨rfl, rfl⟩
/-- A world in which a drawn region begins, and what it reads of the service. -/
structure Rd (w W : World) (b : Nat) (s : St) (x : Px) (o : OpN) : Prop where
  c0 : W.cell? ⟨b, 0, none⟩ = some (.int .i64 (s.room : Int))
  c1 : W.cell? ⟨b, 1, none⟩ = some (.int .i64 (s.gens : Int))
  c2 : W.cell? ⟨b, 2, none⟩ = some (.map (some x.tb))
  p1 : W.cell? ⟨w.heap.size, 1, none⟩ = some (.int .i64 o.client)
  p3 : W.cell? ⟨w.heap.size, 3, none⟩ = some (.int .i64 o.id)
  p9 : W.cell? ⟨w.heap.size, 9, none⟩ = some (.string o.cron)
  lk : (Instr.lookup mt (.map (some x.tb)) (.int .i64 o.id) true).run Tryz.prog W = .ok (.tuple #[tmV (valT s.T o.id), .bool (hasT s.T o.id)]) W
  ln : ∀ ty, (Builtin.len_ #[mt] ty #[.map (some x.tb)]).run Tryz.prog W = .ok (.int .i64 (s.T.length : Int)) W
theorem Sv.rd {W : World} (h : Sv W b s cl x c) {o : OpN} (ho : OpOk o) (hop : W.heap[w.heap.size]? = some (opO o)) : Rd w W b s x o :=
  ⟨h.c0, h.c1, h.c2, (op_cells hop).2.1, (op_cells hop).2.2.2.1, (op_cells hop).2.2.2.2.2.2.2.2.2, (h.lookT ho.id rfl).1, fun ty => by have := h.tm.len mapT ty; rw [List.length_map, h.tp.length_eq] at this; exact this⟩
theorem Rd.all {W : World} {o : OpN} (h : Rd w W b s x o) : W.cell? ⟨b, 2, none⟩ = some (.map (some x.tb)) ∧ W.cell? ⟨w.heap.size, 3, none⟩ = some (.int .i64 o.id) ∧ (Instr.lookup mt (.map (some x.tb)) (.int .i64 o.id) true).run Tryz.prog W = .ok (.tuple #[tmV (valT s.T o.id), .bool (hasT s.T o.id)]) W := ⟨h.c2, h.p3, h.lk⟩

set_option maxHeartbeats 4000000 in
/-- What a set does that finds no room. -/
theorem set_full (h : Sv w b s cl x c) (tb : Tab w) (nt : NTab w) (hc : c ≤ 900000) (o : OpN) (ho : OpOk o) (hs : settableB o = true) (hB : ¬ (o.cron.size ≠ 0 ∧ badB o.cron = true)) (hF : find o.id s.T = none ∧ s.room ≤ s.T.length) :
    Calls Tryz.prog 71 #[.pointer (some ⟨b, 0, none⟩), opV o] w fun e w' => e = .returned (rpV (setN s o).2) ∧ ∃ x', Aft w b x w' (setN s o).1 cl x' (c + 1) := by
  rw [set_C hs hB hF]
  have hlt : ∀ i, i ∈ own x b → i < w.heap.size := fun i hi => (h.lt i hi).1
  have B0 := Lib.hid (Bx.start w o)
  have cS := Lib.hid (fun W => settable_any o W)
  rw [hs] at cS
  have cR := Lib.hid refusal_any
  have cD : Hid (∀ W, Below w.heap.size w W → Calls Tryz.prog 86 #[.pointer (some ⟨b, 0, none⟩), opV o] W fun e w' => e = .returned (.tuple #[.int .i64 (dueR o), .int .i64 (dueE o)]) ∧ ∃ x', Aft W b x w' s cl x' (c + 1)) := fun W k => firstDue_any (h.below k) (tb.below k) (nt.below k) hc o ho
  rw [(dueE_ok hB).2] at cD
  have hq : hasT s.T o.id = false := by unfold hasT; rw [hF.1]; rfl
  have hr : decide ((s.room : Int) ≤ (s.T.length : Int)) = true := by simpa using hF.2
  have hr' : decide (s.room ≤ s.T.length) = true := by simpa using hF.2
  have hrd : Hid (∀ W x' c', Sv W b s cl x' c' → W.heap[w.heap.size]? = some (opO o) → Rd w W b s x' o) := fun W x' c' g1 g2 => g1.rd ho g2
  replace hlt := Lib.hid hlt
  replace hs := Lib.hid hs
  replace hB := Lib.hid hB
  replace hF := Lib.hid hF
  clear h tb nt ho
  generalize dueR o = D at *
  obtain ⟨okind, oclient, oreq, oid, ogen, oocc, odue, ostamp, oepoch, ocron⟩ := o
  simp only [opV, opC, opO, rpO] at *
  go_enter Tryz.func71, Tryz.ntmps71
  go_wp2_with fail
  refine (cS.out _).mono ?_
  rintro e w2 ⟨rfl, k2⟩
  have B2 := B0.out.below k2
  obtain ⟨p0, p1, p2, p3, p4, p5, p6, p7, p8, p9⟩ := op_cells B2.op
  replace B2 := Lib.hid B2
  clear B0 k2 cS
  go_wp2_with fail
  refine (cD.out _ B2.out.bel).mono ?_
  rintro e w3 ⟨rfl, x3, A3⟩
  clear p0 p1 p2 p3 p4 p5 p6 p7 p8 p9 cD
  have C3 := Lib.hid (B2.out.aft hlt.out A3)
  replace A3 := Lib.hid A3
  have HR : Hid (∀ W, Below w3.heap.size w3 W → Rd w W b s x3 ⟨okind, oclient, oreq, oid, ogen, oocc, odue, ostamp, oepoch, ocron⟩) := fun W k => hrd.out W x3 _ (A3.out.sv.below k) ((k.block _ (lt_in C3.out.1)).trans C3.out.1)
  clear hrd
  go_wp2_with fail
  obtain ⟨c2, p3, lk⟩ := (HR.out w3.drew (Below.refl _ _).drew).all
  go_region_held3 (fun w' => w'.cell? ⟨b, 2, none⟩ = some (.map (some x3.tb)) ∧ w'.cell? ⟨w.heap.size, 3, none⟩ = some (.int .i64 oid) ∧ (Instr.lookup mt (.map (some x3.tb)) (.int .i64 oid) true).run Tryz.prog w' = .ok (.tuple #[tmV (valT s.T oid), .bool (hasT s.T oid)]) w')
    (first | exact ⟨c2, p3, lk⟩ | exact (HR.out _ (((Below.refl w3.heap.size w3).alloc (Nat.le_refl _) _).drew)).all) (fail)
  all_goals
    have k5 := (Below.refl w3.heap.size w3).alloc (Nat.le_refl _) (.cells #[.int .i64 (valT s.T oid).id, .int .i64 (valT s.T oid).client, .int .i64 (valT s.T oid).gen, .int .i64 (valT s.T oid).due, .string (valT s.T oid).cron] 37)
    replace k5 := k5.drew
    have A5 := Lib.hid (A3.out.below k5)
    have rp5 := Lib.hid ((k5.block _ (lt_in C3.out.2)).trans C3.out.2)
    have HR5 : Hid (∀ n, Rd w ((w3.alloc (.cells #[.int .i64 (valT s.T oid).id, .int .i64 (valT s.T oid).client, .int .i64 (valT s.T oid).gen, .int .i64 (valT s.T oid).due, .string (valT s.T oid).cron] 37)).drew.drewN n) b s x3 ⟨okind, oclient, oreq, oid, ogen, oocc, odue, ostamp, oepoch, ocron⟩) := fun n => HR.out _ (below_drewN k5 n)
    clear k5 HR c2 p3 lk
    generalize (w3.alloc (.cells #[.int .i64 (valT s.T oid).id, .int .i64 (valT s.T oid).client, .int .i64 (valT s.T oid).gen, .int .i64 (valT s.T oid).due, .string (valT s.T oid).cron] 37)).drew = w5 at *
    generalize w3.heap.size = g3 at *
    have c0 : w5.cell? ⟨b, 0, none⟩ = some (.int .i64 (s.room : Int)) := (HR5.out 0).c0
    have c2 : w5.cell? ⟨b, 2, none⟩ = some (.map (some x3.tb)) := (HR5.out 0).c2
    have ln : ∀ n ty, (Builtin.len_ #[mt] ty #[.map (some x3.tb)]).run Tryz.prog (w5.drewN n) = .ok (.int .i64 (s.T.length : Int)) (w5.drewN n) := fun n => (HR5.out n).ln
    clear HR5
    go_wp2_with fail
    go_quiet (fail)
    have A6 := Lib.hid (A5.out.below (below_drewN (Below.refl _ _) nq))
    have rp6 : Hid ((w5.drewN nq).heap[w.heap.size + 1]? = some rpO) := rp5.out
    clear c0 c2 ln A5 rp5
    generalize w5.drewN nq = w6 at *
    go_wp2_with fail
    refine (cR.out 5 _).mono ?_
    rintro e w7 ⟨rfl, k7⟩
    obtain ⟨q0, q1, q2, z0, z1, z2⟩ := rp_cells ((k7.block _ (lt_in rp6.out)).trans rp6.out)
    have A7 := Lib.hid (A6.out.below k7)
    clear A6 rp6 k7
    go_wp2_with fail
    refine bodyPost_ret (v := rpV ⟨5, 0, 0⟩) ?_ rfl ?_
    · rw [results_cellA rfl]
      go_simp
    · exact ⟨rfl, x3, Aft.store A7.out B2.out.bel hlt.out (by omega) B2.out.lt _ _ _⟩

/-- The map's entries behind a set. -/
theorem Sv.putT {W : World} (h : Sv W b s cl x c) {s' : St} {t : Tm} (hid : i64 t.id) (hT : s'.T = put t (away t.id s.T)) (hr : s'.room = s.room) (hg : s'.gens = s.gens) (ok : Ok s') :
    ∃ w', (Instr.mapUpdate mt (.map (some x.tb)) (.int .i64 t.id) (tmV t)).run Tryz.prog W = .ok () w' ∧ w'.heap.size = W.heap.size ∧ W.grownBy w' (some x.tb) ∧ ∃ x', Aft W b x w' s' cl x' c ∧ x'.tb = x.tb := by
  obtain ⟨k1, k2⟩ := h.tkeys
  cases hf : find t.id s.T with
  | none =>
    have hn : ∀ p ∈ x.tl.map tmP, p.1 ≠ t.id := fun p hp => by
      obtain ⟨u, hu, rfl⟩ := List.mem_map.1 hp
      exact find_none hf u (h.tp.mem_iff.1 hu)
    obtain ⟨w', r, v, g, z⟩ := vinsert mapT h.tm k1 (tmV t) hid hn
    refine ⟨w', r, z, g, _, h.timers (tl' := x.tl ++ [t]) (by rw [List.map_append]; exact v) g (by rw [hT]; exact perm_new h.tp h.ok.up hf) hr hg ok, rfl⟩
  | some u =>
    obtain ⟨h1, h2⟩ := find_some hf
    have hp : (t.id, tmV u) ∈ x.tl.map tmP := List.mem_map.2 ⟨u, h.tp.mem_iff.2 h1, by unfold tmP; rw [h2]⟩
    obtain ⟨w', r, v, g, z⟩ := vupdate mapT h.tm k1 k2 hp (tmV t)
    rw [tmP_map] at v
    exact ⟨w', r, z, g, _, h.timers v g (by rw [hT]; exact perm_old h.tp h.ok.up ⟨u, h1, h2⟩) hr hg ok, rfl⟩
end
end Go.Proofs.YtiidhcpflplpiaaGreatDoor

/-
  Layer 8: a set that is done.
-/
set_option linter.unusedVariables false
namespace Go.Proofs.YtiidhcpflplpiaaGreatDoor
open Go.RowKit Crn Nxt Ste
set_option maxRecDepth 100000
section
variable {w w' : World} {b : Nat} {s : St} {cl : List Int} {x : Px} {c : Nat}
/-- What the drawn region of a set reads. -/
structure Rs (w W : World) (b g : Nat) (x : Px) (o : OpN) : Prop where
  c1 : W.cell? ⟨b, 1, none⟩ = some (.int .i64 ((g : Int) + 1))
  c2 : W.cell? ⟨b, 2, none⟩ = some (.map (some x.tb))
  p1 : W.cell? ⟨w.heap.size, 1, none⟩ = some (.int .i64 o.client)
  p3 : W.cell? ⟨w.heap.size, 3, none⟩ = some (.int .i64 o.id)
  p9 : W.cell? ⟨w.heap.size, 9, none⟩ = some (.string o.cron)
theorem Rs.all {W : World} {g : Nat} {o : OpN} (h : Rs w W b g x o) : W.cell? ⟨b, 1, none⟩ = some (.int .i64 ((g : Int) + 1)) ∧ W.cell? ⟨b, 2, none⟩ = some (.map (some x.tb)) ∧ W.cell? ⟨w.heap.size, 1, none⟩ = some (.int .i64 o.client) ∧ W.cell? ⟨w.heap.size, 3, none⟩ = some (.int .i64 o.id) ∧ W.cell? ⟨w.heap.size, 9, none⟩ = some (.string o.cron) :=
  ⟨h.c1, h.c2, h.p1, h.p3, h.p9⟩
theorem Sv.rs {W : World} {s' : St} {g : Nat} (h : Sv W b s' cl x c) (hg : s'.gens = g + 1) {o : OpN} (hop : W.heap[w.heap.size]? = some (opO o)) : Rs w W b g x o :=
  ⟨by have := h.c1; rw [hg] at this; exact this, h.c2, (op_cells hop).2.1, (op_cells hop).2.2.2.1, (op_cells hop).2.2.2.2.2.2.2.2.2⟩
set_option maxHeartbeats 4000000 in
/-- What a set does. -/
theorem set_done (h : Sv w b s cl x c) (tb : Tab w) (nt : NTab w) (hc : c ≤ 900000) (o : OpN) (ho : OpOk o) (hs : settableB o = true) (hB : ¬ (o.cron.size ≠ 0 ∧ badB o.cron = true)) (hF : ¬ (find o.id s.T = none ∧ s.room ≤ s.T.length)) :
    Calls Tryz.prog 71 #[.pointer (some ⟨b, 0, none⟩), opV o] w fun e w' => e = .returned (rpV (setN s o).2) ∧ ∃ x', Aft w b x w' (setN s o).1 cl x' (c + 1) := by
  rw [set_D hs hB hF]
  have hlt : ∀ i, i ∈ own x b → i < w.heap.size := fun i hi => (h.lt i hi).1
  have B0 := Lib.hid (Bx.start w o)
  have cS := Lib.hid (fun W => settable_any o W)
  rw [hs] at cS
  have cR := Lib.hid refusal_any
  have cD : Hid (∀ W, Below w.heap.size w W → Calls Tryz.prog 86 #[.pointer (some ⟨b, 0, none⟩), opV o] W fun e w' => e = .returned (.tuple #[.int .i64 (dueR o), .int .i64 (dueE o)]) ∧ ∃ x', Aft W b x w' s cl x' (c + 1)) := fun W k => firstDue_any (h.below k) (tb.below k) (nt.below k) hc o ho
  rw [(dueE_ok hB).1, (dueE_ok hB).2] at cD
  have hq : hasT s.T o.id = false → decide ((s.room : Int) ≤ (s.T.length : Int)) = false ∧ decide (s.room ≤ s.T.length) = false := fun e => by
    have hf : find o.id s.T = none := by
      unfold hasT at e
      cases hf : find o.id s.T with
      | none => rfl
      | some t => rw [hf] at e; cases e
    have : ¬ s.room ≤ s.T.length := fun g => hF ⟨hf, g⟩
    exact ⟨by simpa using this, by simpa using this⟩
  have hg0 := h.ok.gens
  have hg1 := h.gc
  have hgi : (s.gens : Int) ≤ 1000000 := by omega
  have cC := Lib.hid (fun W => clone_any o.cron W (by have := ho.cron; omega))
  have hch := set_chg h.ok ho
  rw [set_D hs hB hF] at hch
  have hok : Hid (Ok { s with gens := s.gens + 1, T := put ⟨o.id, o.client, (s.gens + 1 : Nat), dueN o, o.cron⟩ (away o.id s.T) }) := hch.ok h.ok (by show s.gens + 1 ≤ 1000000; omega)
  replace hch := Lib.hid hch
  have hup := Lib.hid h.ok.up
  have hid64 := Lib.hid ho.id
  have hrd : Hid (∀ W x' c', Sv W b s cl x' c' → W.heap[w.heap.size]? = some (opO o) → Rd w W b s x' o) := fun W x' c' g1 g2 => g1.rd ho g2
  replace hlt := Lib.hid hlt
  replace hs := Lib.hid hs
  replace hB := Lib.hid hB
  replace hF := Lib.hid hF
  clear h tb nt ho
  generalize dueN o = D at *
  obtain ⟨okind, oclient, oreq, oid, ogen, oocc, odue, ostamp, oepoch, ocron⟩ := o
  simp only [opV, opC, opO, rpO] at *
  go_enter Tryz.func71, Tryz.ntmps71
  go_wp2_with fail
  refine (cS.out _).mono ?_
  rintro e w2 ⟨rfl, k2⟩
  have B2 := B0.out.below k2
  obtain ⟨p0, p1, p2, p3, p4, p5, p6, p7, p8, p9⟩ := op_cells B2.op
  replace B2 := Lib.hid B2
  clear B0 k2 cS
  go_wp2_with fail
  refine (cD.out _ B2.out.bel).mono ?_
  rintro e w3 ⟨rfl, x3, A3⟩
  clear p0 p1 p2 p3 p4 p5 p6 p7 p8 p9 cD
  have C3 := Lib.hid (B2.out.aft hlt.out A3)
  replace A3 := Lib.hid A3
  have HR : Hid (∀ W, Below w3.heap.size w3 W → Rd w W b s x3 ⟨okind, oclient, oreq, oid, ogen, oocc, odue, ostamp, oepoch, ocron⟩) := fun W k => hrd.out W x3 _ (A3.out.sv.below k) ((k.block _ (lt_in C3.out.1)).trans C3.out.1)
  clear hrd
  replace hch := True.intro
  go_wp2_with fail
  obtain ⟨c2, p3, lk⟩ := (HR.out w3.drew (Below.refl _ _).drew).all
  go_region_held3 (fun w' => w'.cell? ⟨b, 2, none⟩ = some (.map (some x3.tb)) ∧ w'.cell? ⟨w.heap.size, 3, none⟩ = some (.int .i64 oid) ∧ (Instr.lookup mt (.map (some x3.tb)) (.int .i64 oid) true).run Tryz.prog w' = .ok (.tuple #[tmV (valT s.T oid), .bool (hasT s.T oid)]) w')
    (first | exact ⟨c2, p3, lk⟩ | exact (HR.out _ (((Below.refl w3.heap.size w3).alloc (Nat.le_refl _) _).drew)).all) (fail)
  all_goals
    have k5 := (Below.refl w3.heap.size w3).alloc (Nat.le_refl _) (.cells #[.int .i64 (valT s.T oid).id, .int .i64 (valT s.T oid).client, .int .i64 (valT s.T oid).gen, .int .i64 (valT s.T oid).due, .string (valT s.T oid).cron] 37)
    replace k5 := k5.drew
    have A5 := Lib.hid (A3.out.below k5)
    have rp5 := Lib.hid ((k5.block _ (lt_in C3.out.2)).trans C3.out.2)
    have op5 := Lib.hid ((k5.block _ (lt_in C3.out.1)).trans C3.out.1)
    have HR5 : Hid (∀ n, Rd w ((w3.alloc (.cells #[.int .i64 (valT s.T oid).id, .int .i64 (valT s.T oid).client, .int .i64 (valT s.T oid).gen, .int .i64 (valT s.T oid).due, .string (valT s.T oid).cron] 37)).drew.drewN n) b s x3 ⟨okind, oclient, oreq, oid, ogen, oocc, odue, ostamp, oepoch, ocron⟩) := fun n => HR.out _ (below_drewN k5 n)
    clear k5 HR c2 p3 lk
    generalize (w3.alloc (.cells #[.int .i64 (valT s.T oid).id, .int .i64 (valT s.T oid).client, .int .i64 (valT s.T oid).gen, .int .i64 (valT s.T oid).due, .string (valT s.T oid).cron] 37)).drew = w5 at *
    generalize w3.heap.size = g3 at *
    have c0 : w5.cell? ⟨b, 0, none⟩ = some (.int .i64 (s.room : Int)) := (HR5.out 0).c0
    have c2 : w5.cell? ⟨b, 2, none⟩ = some (.map (some x3.tb)) := (HR5.out 0).c2
    have ln : ∀ n ty, (Builtin.len_ #[mt] ty #[.map (some x3.tb)]).run Tryz.prog (w5.drewN n) = .ok (.int .i64 (s.T.length : Int)) (w5.drewN n) := fun n => (HR5.out n).ln
    clear HR5
    generalize valT s.T oid = vt at *
    generalize hasT s.T oid = q at *
    cases q
    case false => 
      obtain ⟨hr, hr'⟩ := hq rfl
      clear hq
      go_wp2_with fail
      go_quiet (fail)
      have A6 := Lib.hid (A5.out.below (below_drewN (Below.refl _ _) nq))
      have rp6 : Hid ((w5.drewN nq).heap[w.heap.size + 1]? = some rpO) := rp5.out
      have op6 : Hid ((w5.drewN nq).heap[w.heap.size]? = some (opO ⟨okind, oclient, oreq, oid, ogen, oocc, odue, ostamp, oepoch, ocron⟩)) := op5.out
      clear c0 c2 ln A5 rp5 op5 A3 C3
      generalize w5.drewN nq = w6 at *
      have hbl := hlt.out b (by simp [own])
      have A8 : Hid (Aft w2 b x (w6.setCell ⟨b, 1, none⟩ (.int .i64 ((s.gens : Int) + 1))) { s with gens := s.gens + 1 } cl x3 (c + 1)) := A6.out.mono' (A6.out.sv.again (by omega) (by omega))
      have rp8 : Hid ((w6.setCell ⟨b, 1, none⟩ (.int .i64 ((s.gens : Int) + 1))).heap[w.heap.size + 1]? = some rpO) := (heap_setCell_other _ _ _ _ (show w.heap.size + 1 ≠ b by omega)).trans rp6.out
      have op8 : Hid ((w6.setCell ⟨b, 1, none⟩ (.int .i64 ((s.gens : Int) + 1))).heap[w.heap.size]? = some (opO ⟨okind, oclient, oreq, oid, ogen, oocc, odue, ostamp, oepoch, ocron⟩)) := (heap_setCell_other _ _ _ _ (show w.heap.size ≠ b by omega)).trans op6.out
      have c1 := A6.out.sv.c1
      have f1 := A6.out.sv.fz 1
      replace hbl := Lib.hid hbl
      replace hg0 := Lib.hid hg0
      replace hg1 := Lib.hid hg1
      replace hc := Lib.hid hc
      clear A6 rp6 op6
      go_wp2_with fail
      clear c1 f1
      generalize w6.setCell ⟨b, 1, none⟩ (.int .i64 ((s.gens : Int) + 1)) = w8 at *
      have HS : Hid (∀ W, Below w8.heap.size w8 W → Rs w W b s.gens x3 ⟨okind, oclient, oreq, oid, ogen, oocc, odue, ostamp, oepoch, ocron⟩) := fun W k => (A8.out.sv.below k).rs rfl ((k.block _ (lt_in op8.out)).trans op8.out)
      have HP : Hid (∀ W, Below w8.heap.size w8 W → ∃ w', (Instr.mapUpdate mt (.map (some x3.tb)) (.int .i64 oid) (.agg #[.int .i64 oid, .int .i64 oclient, .int .i64 ((s.gens : Int) + 1), .int .i64 D, .string ocron])).run Tryz.prog W = .ok () w' ∧ Rs w w' b s.gens x3 ⟨okind, oclient, oreq, oid, ogen, oocc, odue, ostamp, oepoch, ocron⟩ ∧ w'.heap[w.heap.size + 1]? = some rpO ∧ ∃ x', Aft w2 b x w' { s with gens := s.gens + 1, T := put ⟨oid, oclient, (s.gens + 1 : Nat), D, ocron⟩ (away oid s.T) } cl x' (c + 1)) := fun W k => by
        have A9 := A8.out.below k
        obtain ⟨w', r, z, g, x', A, hx⟩ := A9.sv.putT (t := ⟨oid, oclient, (s.gens + 1 : Nat), D, ocron⟩) (s' := { s with gens := s.gens + 1, T := put ⟨oid, oclient, (s.gens + 1 : Nat), D, ocron⟩ (away oid s.T) }) hid64.out rfl rfl rfl hok.out
        have hB := B2.out.lt
        have no : ∀ i, w.heap.size ≤ i → i < w2.heap.size → i ∉ Go.Proofs.YtiidhcpflplpiaaGreatDoor.own x3 b := fun i h1 h2 h3 => by
          rcases A9.own i h3 with e | e
          · have := hlt.out i e; omega
          · omega
        have hop := (A.kept.block _ (Nat.lt_of_lt_of_le (lt_in op8.out) k.size) (no _ (Nat.le_refl _) (by omega))).trans ((k.block _ (lt_in op8.out)).trans op8.out)
        have hrp := (A.kept.block _ (Nat.lt_of_lt_of_le (lt_in rp8.out) k.size) (no _ (by omega) hB)).trans ((k.block _ (lt_in rp8.out)).trans rp8.out)
        refine ⟨w', r, ?_, hrp, x', A9.mono' A⟩
        have h1 := A.sv.rs (g := s.gens) rfl hop
        exact ⟨h1.c1, by have := h1.c2; rw [hx] at this; exact this, h1.p1, h1.p3, h1.p9⟩
      obtain ⟨r1, r2, r3, r4, r5⟩ := (HS.out w8.drew (Below.refl _ _).drew).all
      go_region_held3 (fun w' => w'.cell? ⟨b, 1, none⟩ = some (.int .i64 ((s.gens : Int) + 1)) ∧ w'.cell? ⟨b, 2, none⟩ = some (.map (some x3.tb)) ∧ w'.cell? ⟨w.heap.size, 1, none⟩ = some (.int .i64 oclient) ∧ w'.cell? ⟨w.heap.size, 3, none⟩ = some (.int .i64 oid) ∧ w'.cell? ⟨w.heap.size, 9, none⟩ = some (.string ocron))
        (first | exact ⟨r1, r2, r3, r4, r5⟩ | exact ⟨t1, t2, t3, t4, t5⟩ | exact ⟨u1, u2, u3, u4, u5⟩)
        ((go_at_call 87; refine (cC.out _).mono ?_; rintro e w9 ⟨rfl, k9⟩; have kk : Hid (Below w8.heap.size w8 w9) := (Below.refl _ _).drew.trans k9; clear k9; obtain ⟨t1, t2, t3, t4, t5⟩ := (HS.out w9 kk.out).all; obtain ⟨w10, hrun, h10, rp10, x10, A10⟩ := HP.out w9 kk.out; obtain ⟨u1, u2, u3, u4, u5⟩ := h10; replace rp10 := Lib.hid rp10; replace A10 := Lib.hid A10))
      all_goals
        clear r1 r2 r3 r4 r5 t1 t2 t3 t4 t5 u2 u3 u4 u5 hrun HS HP
        obtain ⟨q0, q1, q2, z0, z1, z2⟩ := rp_cells rp10.out
        go_wp2_with fail
        refine bodyPost_ret (v := rpV ⟨0, (s.gens : Int) + 1, D⟩) ?_ rfl ?_
        · rw [results_cellA rfl]
          go_simp
        · exact ⟨rfl, x10, Aft.store A10.out B2.out.bel hlt.out (by omega) B2.out.lt _ _ _⟩
    case true =>
      clear hq
      go_wp2_with fail
      go_quiet (fail)
      have A6 := Lib.hid (A5.out.below (below_drewN (Below.refl _ _) nq))
      have rp6 : Hid ((w5.drewN nq).heap[w.heap.size + 1]? = some rpO) := rp5.out
      have op6 : Hid ((w5.drewN nq).heap[w.heap.size]? = some (opO ⟨okind, oclient, oreq, oid, ogen, oocc, odue, ostamp, oepoch, ocron⟩)) := op5.out
      clear c0 c2 ln A5 rp5 op5 A3 C3
      generalize w5.drewN nq = w6 at *
      have hbl := hlt.out b (by simp [own])
      have A8 : Hid (Aft w2 b x (w6.setCell ⟨b, 1, none⟩ (.int .i64 ((s.gens : Int) + 1))) { s with gens := s.gens + 1 } cl x3 (c + 1)) := A6.out.mono' (A6.out.sv.again (by omega) (by omega))
      have rp8 : Hid ((w6.setCell ⟨b, 1, none⟩ (.int .i64 ((s.gens : Int) + 1))).heap[w.heap.size + 1]? = some rpO) := (heap_setCell_other _ _ _ _ (show w.heap.size + 1 ≠ b by omega)).trans rp6.out
      have op8 : Hid ((w6.setCell ⟨b, 1, none⟩ (.int .i64 ((s.gens : Int) + 1))).heap[w.heap.size]? = some (opO ⟨okind, oclient, oreq, oid, ogen, oocc, odue, ostamp, oepoch, ocron⟩)) := (heap_setCell_other _ _ _ _ (show w.heap.size ≠ b by omega)).trans op6.out
      have c1 := A6.out.sv.c1
      have f1 := A6.out.sv.fz 1
      replace hbl := Lib.hid hbl
      replace hg0 := Lib.hid hg0
      replace hg1 := Lib.hid hg1
      replace hc := Lib.hid hc
      clear A6 rp6 op6
      go_wp2_with fail
      clear c1 f1
      generalize w6.setCell ⟨b, 1, none⟩ (.int .i64 ((s.gens : Int) + 1)) = w8 at *
      have HS : Hid (∀ W, Below w8.heap.size w8 W → Rs w W b s.gens x3 ⟨okind, oclient, oreq, oid, ogen, oocc, odue, ostamp, oepoch, ocron⟩) := fun W k => (A8.out.sv.below k).rs rfl ((k.block _ (lt_in op8.out)).trans op8.out)
      have HP : Hid (∀ W, Below w8.heap.size w8 W → ∃ w', (Instr.mapUpdate mt (.map (some x3.tb)) (.int .i64 oid) (.agg #[.int .i64 oid, .int .i64 oclient, .int .i64 ((s.gens : Int) + 1), .int .i64 D, .string ocron])).run Tryz.prog W = .ok () w' ∧ Rs w w' b s.gens x3 ⟨okind, oclient, oreq, oid, ogen, oocc, odue, ostamp, oepoch, ocron⟩ ∧ w'.heap[w.heap.size + 1]? = some rpO ∧ ∃ x', Aft w2 b x w' { s with gens := s.gens + 1, T := put ⟨oid, oclient, (s.gens + 1 : Nat), D, ocron⟩ (away oid s.T) } cl x' (c + 1)) := fun W k => by
        have A9 := A8.out.below k
        obtain ⟨w', r, z, g, x', A, hx⟩ := A9.sv.putT (t := ⟨oid, oclient, (s.gens + 1 : Nat), D, ocron⟩) (s' := { s with gens := s.gens + 1, T := put ⟨oid, oclient, (s.gens + 1 : Nat), D, ocron⟩ (away oid s.T) }) hid64.out rfl rfl rfl hok.out
        have hB := B2.out.lt
        have no : ∀ i, w.heap.size ≤ i → i < w2.heap.size → i ∉ Go.Proofs.YtiidhcpflplpiaaGreatDoor.own x3 b := fun i h1 h2 h3 => by
          rcases A9.own i h3 with e | e
          · have := hlt.out i e; omega
          · omega
        have hop := (A.kept.block _ (Nat.lt_of_lt_of_le (lt_in op8.out) k.size) (no _ (Nat.le_refl _) (by omega))).trans ((k.block _ (lt_in op8.out)).trans op8.out)
        have hrp := (A.kept.block _ (Nat.lt_of_lt_of_le (lt_in rp8.out) k.size) (no _ (by omega) hB)).trans ((k.block _ (lt_in rp8.out)).trans rp8.out)
        refine ⟨w', r, ?_, hrp, x', A9.mono' A⟩
        have h1 := A.sv.rs (g := s.gens) rfl hop
        exact ⟨h1.c1, by have := h1.c2; rw [hx] at this; exact this, h1.p1, h1.p3, h1.p9⟩
      obtain ⟨r1, r2, r3, r4, r5⟩ := (HS.out w8.drew (Below.refl _ _).drew).all
      go_region_held3 (fun w' => w'.cell? ⟨b, 1, none⟩ = some (.int .i64 ((s.gens : Int) + 1)) ∧ w'.cell? ⟨b, 2, none⟩ = some (.map (some x3.tb)) ∧ w'.cell? ⟨w.heap.size, 1, none⟩ = some (.int .i64 oclient) ∧ w'.cell? ⟨w.heap.size, 3, none⟩ = some (.int .i64 oid) ∧ w'.cell? ⟨w.heap.size, 9, none⟩ = some (.string ocron))
        (first | exact ⟨r1, r2, r3, r4, r5⟩ | exact ⟨t1, t2, t3, t4, t5⟩ | exact ⟨u1, u2, u3, u4, u5⟩)
        ((go_at_call 87; refine (cC.out _).mono ?_; rintro e w9 ⟨rfl, k9⟩; have kk : Hid (Below w8.heap.size w8 w9) := (Below.refl _ _).drew.trans k9; clear k9; obtain ⟨t1, t2, t3, t4, t5⟩ := (HS.out w9 kk.out).all; obtain ⟨w10, hrun, h10, rp10, x10, A10⟩ := HP.out w9 kk.out; obtain ⟨u1, u2, u3, u4, u5⟩ := h10; replace rp10 := Lib.hid rp10; replace A10 := Lib.hid A10))
      all_goals
        clear r1 r2 r3 r4 r5 t1 t2 t3 t4 t5 u2 u3 u4 u5 hrun HS HP
        obtain ⟨q0, q1, q2, z0, z1, z2⟩ := rp_cells rp10.out
        go_wp2_with fail
        refine bodyPost_ret (v := rpV ⟨0, (s.gens : Int) + 1, D⟩) ?_ rfl ?_
        · rw [results_cellA rfl]
          go_simp
        · exact ⟨rfl, x10, Aft.store A10.out B2.out.bel hlt.out (by omega) B2.out.lt _ _ _⟩
end
end Go.Proofs.YtiidhcpflplpiaaGreatDoor

/-
  Layer 8: cancel and fire.
-/
set_option linter.unusedVariables false
namespace Go.Proofs.YtiidhcpflplpiaaGreatDoor
open Go.RowKit Crn Nxt Ste
set_option maxRecDepth 100000
section
variable {w w' : World} {b : Nat} {s : St} {cl : List Int} {x : Px} {c : Nat}
theorem hasT_none {T : List Tm} {id : Int} (h : hasT T id = false) : find id T = none := by
  unfold hasT at h
  cases hf : find id T with
  | none => rfl
  | some t => rw [hf] at h; cases h
/-- The map's entries behind one that goes. -/
theorem Sv.awayT {W : World} (h : Sv W b s cl x c) {id : Int} (hq : hasT s.T id = true) {s' : St} (hT : s'.T = away id s.T) (hr : s'.room = s.room) (hg : s'.gens = s.gens) (ok : Ok s') :
    ∃ w', (∀ ty, (Builtin.delete_ #[mt, 3] ty #[.map (some x.tb), .int .i64 id]).run Tryz.prog W = .ok (.tuple #[]) w') ∧ w'.heap.size = W.heap.size ∧ W.grownBy w' (some x.tb) ∧ ∃ x', Aft W b x w' s' cl x' c ∧ x'.tb = x.tb := by
  obtain ⟨k1, k2⟩ := h.tkeys
  obtain ⟨h1, h2⟩ := find_some (hasT_some hq)
  have hp : (id, tmV (valT s.T id)) ∈ x.tl.map tmP := List.mem_map.2 ⟨valT s.T id, h.tp.mem_iff.2 h1, by unfold tmP; rw [h2]⟩
  obtain ⟨w', r, v, g, z⟩ := vdelete mapT h.tm k1 k2 hp
  rw [tmP_filter] at v
  exact ⟨w', r, z, g, _, h.timers v g (by rw [hT]; exact perm_away h.tp id) hr hg ok, rfl⟩
theorem cancel_none {s : St} {o : OpN} (h : hasT s.T o.id = false) : cancelN s o = (s, ⟨6, 0, 0⟩) := by
  unfold cancelN
  rw [hasT_none h]
theorem cancel_some {s : St} {o : OpN} (h : hasT s.T o.id = true) : cancelN s o = ({ s with T := away o.id s.T }, ⟨0, (valT s.T o.id).gen, (valT s.T o.id).due⟩) := by
  unfold cancelN
  rw [hasT_some h]
set_option maxHeartbeats 4000000 in
theorem cancel_any (h : Sv w b s cl x c) (o : OpN) (ho : OpOk o) :
    Calls Tryz.prog 72 #[.pointer (some ⟨b, 0, none⟩), opV o] w fun e w' => e = .returned (rpV (cancelN s o).2) ∧ ∃ x', Aft w b x w' (cancelN s o).1 cl x' c := by
  have hlt := Lib.hid (fun i hi => (h.lt i hi).1)
  have B0 := Lib.hid (Bx.start w o)
  have cR := Lib.hid refusal_any
  have cG : Hid (∀ W, Below w.heap.size w W → Calls Tryz.prog 17 #[.pointer (some ⟨b, 0, none⟩), .int .i64 o.id] W fun e w' => e = .returned (.tuple #[tmV (valT s.T o.id), .int .i64 (getE s.T o.id)]) ∧ Below W.heap.size W w') := fun W k => get_any (h.below k) o.id ho.id
  have hch := cancel_chg h.ok ho
  have hg0 := h.ok.gens
  have hS : Hid (∀ W, Below w.heap.size w W → Sv W b s cl x c) := fun W k => h.below k
  obtain ⟨p0, p1, p2, p3, p4, p5, p6, p7, p8, p9⟩ := op_cells B0.out.op
  clear p0 p1 p2 p4 p5 p6 p7 p8 p9
  cases hq : hasT s.T o.id with
  | false =>
    have hge : getE s.T o.id = 6 := by unfold getE; rw [hq]; rfl
    rw [hge] at cG
    rw [cancel_none hq]
    clear h ho hch hge hg0
    replace hq := Lib.hid hq
    obtain ⟨okind, oclient, oreq, oid, ogen, oocc, odue, ostamp, oepoch, ocron⟩ := o
    simp only [opV, opC, opO, rpO] at *
    generalize valT s.T oid = vt at *
    go_enter Tryz.func72, Tryz.ntmps72
    go_wp2_with fail
    refine (cG.out _ B0.out.bel).mono ?_
    rintro e w2 ⟨rfl, k2⟩
    have B2 := Lib.hid (B0.out.below k2)
    clear B0 k2 p3
    go_wp2_with fail
    refine (cR.out 6 _).mono ?_
    rintro e w3 ⟨rfl, k3⟩
    have k30 := (Below.refl w2.heap.size w2).alloc (Nat.le_refl _) (.cells #[.int .i64 vt.id, .int .i64 vt.client, .int .i64 vt.gen, .int .i64 vt.due, .string vt.cron] 37)
    have B3 := B2.out.below (k30.trans (k3.mono k30.size))
    obtain ⟨q0, q1, q2, z0, z1, z2⟩ := rp_cells B3.rp
    have A3 := Lib.hid (Aft.refl (hS.out _ B3.bel))
    replace B3 := Lib.hid B3
    clear B2 k3 k30
    go_wp2_with fail
    refine bodyPost_ret (v := rpV ⟨6, 0, 0⟩) ?_ rfl ?_
    · rw [results_cellA rfl]
      go_simp
    · exact ⟨rfl, x, Aft.store A3.out B3.out.bel hlt.out (by omega) B3.out.lt _ _ _⟩
  | true =>
    have hge : getE s.T o.id = 0 := by unfold getE; rw [hq]; rfl
    rw [hge] at cG
    rw [cancel_some hq] at hch ⊢
    have hok := Lib.hid (hch.ok h.ok hg0)
    have HD : Hid (∀ W, Sv W b s cl x c → ∃ w', (∀ ty, (Builtin.delete_ #[mt, 3] ty #[.map (some x.tb), .int .i64 o.id]).run Tryz.prog W = .ok (.tuple #[]) w') ∧ w'.cell? ⟨b, 2, none⟩ = some (.map (some x.tb)) ∧ ∃ x', Aft W b x w' { s with T := away o.id s.T } cl x' c) := fun W hW => by
      obtain ⟨w', r, _, _, x', A, hx⟩ := hW.awayT (s' := { s with T := away o.id s.T }) hq rfl rfl rfl hok.out
      exact ⟨w', r, by have := A.sv.c2; rw [hx] at this; exact this, x', A⟩
    clear h ho hch hge hg0 hok
    replace hq := Lib.hid hq
    obtain ⟨okind, oclient, oreq, oid, ogen, oocc, odue, ostamp, oepoch, ocron⟩ := o
    simp only [opV, opC, opO, rpO] at *
    generalize valT s.T oid = vt at *
    go_enter Tryz.func72, Tryz.ntmps72
    go_wp2_with fail
    refine (cG.out _ B0.out.bel).mono ?_
    rintro e w2 ⟨rfl, k2⟩
    have B2 := Lib.hid (B0.out.below k2)
    clear B0 k2 p3
    go_wp2_with fail
    have k3 := (Below.refl w2.heap.size w2).alloc (Nat.le_refl _) (.cells #[.int .i64 vt.id, .int .i64 vt.client, .int .i64 vt.gen, .int .i64 vt.due, .string vt.cron] 37)
    have B3 := Lib.hid (B2.out.below k3)
    have t2 : (w2.alloc (.cells #[.int .i64 vt.id, .int .i64 vt.client, .int .i64 vt.gen, .int .i64 vt.due, .string vt.cron] 37)).cell? ⟨w2.heap.size, 2, none⟩ = some (.int .i64 vt.gen) := cell_in (Go.heap_alloc_new w2 _) 2
    have t3 : (w2.alloc (.cells #[.int .i64 vt.id, .int .i64 vt.client, .int .i64 vt.gen, .int .i64 vt.due, .string vt.cron] 37)).cell? ⟨w2.heap.size, 3, none⟩ = some (.int .i64 vt.due) := cell_in (Go.heap_alloc_new w2 _) 3
    have hB2 := Lib.hid B2.out.lt
    have hsz : w2.heap.size < (w2.alloc (.cells #[.int .i64 vt.id, .int .i64 vt.client, .int .i64 vt.gen, .int .i64 vt.due, .string vt.cron] 37)).heap.size := by simp
    replace hsz := Lib.hid hsz
    clear B2 k3
    generalize w2.alloc (.cells #[.int .i64 vt.id, .int .i64 vt.client, .int .i64 vt.gen, .int .i64 vt.due, .string vt.cron] 37) = w3 at *
    generalize w2.heap.size = g3 at *
    have c2 := (hS.out _ B3.out.bel).c2
    have p3 := (op_cells B3.out.op).2.2.2.1
    obtain ⟨w4, hdel, d2, x4, A4⟩ := HD.out w3.drew (hS.out _ B3.out.bel.drew)
    have hw : ∀ k, w.heap.size ≤ k → k < w3.heap.size → w4.heap[k]? = w3.heap[k]? := fun k h1 h2 => A4.kept.block k h2 (fun g => by have := hlt.out k g; omega)
    have hB3 := B3.out.lt
    have hop := (hw _ (Nat.le_refl _) (by omega)).trans B3.out.op
    have hrp := (hw _ (by omega) hB3).trans B3.out.rp
    have d3 := (op_cells hop).2.2.2.1
    obtain ⟨q0, q1, q2, z0, z1, z2⟩ := rp_cells hrp
    have u2 := (World.cell?_of_block (w := w3) (a := ⟨g3, 2, none⟩) (hw g3 (by have := hB2.out; omega) hsz.out)).trans t2
    have u3 := (World.cell?_of_block (w := w3) (a := ⟨g3, 3, none⟩) (hw g3 (by have := hB2.out; omega) hsz.out)).trans t3
    have A5 : Hid (Aft w3 b x w4 { s with T := away oid s.T } cl x4 c) := Aft.before (Below.refl _ _).drew A4
    clear hop hrp hw A4 HD
    replace hB3 := Lib.hid hB3
    go_region_held3 (fun w' => w'.cell? ⟨b, 2, none⟩ = some (.map (some x.tb)) ∧ w'.cell? ⟨w.heap.size, 3, none⟩ = some (.int .i64 oid)) (first | exact ⟨c2, p3⟩ | exact ⟨d2, d3⟩) (fail)
    all_goals
      clear c2 p3 d2 d3 hdel t2 t3
      go_wp2_with fail
      refine bodyPost_ret (v := rpV ⟨0, vt.gen, vt.due⟩) ?_ rfl ?_
      · rw [results_cellA rfl]
        go_simp
      · exact ⟨rfl, x4, Aft.store A5.out B3.out.bel hlt.out (by omega) B3.out.lt _ _ _⟩
end
end Go.Proofs.YtiidhcpflplpiaaGreatDoor

/-
  Layer 8: fire.
-/
set_option linter.unusedVariables false
namespace Go.Proofs.YtiidhcpflplpiaaGreatDoor
open Go.RowKit Crn Nxt Ste
set_option maxRecDepth 100000
section
variable {w w' : World} {b : Nat} {s : St} {cl : List Int} {x : Px} {c : Nat}
theorem fires_has {s : St} {o : OpN} (h : firesB s o = true) : hasT s.T o.id = true := by
  unfold firesB at h
  unfold hasT
  cases hf : find o.id s.T with
  | none => rw [hf] at h; simp at h
  | some t => rfl
theorem fire_no {s : St} {o : OpN} (h : firesB s o = false) : fireN s o = (s, ⟨6, 0, 0⟩) := by
  unfold fireN
  rw [if_pos h]
theorem fire_once {s : St} {o : OpN} (h : firesB s o = true) (hz : (valT s.T o.id).cron.size = 0) : fireN s o = ({ s with T := away o.id s.T }, ⟨0, o.gen, o.occ⟩) := by
  unfold fireN
  rw [if_neg (by rw [h]; simp), hasT_some (fires_has h)]
  show (({ s with T := if (valT s.T o.id).cron.size = 0 then _ else _ } : St), _) = _
  rw [if_pos hz]
theorem fire_again {s : St} {o : OpN} (h : firesB s o = true) (hz : ¬ (valT s.T o.id).cron.size = 0) : fireN s o = ({ s with T := put { valT s.T o.id with due := afterN (valT s.T o.id).cron (max o.occ o.stamp) } (away o.id s.T) }, ⟨0, o.gen, o.occ⟩) := by
  unfold fireN
  rw [if_neg (by rw [h]; simp), hasT_some (fires_has h)]
  show (({ s with T := if (valT s.T o.id).cron.size = 0 then _ else _ } : St), _) = _
  rw [if_neg hz]
set_option maxHeartbeats 4000000 in
theorem fire_refused (h : Sv w b s cl x c) (o : OpN) (ho : OpOk o) (hf : firesB s o = false) :
    Calls Tryz.prog 32 #[.pointer (some ⟨b, 0, none⟩), opV o] w fun e w' => e = .returned (rpV (fireN s o).2) ∧ ∃ x', Aft w b x w' (fireN s o).1 cl x' c := by
  rw [fire_no hf]
  have hlt := Lib.hid (fun i hi => (h.lt i hi).1)
  have B0 := Lib.hid (Bx.start w o)
  have cR := Lib.hid refusal_any
  have cF : Hid (∀ W, Below w.heap.size w W → Calls Tryz.prog 13 #[.pointer (some ⟨b, 0, none⟩), opV o] W fun e w' => e = .returned (.bool (firesB s o)) ∧ Below W.heap.size W w') := fun W k => fires_any (h.below k) o ho
  rw [hf] at cF
  have hS : Hid (∀ W, Below w.heap.size w W → Sv W b s cl x c) := fun W k => h.below k
  obtain ⟨p0, p1, p2, p3, p4, p5, p6, p7, p8, p9⟩ := op_cells B0.out.op
  replace hf := Lib.hid hf
  clear h ho
  obtain ⟨okind, oclient, oreq, oid, ogen, oocc, odue, ostamp, oepoch, ocron⟩ := o
  simp only [opV, opC, opO, rpO] at *
  go_enter Tryz.func32, Tryz.ntmps32
  go_wp2_with fail
  refine (cF.out _ B0.out.bel).mono ?_
  rintro e w2 ⟨rfl, k2⟩
  have B2 := Lib.hid (B0.out.below k2)
  clear B0 k2 p0 p1 p2 p3 p4 p5 p6 p7 p8 p9
  go_wp2_with fail
  refine (cR.out 6 _).mono ?_
  rintro e w3 ⟨rfl, k3⟩
  have B3 := B2.out.below k3
  obtain ⟨q0, q1, q2, z0, z1, z2⟩ := rp_cells B3.rp
  have A3 := Lib.hid (Aft.refl (hS.out _ B3.bel))
  replace B3 := Lib.hid B3
  clear B2 k3
  go_wp2_with fail
  refine bodyPost_ret (v := rpV ⟨6, 0, 0⟩) ?_ rfl ?_
  · rw [results_cellA rfl]
    go_simp
  · exact ⟨rfl, x, Aft.store A3.out B3.out.bel hlt.out (by omega) B3.out.lt _ _ _⟩

/-- A cell of a block that the call made is written. -/
theorem Aft.put1 {W1 : World} {s' : St} {cl' : List Int} {x' : Px} {c' r : Nat} (A : Aft W1 b x w' s' cl' x' c') (k : Below w.heap.size w W1) (hlt : ∀ i, i ∈ Go.Proofs.YtiidhcpflplpiaaGreatDoor.own x b → i < w.heap.size) (hr : w.heap.size ≤ r) (hr1 : r < W1.heap.size) (o : Nat) (v : Value) :
    Aft w b x (w'.setCell ⟨r, o, none⟩ v) s' cl' x' c' := by
  have A0 := A.before k
  have kr : Kl [r] w' (w'.setCell ⟨r, o, none⟩ v) := (Kl.refl _ _).setCell (by simp) o v
  refine ⟨A.sv.kept kr (fun i hi ho => ?_), ⟨kr.os.trans A0.kept.os, kr.tape.trans A0.kept.tape, kr.output.trans A0.kept.output, Nat.le_trans A0.kept.size kr.size, fun i hi hn => (kr.block i (Nat.lt_of_lt_of_le hi A0.kept.size) (by simp only [List.mem_singleton]; omega)).trans (A0.kept.block i hi hn)⟩, A0.own, A0.kl⟩
  simp only [List.mem_singleton] at hi
  subst hi
  rcases A.own i ho with g | g
  · have := hlt i g; omega
  · omega
theorem tm_cells {W : World} {g : Nat} {v0 v1 v2 v3 v4 : Value} (h : W.heap[g]? = some (.cells #[v0, v1, v2, v3, v4] 37)) : W.cell? ⟨g, 0, none⟩ = some v0 ∧ W.cell? ⟨g, 1, none⟩ = some v1 ∧ W.cell? ⟨g, 2, none⟩ = some v2 ∧ W.cell? ⟨g, 3, none⟩ = some v3 ∧ W.cell? ⟨g, 4, none⟩ = some v4 ∧ W.frozen? ⟨g, 3, none⟩ = false :=
  ⟨cell_in h 0, cell_in h 1, cell_in h 2, cell_in h 3, cell_in h 4, free_in h 3⟩
set_option maxHeartbeats 8000000 in
theorem fire_done (h : Sv w b s cl x c) (tb : Tab w) (nt : NTab w) (hc : c ≤ 900000) (o : OpN) (ho : OpOk o) (hf : firesB s o = true) :
    Calls Tryz.prog 32 #[.pointer (some ⟨b, 0, none⟩), opV o] w fun e w' => e = .returned (rpV (fireN s o).2) ∧ ∃ x', Aft w b x w' (fireN s o).1 cl x' (c + 1) := by
  have hlt := Lib.hid (fun i hi => (h.lt i hi).1)
  have B0 := Lib.hid (Bx.start w o)
  have cF : Hid (∀ W, Below w.heap.size w W → Calls Tryz.prog 13 #[.pointer (some ⟨b, 0, none⟩), opV o] W fun e w' => e = .returned (.bool (firesB s o)) ∧ Below W.heap.size W w') := fun W k => fires_any (h.below k) o ho
  rw [hf] at cF
  have hq := fires_has hf
  have hS : Hid (∀ W, Below w.heap.size w W → Sv W b s cl x c) := fun W k => h.below k
  have hlk : Hid (∀ W, Below w.heap.size w W → (Instr.lookup mt (.map (some x.tb)) (.int .i64 o.id) false).run Tryz.prog W = .ok (tmV (valT s.T o.id)) W) := fun W k => ((h.below k).lookT ho.id rfl).2
  have hch := (apply_ok h.ok ho (by have := h.gc; omega)).1
  have hcr := (h.ok.tm _ (find_some (hasT_some hq)).1).cron
  have hvid := (find_some (hasT_some hq)).2
  have hCN : Hid (∀ W, Below w.heap.size w W → Calls Tryz.prog 57 #[.pointer (some ⟨x.cb, 0, none⟩), .string (valT s.T o.id).cron, .int .i64 (max o.occ o.stamp)] W fun e w' => e = .returned (.tuple #[.int .i64 (afterN (valT s.T o.id).cron (max o.occ o.stamp)), .int .i64 (erC (valT s.T o.id).cron (max o.occ o.stamp))]) ∧ ∃ x', Aft W b x w' s cl x' (c + 1) ∧ x'.cb = x.cb ∧ x'.tb = x.tb) := fun W k =>
    (h.below k).ask (tb.below k) (nt.below k) hc _ _ hcr ⟨by have := ho.occ.1; have := ho.stamp.1; omega, by have := ho.occ.2; have := ho.stamp.2; omega⟩
  have hfk : o.kind = 3 := by
    refine Classical.byContradiction fun g => ?_
    rw [fires_kind g] at hf
    cases hf
  rw [show applyN s o = fireN s o by unfold applyN; rw [if_neg (by omega), if_pos hfk]] at hch
  have hid64 := Lib.hid ho.id
  obtain ⟨p0, p1, p2, p3, p4, p5, p6, p7, p8, p9⟩ := op_cells B0.out.op
  replace hf := Lib.hid hf
  replace hfk := Lib.hid hfk
  replace hc := Lib.hid hc
  by_cases hz : (valT s.T o.id).cron.size = 0
  · rw [fire_once hf.out hz] at hch ⊢
    have HD : Hid (∀ W, Sv W b s cl x c → ∃ w', (∀ ty, (Builtin.delete_ #[mt, 3] ty #[.map (some x.tb), .int .i64 o.id]).run Tryz.prog W = .ok (.tuple #[]) w') ∧ w'.cell? ⟨b, 2, none⟩ = some (.map (some x.tb)) ∧ ∃ x', Aft W b x w' { s with T := away o.id s.T } cl x' c) := fun W hW => by
      obtain ⟨w', r, _, _, x', A, hx⟩ := hW.awayT (s' := { s with T := away o.id s.T }) hq rfl rfl rfl hch
      exact ⟨w', r, by have := A.sv.c2; rw [hx] at this; exact this, x', A⟩
    clear h tb nt ho hch hCN hcr
    replace hq := Lib.hid hq
    replace hvid := Lib.hid hvid
    obtain ⟨okind, oclient, oreq, oid, ogen, oocc, odue, ostamp, oepoch, ocron⟩ := o
    simp only [opV, opC, opO, rpO] at *
    generalize valT s.T oid = vt at *
    obtain ⟨vid, vclient, vgen, vdue, vcron⟩ := vt
    simp only at *
    obtain rfl := size_no hz
    replace hz := True.intro
    go_enter Tryz.func32, Tryz.ntmps32
    go_wp2_with fail
    refine (cF.out _ B0.out.bel).mono ?_
    rintro e w2 ⟨rfl, k2⟩
    have B2 := Lib.hid (B0.out.below k2)
    clear B0 k2 p0 p1 p2 p3 p4 p5 p6 p7 p8 p9
    have c2 := (hS.out _ B2.out.bel.drew).c2
    have p3 : w2.drew.cell? ⟨w.heap.size, 3, none⟩ = some (.int .i64 oid) := (op_cells B2.out.op).2.2.2.1
    have lk := hlk.out _ B2.out.bel.drew
    have HK : Hid (∀ o : Obj, (w2.alloc o).drew.cell? ⟨b, 2, none⟩ = some (.map (some x.tb)) ∧ (w2.alloc o).drew.cell? ⟨w.heap.size, 3, none⟩ = some (.int .i64 oid) ∧ (Instr.lookup mt (.map (some x.tb)) (.int .i64 oid) false).run Tryz.prog (w2.alloc o).drew = .ok (tmV ⟨vid, vclient, vgen, vdue, ⟨#[]⟩⟩) (w2.alloc o).drew) := fun o => by
      have B3 := B2.out.below ((Below.refl w2.heap.size w2).alloc (Nat.le_refl _) o).drew
      exact ⟨(hS.out _ B3.bel).c2, (op_cells B3.op).2.2.2.1, hlk.out _ B3.bel⟩
    go_wp2_with fail
    go_region_held3 (fun w' => w'.cell? ⟨b, 2, none⟩ = some (.map (some x.tb)) ∧ w'.cell? ⟨w.heap.size, 3, none⟩ = some (.int .i64 oid) ∧ (Instr.lookup mt (.map (some x.tb)) (.int .i64 oid) false).run Tryz.prog w' = .ok (tmV ⟨vid, vclient, vgen, vdue, ⟨#[]⟩⟩) w')
      (first | exact ⟨c2, p3, lk⟩ | exact HK.out _) (fail)
    all_goals
      clear c2 p3 lk HK
      have k3 := ((Below.refl w2.heap.size w2).alloc (Nat.le_refl _) (.cells #[.int .i64 vid, .int .i64 vclient, .int .i64 vgen, .int .i64 vdue, .string ⟨#[]⟩] 37)).drew
      have B3 := Lib.hid (B2.out.below k3)
      have t4 : (w2.alloc (.cells #[.int .i64 vid, .int .i64 vclient, .int .i64 vgen, .int .i64 vdue, .string ⟨#[]⟩] 37)).drew.cell? ⟨w2.heap.size, 4, none⟩ = some (.string ⟨#[]⟩) := cell_in (Go.heap_alloc_new w2 _) 4
      clear k3
      generalize (w2.alloc (.cells #[.int .i64 vid, .int .i64 vclient, .int .i64 vgen, .int .i64 vdue, .string ⟨#[]⟩] 37)).drew = w3 at *
      generalize w2.heap.size = g3 at *
      have c2 := (hS.out _ B3.out.bel.drew).c2
      have p3 : w3.drew.cell? ⟨w.heap.size, 3, none⟩ = some (.int .i64 oid) := (op_cells B3.out.op).2.2.2.1
      obtain ⟨w4, hdel, d2, x4, A4⟩ := HD.out w3.drew (hS.out _ B3.out.bel.drew)
      have hw : ∀ k, w.heap.size ≤ k → k < w3.heap.size → w4.heap[k]? = w3.heap[k]? := fun k h1 h2 => A4.kept.block k h2 (fun g => by have := hlt.out k g; omega)
      have hB3 := B3.out.lt
      have hop := (hw w.heap.size (Nat.le_refl _) (by omega)).trans B3.out.op
      have hrp := (hw (w.heap.size + 1) (by omega) hB3).trans B3.out.rp
      obtain ⟨d0, d1, d2', d3, d4, d5, d6, d7, d8, d9⟩ := op_cells hop
      obtain ⟨q0, q1, q2, z0, z1, z2⟩ := rp_cells hrp
      have A5 : Hid (Aft w3 b x w4 { s with T := away oid s.T } cl x4 c) := Aft.before (Below.refl _ _).drew A4
      clear hop hrp hw A4 HD d0 d1 d2' d6 d7 d8 d9
      replace hB3 := Lib.hid hB3
      go_wp2_with fail
      go_region_held3 (fun w' => w'.cell? ⟨b, 2, none⟩ = some (.map (some x.tb)) ∧ w'.cell? ⟨w.heap.size, 3, none⟩ = some (.int .i64 oid)) (first | exact ⟨c2, p3⟩ | exact ⟨d2, d3⟩) (fail)
      all_goals
        clear c2 p3 d2 d3 hdel t4
        go_wp2_with fail
        refine bodyPost_ret (v := rpV ⟨0, ogen, oocc⟩) ?_ rfl ?_
        · rw [results_cellA rfl]
          go_simp
        · exact ⟨rfl, x4, (Aft.store A5.out B3.out.bel hlt.out (by omega) B3.out.lt _ _ _).more (Nat.le_succ _)⟩
  · rw [fire_again hf.out hz] at hch ⊢
    have hq3 := empty_no hz
    have HP : Hid (∀ W x' c', Sv W b s cl x' c' → x'.tb = x.tb → ∃ w', (Instr.mapUpdate mt (.map (some x.tb)) (.int .i64 o.id) (tmV { valT s.T o.id with due := afterN (valT s.T o.id).cron (max o.occ o.stamp) })).run Tryz.prog W = .ok () w' ∧ w'.cell? ⟨b, 2, none⟩ = some (.map (some x.tb)) ∧ ∃ x2, Aft W b x' w' { s with T := put { valT s.T o.id with due := afterN (valT s.T o.id).cron (max o.occ o.stamp) } (away o.id s.T) } cl x2 c') := fun W x' c' hW hx => by
      obtain ⟨w', r, _, _, x2, A, hx2⟩ := hW.putT (t := { valT s.T o.id with due := afterN (valT s.T o.id).cron (max o.occ o.stamp) }) (s' := { s with T := put { valT s.T o.id with due := afterN (valT s.T o.id).cron (max o.occ o.stamp) } (away o.id s.T) }) (by rw [show ({ valT s.T o.id with due := afterN (valT s.T o.id).cron (max o.occ o.stamp) } : Tm).id = o.id from hvid]; exact hid64.out) (by rw [show ({ valT s.T o.id with due := afterN (valT s.T o.id).cron (max o.occ o.stamp) } : Tm).id = o.id from hvid]) rfl rfl hch
      rw [show ({ valT s.T o.id with due := afterN (valT s.T o.id).cron (max o.occ o.stamp) } : Tm).id = o.id from hvid, hx] at r
      exact ⟨w', r, by have := A.sv.c2; rw [hx2, hx] at this; exact this, x2, A⟩
    clear h tb nt ho hch hcr
    replace hq := Lib.hid hq
    replace hz := Lib.hid hz
    obtain ⟨okind, oclient, oreq, oid, ogen, oocc, odue, ostamp, oepoch, ocron⟩ := o
    simp only [opV, opC, opO, rpO] at *
    generalize valT s.T oid = vt at *
    obtain ⟨vid, vclient, vgen, vdue, vcron⟩ := vt
    simp only at *
    subst vid
    generalize afterN vcron (max oocc ostamp) = A at *
    generalize erC vcron (max oocc ostamp) = E at *
    go_enter Tryz.func32, Tryz.ntmps32
    go_wp2_with fail
    refine (cF.out _ B0.out.bel).mono ?_
    rintro e w2 ⟨rfl, k2⟩
    have B2 := Lib.hid (B0.out.below k2)
    clear B0 k2 p0 p1 p2 p3 p4 p5 p6 p7 p8 p9
    have c2 := (hS.out _ B2.out.bel.drew).c2
    have p3 : w2.drew.cell? ⟨w.heap.size, 3, none⟩ = some (.int .i64 oid) := (op_cells B2.out.op).2.2.2.1
    have lk := hlk.out _ B2.out.bel.drew
    have HK : Hid (∀ o : Obj, (w2.alloc o).drew.cell? ⟨b, 2, none⟩ = some (.map (some x.tb)) ∧ (w2.alloc o).drew.cell? ⟨w.heap.size, 3, none⟩ = some (.int .i64 oid) ∧ (Instr.lookup mt (.map (some x.tb)) (.int .i64 oid) false).run Tryz.prog (w2.alloc o).drew = .ok (tmV ⟨oid, vclient, vgen, vdue, vcron⟩) (w2.alloc o).drew) := fun o => by
      have B3 := B2.out.below ((Below.refl w2.heap.size w2).alloc (Nat.le_refl _) o).drew
      exact ⟨(hS.out _ B3.bel).c2, (op_cells B3.op).2.2.2.1, hlk.out _ B3.bel⟩
    go_wp2_with fail
    go_region_held3 (fun w' => w'.cell? ⟨b, 2, none⟩ = some (.map (some x.tb)) ∧ w'.cell? ⟨w.heap.size, 3, none⟩ = some (.int .i64 oid) ∧ (Instr.lookup mt (.map (some x.tb)) (.int .i64 oid) false).run Tryz.prog w' = .ok (tmV ⟨oid, vclient, vgen, vdue, vcron⟩) w')
      (first | exact ⟨c2, p3, lk⟩ | exact HK.out _) (fail)
    all_goals
      clear c2 p3 lk HK
      have k3 := ((Below.refl w2.heap.size w2).alloc (Nat.le_refl _) (.cells #[.int .i64 oid, .int .i64 vclient, .int .i64 vgen, .int .i64 vdue, .string vcron] 37)).drew
      have B3 := Lib.hid (B2.out.below k3)
      have T3 : Hid ((w2.alloc (.cells #[.int .i64 oid, .int .i64 vclient, .int .i64 vgen, .int .i64 vdue, .string vcron] 37)).drew.heap[w2.heap.size]? = some (.cells #[.int .i64 oid, .int .i64 vclient, .int .i64 vgen, .int .i64 vdue, .string vcron] 37)) := Go.heap_alloc_new w2 _
      have hg3 : ∃ g, w2.heap.size = g := ⟨_, rfl⟩
      obtain ⟨g3, hg3⟩ := hg3
      rw [hg3] at T3 ⊢
      replace hg3 := Lib.hid hg3
      replace k3 := Lib.hid k3
      generalize (w2.alloc (.cells #[.int .i64 oid, .int .i64 vclient, .int .i64 vgen, .int .i64 vdue, .string vcron] 37)).drew = w3 at *
      have t4 := (tm_cells T3.out).2.2.2.2.1
      go_wp2_with fail
      have HX : Hid (∀ w6 x6, Aft w3.drew b x w6 s cl x6 (c + 1) → x6.cb = x.cb ∧ x6.tb = x.tb →
          (w6.cell? ⟨b, 5, none⟩ = some (.pointer (some ⟨x.cb, 0, none⟩)) ∧ w6.cell? ⟨g3, 4, none⟩ = some (.string vcron) ∧ w6.cell? ⟨w.heap.size, 5, none⟩ = some (.int .i64 oocc) ∧ w6.cell? ⟨w.heap.size, 7, none⟩ = some (.int .i64 ostamp)) ∧ w6.cell? ⟨g3, 3, none⟩ = some (.int .i64 vdue) ∧ w6.frozen? ⟨g3, 3, none⟩ = false ∧
          ((w6.setCell ⟨g3, 3, none⟩ (.int .i64 A)).cell? ⟨b, 5, none⟩ = some (.pointer (some ⟨x.cb, 0, none⟩)) ∧ (w6.setCell ⟨g3, 3, none⟩ (.int .i64 A)).cell? ⟨g3, 4, none⟩ = some (.string vcron) ∧ (w6.setCell ⟨g3, 3, none⟩ (.int .i64 A)).cell? ⟨w.heap.size, 5, none⟩ = some (.int .i64 oocc) ∧ (w6.setCell ⟨g3, 3, none⟩ (.int .i64 A)).cell? ⟨w.heap.size, 7, none⟩ = some (.int .i64 ostamp)) ∧
          Aft w2 b x (w6.setCell ⟨g3, 3, none⟩ (.int .i64 A)) s cl x6 (c + 1) ∧ (w6.setCell ⟨g3, 3, none⟩ (.int .i64 A)).heap[w.heap.size]? = some (opO ⟨okind, oclient, oreq, oid, ogen, oocc, odue, ostamp, oepoch, ocron⟩) ∧ (w6.setCell ⟨g3, 3, none⟩ (.int .i64 A)).heap[w.heap.size + 1]? = some rpO ∧
          (w6.setCell ⟨g3, 3, none⟩ (.int .i64 A)).heap[g3]? = some (.cells #[.int .i64 oid, .int .i64 vclient, .int .i64 vgen, .int .i64 A, .string vcron] 37) ∧ g3 ∉ Go.Proofs.YtiidhcpflplpiaaGreatDoor.own x6 b) := fun w6 x6 A6 hx => by
        have hB2 := B2.out.lt
        have hg := hg3.out
        have hl := hlt.out
        have hw6 : ∀ k, w.heap.size ≤ k → k < w3.heap.size → w6.heap[k]? = w3.heap[k]? := fun k h1 h2 => A6.kept.block k h2 (fun g => by have := hl k g; omega)
        have T6 := (hw6 g3 (by omega) (lt_in T3.out)).trans T3.out
        have op6 := (hw6 w.heap.size (Nat.le_refl _) (lt_in B3.out.op)).trans B3.out.op
        have rp6 := (hw6 (w.heap.size + 1) (by omega) (lt_in B3.out.rp)).trans B3.out.rp
        have A7 : Aft w2 b x (w6.setCell ⟨g3, 3, none⟩ (.int .i64 A)) s cl x6 (c + 1) := Aft.put1 (w := w2) A6 k3.out.drew (fun i hi => by have := hl i hi; omega) (by omega) (lt_in T3.out) 3 _
        have T7 : (w6.setCell ⟨g3, 3, none⟩ (.int .i64 A)).heap[g3]? = some (.cells #[.int .i64 oid, .int .i64 vclient, .int .i64 vgen, .int .i64 A, .string vcron] 37) := heap_setCell_same _ g3 3 _ _ _ T6
        have op7 : (w6.setCell ⟨g3, 3, none⟩ (.int .i64 A)).heap[w.heap.size]? = some (opO ⟨okind, oclient, oreq, oid, ogen, oocc, odue, ostamp, oepoch, ocron⟩) := (heap_setCell_other _ _ _ _ (show w.heap.size ≠ g3 by omega)).trans op6
        have rp7 : (w6.setCell ⟨g3, 3, none⟩ (.int .i64 A)).heap[w.heap.size + 1]? = some rpO := (heap_setCell_other _ _ _ _ (show w.heap.size + 1 ≠ g3 by omega)).trans rp6
        have ng : g3 ∉ Go.Proofs.YtiidhcpflplpiaaGreatDoor.own x6 b := fun g => by
          rcases A6.own g3 g with e | e
          · have := hl g3 e; omega
          · have h1 : g3 < w3.heap.size := lt_in T3.out
            have h2 : w3.drew.heap.size = w3.heap.size := rfl
            omega
        have h5 := A6.sv.c5
        have h7 := A7.sv.c5
        rw [hx.1] at h5 h7
        exact ⟨⟨h5, (tm_cells T6).2.2.2.2.1, (op_cells op6).2.2.2.2.2.1, (op_cells op6).2.2.2.2.2.2.2.1⟩, (tm_cells T6).2.2.2.1, (tm_cells T6).2.2.2.2.2, ⟨h7, (tm_cells T7).2.2.2.2.1, (op_cells op7).2.2.2.2.2.1, (op_cells op7).2.2.2.2.2.2.2.1⟩, A7, op7, rp7, T7, ng⟩
      have c5 := (hS.out _ B3.out.bel.drew).c5
      have t4d : w3.drew.cell? ⟨g3, 4, none⟩ = some (.string vcron) := t4
      have p5 : w3.drew.cell? ⟨w.heap.size, 5, none⟩ = some (.int .i64 oocc) := (op_cells B3.out.op).2.2.2.2.2.1
      have p7 : w3.drew.cell? ⟨w.heap.size, 7, none⟩ = some (.int .i64 ostamp) := (op_cells B3.out.op).2.2.2.2.2.2.2.1
      clear t4
      go_region_held3 (fun w' => w'.cell? ⟨b, 5, none⟩ = some (.pointer (some ⟨x.cb, 0, none⟩)) ∧ w'.cell? ⟨g3, 4, none⟩ = some (.string vcron) ∧ w'.cell? ⟨w.heap.size, 5, none⟩ = some (.int .i64 oocc) ∧ w'.cell? ⟨w.heap.size, 7, none⟩ = some (.int .i64 ostamp))
        (first | exact ⟨c5, t4d, p5, p7⟩ | exact U6 | exact U7)
        ((go_at_call 57; refine (hCN.out _ B3.out.bel.drew).mono ?_; rintro e w6 ⟨rfl, x6, A6, hx6⟩; obtain ⟨U6, v3, z3, U7, A7, op7, rp7, T7, ng⟩ := HX.out w6 x6 A6 hx6; replace A7 := Lib.hid A7; replace op7 := Lib.hid op7; replace rp7 := Lib.hid rp7; replace T7 := Lib.hid T7; replace hx6 := Lib.hid hx6; replace ng := Lib.hid ng; clear A6))
      all_goals
        clear c5 t4d p5 p7 U6 U7 v3 z3 HX
        generalize w6.setCell ⟨g3, 3, none⟩ (.int .i64 A) = w7 at *
        have c2 : w7.drew.cell? ⟨b, 2, none⟩ = some (.map (some x.tb)) := by have := A7.out.sv.c2; rw [hx6.out.2] at this; exact this
        have p3 : w7.drew.cell? ⟨w.heap.size, 3, none⟩ = some (.int .i64 oid) := (op_cells op7.out).2.2.2.1
        have hT : w7.drew.heap[g3]? = some (.cells #[.int .i64 oid, .int .i64 vclient, .int .i64 vgen, .int .i64 A, .string vcron] 37) := T7.out
        obtain ⟨t0, t1, t2, t3, t4, tz⟩ := tm_cells hT
        obtain ⟨w8, hrun, d2, x8, A8⟩ := HP.out w7.drew x6 _ (A7.out.sv.below (Below.refl _ _).drew) hx6.out.2
        have no : ∀ i, w.heap.size ≤ i → i < w2.heap.size → i ∉ Go.Proofs.YtiidhcpflplpiaaGreatDoor.own x6 b := fun i h1 h2 h3 => by
          rcases A7.out.own i h3 with e | e
          · have := hlt.out i e; omega
          · omega
        have hB2 := B2.out.lt
        have op8 := (A8.kept.block w.heap.size (lt_in op7.out) (no _ (Nat.le_refl _) (by omega))).trans op7.out
        have rp8 := (A8.kept.block (w.heap.size + 1) (lt_in rp7.out) (no _ (by omega) hB2)).trans rp7.out
        obtain ⟨d0, d1, d2', d3, d4, d5, d6, d7, d8, d9⟩ := op_cells op8
        obtain ⟨q0, q1, q2, z0, z1, z2⟩ := rp_cells rp8
        have hT8 : w8.heap[g3]? = some (.cells #[.int .i64 oid, .int .i64 vclient, .int .i64 vgen, .int .i64 A, .string vcron] 37) := (A8.kept.block g3 (lt_in T7.out) ng.out).trans T7.out
        obtain ⟨e0, e1, e2, e3, e4, ez⟩ := tm_cells hT8
        have A9 : Hid (Aft w2 b x w8 { s with T := put ⟨oid, vclient, vgen, A, vcron⟩ (away oid s.T) } cl x8 (c + 1)) := A7.out.mono' (Aft.before (Below.refl _ _).drew A8)
        clear hT tz A8 no op8 rp8 d0 d1 d2' d6 d7 d8 d9 T7 op7 rp7 A7 HP hT8 ez ng
        replace hB2 := Lib.hid hB2
        go_wp2_with fail
        go_region_held3 (fun w' => w'.cell? ⟨b, 2, none⟩ = some (.map (some x.tb)) ∧ w'.cell? ⟨w.heap.size, 3, none⟩ = some (.int .i64 oid) ∧ w'.cell? ⟨g3, 0, none⟩ = some (.int .i64 oid) ∧ w'.cell? ⟨g3, 1, none⟩ = some (.int .i64 vclient) ∧ w'.cell? ⟨g3, 2, none⟩ = some (.int .i64 vgen) ∧ w'.cell? ⟨g3, 3, none⟩ = some (.int .i64 A) ∧ w'.cell? ⟨g3, 4, none⟩ = some (.string vcron))
          (first | exact ⟨c2, p3, t0, t1, t2, t3, t4⟩ | exact ⟨d2, d3, e0, e1, e2, e3, e4⟩) (fail)
        all_goals
          clear c2 p3 t0 t1 t2 t3 t4 d2 d3 e0 e1 e2 e3 e4 hrun
          go_wp2_with fail
          refine bodyPost_ret (v := rpV ⟨0, ogen, oocc⟩) ?_ rfl ?_
          · rw [results_cellA rfl]
            go_simp
          · exact ⟨rfl, x8, Aft.store A9.out B2.out.bel hlt.out (by omega) B2.out.lt _ _ _⟩
end
end Go.Proofs.YtiidhcpflplpiaaGreatDoor

/-
  Layer 8: a client's request: ask, where it does nothing.
-/
set_option linter.unusedVariables false
namespace Go.Proofs.YtiidhcpflplpiaaGreatDoor
open Go.RowKit Crn Nxt Ste
set_option maxRecDepth 100000
section
variable {w w' : World} {b : Nat} {s : St} {cl : List Int} {x : Px} {c : Nat}
abbrev clOf (s : St) : List Int := s.K.map (·.client)
theorem hasK_some {K : List Kn} {id : Int} (h : hasK K id = true) : known id K = some (valK K id) := by
  unfold hasK at h
  unfold valK
  cases hf : known id K with
  | none => rw [hf] at h; cases h
  | some t => rfl
theorem hasK_none {K : List Kn} {id : Int} (h : hasK K id = false) : known id K = none := by
  unfold hasK at h
  cases hf : known id K with
  | none => rfl
  | some t => rw [hf] at h; cases h
theorem ask_old {s : St} {o : OpN} (h : hasK s.K o.client = true) (h2 : o.req < (valK s.K o.client).req) : askN s o = (s, ⟨11, 0, 0⟩) := by
  unfold askN
  rw [hasK_some h]
  show (if o.req < (valK s.K o.client).req then _ else _) = _
  rw [if_pos h2]
theorem ask_same {s : St} {o : OpN} (h : hasK s.K o.client = true) (h2 : ¬ o.req < (valK s.K o.client).req) (h3 : (valK s.K o.client).req = o.req) : askN s o = (s, (valK s.K o.client).rp) := by
  unfold askN
  rw [hasK_some h]
  show (if o.req < (valK s.K o.client).req then _ else if (valK s.K o.client).req = o.req then _ else _) = _
  rw [if_neg h2, if_pos h3]
theorem ask_next {s : St} {o : OpN} (h : hasK s.K o.client = true) (h2 : ¬ o.req < (valK s.K o.client).req) (h3 : ¬ (valK s.K o.client).req = o.req) :
    askN s o = ({ (changeN s o).1 with K := renew ⟨o.client, o.req, (changeN s o).2⟩ s.K }, (changeN s o).2) := by
  unfold askN
  rw [hasK_some h]
  show (if o.req < (valK s.K o.client).req then _ else if (valK s.K o.client).req = o.req then _ else _) = _
  rw [if_neg h2, if_neg h3]
theorem ask_full {s : St} {o : OpN} (h : hasK s.K o.client = false) (h2 : 3 ≤ s.K.length) : askN s o = (s, ⟨8, 0, 0⟩) := by
  unfold askN
  rw [hasK_none h]
  show (if 3 ≤ s.K.length then _ else _) = _
  rw [if_pos h2]
theorem ask_first {s : St} {o : OpN} (h : hasK s.K o.client = false) (h2 : ¬ 3 ≤ s.K.length) :
    askN s o = ({ (changeN s o).1 with K := s.K ++ [⟨o.client, o.req, (changeN s o).2⟩] }, (changeN s o).2) := by
  unfold askN
  rw [hasK_none h]
  show (if 3 ≤ s.K.length then _ else _) = _
  rw [if_neg h2]
abbrev knO (k : Kn) : Obj := .cells #[.int .i64 k.req, .int .i64 k.rp.err, .int .i64 k.rp.gen, .int .i64 k.rp.due] 90
theorem kn_cells {W : World} {g : Nat} {k : Kn} (h : W.heap[g]? = some (knO k)) : W.cell? ⟨g, 0, none⟩ = some (.int .i64 k.req) ∧ W.cell? ⟨g, 1, none⟩ = some (.int .i64 k.rp.err) ∧ W.cell? ⟨g, 2, none⟩ = some (.int .i64 k.rp.gen) ∧ W.cell? ⟨g, 3, none⟩ = some (.int .i64 k.rp.due) :=
  ⟨cell_in h 0, cell_in h 1, cell_in h 2, cell_in h 3⟩

set_option maxHeartbeats 4000000 in
/-- A request that does nothing. -/
theorem ask_early (h : Sv w b s (clOf s) x c) (hk : x.kl.Perm s.K) (o : OpN) (ho : OpOk o) (r : Rp)
    (hr : (hasK s.K o.client = true ∧ o.req < (valK s.K o.client).req ∧ r = ⟨11, 0, 0⟩) ∨ (hasK s.K o.client = true ∧ ¬ o.req < (valK s.K o.client).req ∧ (valK s.K o.client).req = o.req ∧ r = (valK s.K o.client).rp) ∨ (hasK s.K o.client = false ∧ 3 ≤ s.K.length ∧ r = ⟨8, 0, 0⟩)) :
    Calls Tryz.prog 31 #[.pointer (some ⟨b, 0, none⟩), opV o] w fun e w' => e = .returned (rpV r) ∧ Aft w b x w' s (clOf s) x c := by
  have hlt := Lib.hid (fun i hi => (h.lt i hi).1)
  have B0 := Lib.hid (Bx.start w o)
  have cR := Lib.hid refusal_any
  have hS : Hid (∀ W, Below w.heap.size w W → Sv W b s (clOf s) x c) := fun W k => h.below k
  have HL : Hid (∀ W, Below w.heap.size w W → W.heap[w.heap.size]? = some (opO o) → W.cell? ⟨b, 4, none⟩ = some (.map (some x.lb)) ∧ W.cell? ⟨w.heap.size, 1, none⟩ = some (.int .i64 o.client) ∧ (Instr.lookup ml (.map (some x.lb)) (.int .i64 o.client) true).run Tryz.prog W = .ok (.tuple #[knV (valK s.K o.client), .bool (hasK s.K o.client)]) W) := fun W k hop => ⟨(h.below k).c4, (op_cells hop).2.1, (h.below k).lookK hk ho.client rfl⟩
  have hlen : ((clOf s).length : Int) = (s.K.length : Int) := by simp [clOf]
  generalize clOf s = CL at *
  replace hlen := Lib.hid hlen
  clear h hk ho
  obtain ⟨okind, oclient, oreq, oid, ogen, oocc, odue, ostamp, oepoch, ocron⟩ := o
  simp only [opV, opC, opO, rpO] at *
  have start : Hid True := Lib.hid trivial
  go_enter Tryz.func31, Tryz.ntmps31
  go_wp2_with fail
  obtain ⟨w1, hw1⟩ : ∃ w1, (w.alloc (.cells #[.int .i64 okind, .int .i64 oclient, .int .i64 oreq, .int .i64 oid, .int .i64 ogen, .int .i64 oocc, .int .i64 odue, .int .i64 ostamp, .int .i64 oepoch, .string ocron] 30)).alloc (.cells #[.int .i64 0, .int .i64 0, .int .i64 0] 34) = w1 := ⟨_, rfl⟩
  rw [hw1] at B0 ⊢
  replace hw1 := True.intro
  obtain ⟨c4, p1, lk⟩ := HL.out w1.drew B0.out.bel.drew B0.out.op
  have HK : Hid (∀ o : Obj, (w1.alloc o).drew.cell? ⟨b, 4, none⟩ = some (.map (some x.lb)) ∧ (w1.alloc o).drew.cell? ⟨w.heap.size, 1, none⟩ = some (.int .i64 oclient) ∧ (Instr.lookup ml (.map (some x.lb)) (.int .i64 oclient) true).run Tryz.prog (w1.alloc o).drew = .ok (.tuple #[knV (valK s.K oclient), .bool (hasK s.K oclient)]) (w1.alloc o).drew) := fun o => by
    have B3 := B0.out.below ((Below.refl w1.heap.size w1).alloc (Nat.le_refl _) o).drew
    exact HL.out _ B3.bel B3.op
  clear HL
  generalize valK s.K oclient = k at *
  generalize hasK s.K oclient = q at *
  obtain ⟨kc, kreq, kerr, kgen, kdue⟩ := k
  simp only at *
  go_region_held3 (fun w' => w'.cell? ⟨b, 4, none⟩ = some (.map (some x.lb)) ∧ w'.cell? ⟨w.heap.size, 1, none⟩ = some (.int .i64 oclient) ∧ (Instr.lookup ml (.map (some x.lb)) (.int .i64 oclient) true).run Tryz.prog w' = .ok (.tuple #[.agg #[.int .i64 kreq, .int .i64 kerr, .int .i64 kgen, .int .i64 kdue], .bool q]) w')
    (first | exact ⟨c4, p1, lk⟩ | exact HK.out _) (fail)
  all_goals
    clear c4 p1 lk HK
    have k2 := ((Below.refl w1.heap.size w1).alloc (Nat.le_refl _) (.cells #[.int .i64 kreq, .int .i64 kerr, .int .i64 kgen, .int .i64 kdue] 90)).drew
    have B2 := Lib.hid (B0.out.below k2)
    have L5 : Hid ((w1.alloc (.cells #[.int .i64 kreq, .int .i64 kerr, .int .i64 kgen, .int .i64 kdue] 90)).drew.heap[w1.heap.size]? = some (.cells #[.int .i64 kreq, .int .i64 kerr, .int .i64 kgen, .int .i64 kdue] 90)) := Go.heap_alloc_new w1 _
    clear k2
    generalize (w1.alloc (.cells #[.int .i64 kreq, .int .i64 kerr, .int .i64 kgen, .int .i64 kdue] 90)).drew = w2 at *
    generalize w1.heap.size = g5 at *
    have m0 : w2.cell? ⟨g5, 0, none⟩ = some (.int .i64 kreq) := cell_in L5.out 0
    have m1 : w2.cell? ⟨g5, 1, none⟩ = some (.int .i64 kerr) := cell_in L5.out 1
    have m2 : w2.cell? ⟨g5, 2, none⟩ = some (.int .i64 kgen) := cell_in L5.out 2
    have m3 : w2.cell? ⟨g5, 3, none⟩ = some (.int .i64 kdue) := cell_in L5.out 3
    have p2 := (op_cells B2.out.op).2.2.1
    rcases hr with ⟨rfl, h2, rfl⟩ | ⟨rfl, h2, h3, rfl⟩ | ⟨rfl, h2, rfl⟩
    · have e1 : decide (oreq < kreq) = true := by simpa using h2
      replace h2 := Lib.hid h2
      go_wp2_with fail
      refine (cR.out 11 _).mono ?_
      rintro e w3 ⟨rfl, k3⟩
      have B3 := B2.out.below k3
      obtain ⟨q0, q1, q2, z0, z1, z2⟩ := rp_cells B3.rp
      have A3 := Lib.hid (Aft.refl (hS.out _ B3.bel))
      replace B3 := Lib.hid B3
      clear B2 k3 m0 m1 m2 m3 p2
      go_wp2_with fail
      refine bodyPost_ret (v := rpV ⟨11, 0, 0⟩) ?_ rfl ?_
      · rw [results_cellA rfl]
        go_simp
      · exact ⟨rfl, Aft.store A3.out B3.out.bel hlt.out (by omega) B3.out.lt _ _ _⟩
    · have e1 : decide (oreq < kreq) = false := by simpa using h2
      have e2 : (kreq == oreq) = true := by simpa using h3
      replace h2 := Lib.hid h2
      replace h3 := Lib.hid h3
      obtain ⟨q0, q1, q2, z0, z1, z2⟩ := rp_cells B2.out.rp
      have A3 := Lib.hid (Aft.refl (hS.out _ B2.out.bel))
      go_wp2_with fail
      refine bodyPost_ret (v := rpV ⟨kerr, kgen, kdue⟩) ?_ rfl ?_
      · rw [results_cellA rfl]
        go_simp
      · exact ⟨rfl, Aft.store A3.out B2.out.bel hlt.out (by omega) B2.out.lt _ _ _⟩
    · have c3 := (hS.out _ B2.out.bel).c3
      have e1 : decide (3 ≤ (CL.length : Int)) = true := by simp only [decide_eq_true_eq]; rw [hlen.out]; omega
      have e2 : decide (3 ≤ CL.length) = true := by have := of_decide_eq_true e1; exact decide_eq_true (by omega)
      replace h2 := Lib.hid h2
      go_wp2_with fail
      refine (cR.out 8 _).mono ?_
      rintro e w3 ⟨rfl, k3⟩
      have B3 := B2.out.below k3
      obtain ⟨q0, q1, q2, z0, z1, z2⟩ := rp_cells B3.rp
      have A3 := Lib.hid (Aft.refl (hS.out _ B3.bel))
      replace B3 := Lib.hid B3
      clear B2 k3 m0 m1 m2 m3 p2
      go_wp2_with fail
      refine bodyPost_ret (v := rpV ⟨8, 0, 0⟩) ?_ rfl ?_
      · rw [results_cellA rfl]
        go_simp
      · exact ⟨rfl, Aft.store A3.out B3.out.bel hlt.out (by omega) B3.out.lt _ _ _⟩
end
end Go.Proofs.YtiidhcpflplpiaaGreatDoor

/-
  Layer 8: a client's request that is done, and Apply.
-/
set_option linter.unusedVariables false
namespace Go.Proofs.YtiidhcpflplpiaaGreatDoor
open Go.RowKit Crn Nxt Ste
set_option maxRecDepth 100000
section
variable {w w' : World} {b : Nat} {s : St} {cl : List Int} {x : Px} {c : Nat}
theorem set_any (h : Sv w b s cl x c) (tb : Tab w) (nt : NTab w) (hc : c ≤ 900000) (o : OpN) (ho : OpOk o) :
    Calls Tryz.prog 71 #[.pointer (some ⟨b, 0, none⟩), opV o] w fun e w' => e = .returned (rpV (setN s o).2) ∧ ∃ x', Aft w b x w' (setN s o).1 cl x' (c + 1) := by
  cases hs : settableB o with
  | false => exact set_refused h tb nt hc o ho (.inl hs)
  | true =>
    by_cases hB : o.cron.size ≠ 0 ∧ badB o.cron = true
    · exact set_refused h tb nt hc o ho (.inr ⟨hs, hB.1, hB.2⟩)
    · by_cases hF : find o.id s.T = none ∧ s.room ≤ s.T.length
      · exact set_full h tb nt hc o ho hs hB hF
      · exact set_done h tb nt hc o ho hs hB hF
set_option maxHeartbeats 2000000 in
theorem change_any (h : Sv w b s cl x c) (tb : Tab w) (nt : NTab w) (hc : c ≤ 900000) (o : OpN) (ho : OpOk o) :
    Calls Tryz.prog 56 #[.pointer (some ⟨b, 0, none⟩), opV o] w fun e w' => e = .returned (rpV (changeN s o).2) ∧ ∃ x', Aft w b x w' (changeN s o).1 cl x' (c + 1) := by
  have hlt := Lib.hid (fun i hi => (h.lt i hi).1)
  have B0 := Lib.hid (Bx.start w o)
  obtain ⟨p0, p1, p2, p3, p4, p5, p6, p7, p8, p9⟩ := op_cells B0.out.op
  by_cases hk : o.kind = 1
  · have e0 : (o.kind == 1) = true := by simp [hk]
    have hR : changeN s o = setN s o := by unfold changeN; rw [if_pos hk]
    rw [hR]
    have cS : Hid (∀ W, Below w.heap.size w W → Calls Tryz.prog 71 #[.pointer (some ⟨b, 0, none⟩), opV o] W fun e w' => e = .returned (rpV (setN s o).2) ∧ ∃ x', Aft W b x w' (setN s o).1 cl x' (c + 1)) := fun W k => set_any (h.below k) (tb.below k) (nt.below k) hc o ho
    generalize setN s o = R at *
    replace hk := Lib.hid hk
    clear h tb nt ho hR
    obtain ⟨okind, oclient, oreq, oid, ogen, oocc, odue, ostamp, oepoch, ocron⟩ := o
    obtain ⟨s', rerr, rgen, rdue⟩ := R
    simp only [opV, opC, opO, rpO] at *
    go_enter Tryz.func56, Tryz.ntmps56
    go_wp2_with fail
    refine (cS.out _ B0.out.bel).mono ?_
    rintro e w2 ⟨rfl, x2, A2⟩
    obtain ⟨q0, q1, q2, z0, z1, z2⟩ := rp_cells (B0.out.aft hlt.out A2).2
    replace A2 := Lib.hid A2
    clear p0 p1 p2 p3 p4 p5 p6 p7 p8 p9 cS
    go_wp2_with fail
    refine bodyPost_ret (v := rpV ⟨rerr, rgen, rdue⟩) ?_ rfl ?_
    · rw [results_cellA rfl]
      go_simp
    · exact ⟨rfl, x2, Aft.store A2.out B0.out.bel hlt.out (by omega) B0.out.lt _ _ _⟩
  · have e0 : (o.kind == 1) = false := by simpa using hk
    have hR : changeN s o = cancelN s o := by unfold changeN; rw [if_neg hk]
    rw [hR]
    have cS : Hid (∀ W, Below w.heap.size w W → Calls Tryz.prog 72 #[.pointer (some ⟨b, 0, none⟩), opV o] W fun e w' => e = .returned (rpV (cancelN s o).2) ∧ ∃ x', Aft W b x w' (cancelN s o).1 cl x' c) := fun W k => cancel_any (h.below k) o ho
    generalize cancelN s o = R at *
    replace hk := Lib.hid hk
    clear h tb nt ho hR
    obtain ⟨okind, oclient, oreq, oid, ogen, oocc, odue, ostamp, oepoch, ocron⟩ := o
    obtain ⟨s', rerr, rgen, rdue⟩ := R
    simp only [opV, opC, opO, rpO] at *
    go_enter Tryz.func56, Tryz.ntmps56
    go_wp2_with fail
    refine (cS.out _ B0.out.bel).mono ?_
    rintro e w2 ⟨rfl, x2, A2⟩
    obtain ⟨q0, q1, q2, z0, z1, z2⟩ := rp_cells (B0.out.aft hlt.out A2).2
    replace A2 := Lib.hid A2
    clear p0 p1 p2 p3 p4 p5 p6 p7 p8 p9 cS
    go_wp2_with fail
    refine bodyPost_ret (v := rpV ⟨rerr, rgen, rdue⟩) ?_ rfl ?_
    · rw [results_cellA rfl]
      go_simp
    · exact ⟨rfl, x2, (Aft.store A2.out B0.out.bel hlt.out (by omega) B0.out.lt _ _ _).more (Nat.le_succ _)⟩

theorem Tryz.info3s : (Tryz.prog.info? 3).map (fun i => (i.zero, i.size, i.bytes)) = some (some (.int .i64 0), 1, 8) := by kernel_rfl
/-- A client is appended. -/
theorem Sv.pushC {W : World} (h : Sv W b s cl x c) (hcl : cl.length ≤ 3) (k : Int) (vb : Nat) (hvb : W.heap[vb]? = some (.cells #[.int .i64 k] 3)) (hv : vb ∉ own x b) :
    ∃ p' cap' w', (Builtin.append_ #[48, 48] 48 #[.slice x.p cl.length x.cap, .slice (some ⟨vb, 0, none⟩) 1 1]).run Tryz.prog W = .ok (.slice p' (cl.length + 1) cap') w' ∧ w'.cell? ⟨b, 3, none⟩ = some (.slice x.p cl.length x.cap) ∧ w'.frozen? ⟨b, 3, none⟩ = false ∧
      (∀ i, i < W.heap.size → i ∉ own x b → w'.heap[i]? = W.heap[i]?) ∧ ∃ x', Aft W b x (w'.setCell ⟨b, 3, none⟩ (.slice p' (cl.length + 1) cap')) s (cl ++ [k]) x' c := by
  obtain ⟨i0, hi0, hz0, hzs, hzb⟩ := info_parts Tryz.info3s
  have hnews : ∀ j u, [iv k][j]? = some u → W.cell? ((⟨vb, 0, none⟩ : Addr).add j) = some u := fun j u hu => by
    rw [Addr.add_lit]
    match j with
    | 0 => have e := cell_in hvb 0; simpa [iv] using e.trans (by simpa [iv] using hu)
    | j + 1 => simp at hu
  have f := h.far
  have hlt := h.lt
  have hbW : b < W.heap.size := (hlt b (by simp [own])).1
  have htW : topTab < b := h.hb
  obtain ⟨v', w', h1, h2, h3, -, h5⟩ := run_append_own_at W (topTab + 1) 48 48 3 i0 _ 1 8 Tryz.underlying48 hi0 hz0 hzs hzb rfl (by omega) (.slice x.p cl.length x.cap) cl.length (cl.map iv) h.row ⟨vb, 0, none⟩ 1 1 [iv k] rfl hnews (fun u hu => by simp only [List.mem_singleton] at hu; subst hu; rfl) (by unfold maxLen; omega) (by omega) (by omega)
  obtain ⟨p', cap', rfl⟩ : ∃ p' cap', v' = .slice p' (cl.length + 1) cap' := by
    rcases h2.2 with ⟨rfl, e⟩ | ⟨g, cap, cur, rfl, _⟩
    · exact absurd e (by omega)
    · exact ⟨_, cap, rfl⟩
  have hold : ∀ i, i < W.heap.size → i ∉ rowOf x.p → w'.heap[i]? = W.heap[i]? := fun i hi hn => h3.block i hi (fun e => hn (own_row.1 e.symm))
  have hB : w'.heap[b]? = some (.cells (stC s.room s.gens cl.length x) ts) := (hold b hbW f.br).trans h.blk
  have hnew : ∀ g, g ∈ rowOf p' → g ∈ rowOf x.p ∨ g = W.heap.size := fun g hg => by
    have h6 := own_row (n := cl.length + 1) (cap := cap').2 hg
    rcases h5 with e | e
    · rw [e] at h6; exact .inl (own_row.1 h6)
    · rw [e] at h6; injection h6 with h6; exact .inr h6.symm
  have kl0 : Kl (b :: rowOf x.p) W w' := ⟨h3.os, h3.tape, h3.output, h3.size, fun i hi hn => hold i hi (fun e => hn (by simp [e]))⟩
  have kl : Kl (b :: rowOf x.p) W (w'.setCell ⟨b, 3, none⟩ (.slice p' (cl.length + 1) cap')) := kl0.setCell (by simp) 3 _
  have keep : ∀ i, i ∈ own x b → i ≠ b → i ∉ rowOf x.p → (w'.setCell ⟨b, 3, none⟩ (.slice p' (cl.length + 1) cap')).heap[i]? = W.heap[i]? := fun i hi h6 h7 => kl.block i (hlt i hi).1 (by simp only [List.mem_cons, not_or]; exact ⟨h6, h7⟩)
  refine ⟨p', cap', w', h1, cell_in hB 3, free_in hB 3, fun i hi hn => hold i hi (fun e => hn (by simp [own, e])), { x with p := p', cap := cap' }, ⟨?_, h.tm.kept (keep _ (by simp [own]) (fun e => f.bt e.symm) f.tr), h.tp, h.km.kept (keep _ (by simp [own]) (fun e => f.bl e.symm) f.lr), ?_, h.ca.kept kl (fun i hi => ?_), h.cnt, h.hb, h.ht, h.hl, h.sep, h.ok, h.gc⟩, kl.mono (fun i hi => .inl ?_), fun i hi => ?_, rfl⟩
  · have e := heap_setCell_same _ b 3 _ _ (.slice p' (cl.length + 1) cap') hB
    rw [List.length_append]
    exact e
  · rw [List.length_append, List.map_append]
    refine row_same h2 fun g hg => heap_setCell_other _ _ _ _ (fun e => ?_)
    have e2 : g = b := e
    subst e2
    rcases hnew g (own_row.1 hg) with e3 | e3
    · exact f.br e3
    · omega
  · simp only [List.mem_cons] at hi
    rcases hi with rfl | hi
    · exact f.bc
    · exact f.rc i hi
  · simp only [List.mem_cons] at hi
    rcases hi with rfl | hi
    · simp [own]
    · simp [own, hi]
  · simp only [own, List.mem_cons, List.mem_append] at hi
    rcases hi with rfl | rfl | rfl | hi | hi
    · exact .inl (by simp [own])
    · exact .inl (by simp [own])
    · exact .inl (by simp [own])
    · rcases hnew i hi with e | e
      · exact .inl (by simp [own, e])
      · exact .inr (by omega)
    · exact .inl (by simp [own, hi])
end
end Go.Proofs.YtiidhcpflplpiaaGreatDoor

/-
  Layer 8: a client's request that is done.
-/
set_option linter.unusedVariables false
namespace Go.Proofs.YtiidhcpflplpiaaGreatDoor
open Go.RowKit Crn Nxt Ste
set_option maxRecDepth 100000
theorem step_append_st {P : Program} {ops : Array Oper} {o : Oper} {a : Act} {w : World} {K : Act → World → Prop} {Q : Exit → Act → World → Prop} {E : Prop}
    (hg : o.guard = none) (d x : Operand) (dT sT : TypeId) (hop : o.op = Op.call { callee := Callee.builtin Builtin.append, args := #[d, x], argTypes := #[dT, sT] })
    (v u : Value) (hd : a.eval d = v) (hx : a.eval x = u) {v' : Value} {w' : World} (hr : (Builtin.append_ #[dT, sT] o.type #[v, u]).run P w = .ok v' w') (hK : K (a.put o.dst v') w') :
    if Region.wanted o (yielded ops a.tmps) = true then Oper.wp P o a w K Q else E := by
  have hw : Region.wanted o (yielded ops a.tmps) = true := by simp [Region.wanted, hg]
  rw [if_pos hw]
  unfold Oper.wp
  simp [execOp, hop, resolve, invoke, builtin, hd, hx, hr, Result.andThen]
  exact hK
section
variable {w w' : World} {b : Nat} {s : St} {cl : List Int} {x : Px} {c : Nat}
/-- The service with all that is said of it. -/
structure SS (w : World) (b : Nat) (s : St) (x : Px) (c : Nat) : Prop where
  sv : Sv w b s (clOf s) x c
  kp : x.kl.Perm s.K
structure AftS (w : World) (b : Nat) (x : Px) (w' : World) (s' : St) (x' : Px) (c' : Nat) : Prop where
  ss : SS w' b s' x' c'
  kept : Kl (Go.Proofs.YtiidhcpflplpiaaGreatDoor.own x b) w w'
  own : ∀ k, k ∈ Go.Proofs.YtiidhcpflplpiaaGreatDoor.own x' b → k ∈ Go.Proofs.YtiidhcpflplpiaaGreatDoor.own x b ∨ w.heap.size ≤ k
theorem Aft.toS {s' : St} {x' : Px} {c' : Nat} (hk : x.kl.Perm s.K) (A : Aft w b x w' s' (clOf s') x' c') (hK : s'.K = s.K) : AftS w b x w' s' x' c' := ⟨⟨A.sv, by rw [A.kl, hK]; exact hk⟩, A.kept, A.own⟩
theorem Sv.congr (h : Sv w b s cl x c) {s' : St} (h1 : s'.room = s.room) (h2 : s'.gens = s.gens) (h3 : s'.T = s.T) (ok : Ok s') : Sv w b s' cl x c :=
  ⟨by rw [h1, h2]; exact h.blk, h.tm, by rw [h3]; exact h.tp, h.km, h.row, h.ca, h.cnt, h.hb, h.ht, h.hl, h.sep, ok, by rw [h2]; exact h.gc⟩
/-- The last request of a client is remembered. -/
theorem Sv.putK {W : World} (h : Sv W b s cl x c) {K : List Kn} (hK : x.kl.Perm K) (hap : Apart K) (hkn : ∀ j ∈ K, KnOk j) (k : Kn) (hk : KnOk k) {K' : List Kn}
    (hK' : (hasK K k.client = true ∧ K' = renew k K) ∨ (hasK K k.client = false ∧ K' = K ++ [k])) :
    ∃ w', (Instr.mapUpdate ml (.map (some x.lb)) (.int .i64 k.client) (knV k)).run Tryz.prog W = .ok () w' ∧ ∃ x', Sv w' b s cl x' c ∧ Kl (own x b) W w' ∧ own x' b = own x b ∧ x'.lb = x.lb ∧ x'.kl.Perm K' := by
  have hl : ∀ p ∈ x.kl.map knP, I64 p.1 := fun p hp => by
    obtain ⟨t, ht, rfl⟩ := List.mem_map.1 hp
    exact (hkn t (hK.mem_iff.1 ht)).client
  have hd : (x.kl.map knP).Pairwise fun p q => p.1 ≠ q.1 := by
    rw [List.pairwise_map]
    exact (hK.pairwise_iff (fun {a b} g e => g e.symm)).2 hap
  rcases hK' with ⟨hq, rfl⟩ | ⟨hq, rfl⟩
  · obtain ⟨h1, h2⟩ := known_some (hasK_some hq)
    have hp : (k.client, knV (valK K k.client)) ∈ x.kl.map knP := List.mem_map.2 ⟨valK K k.client, hK.mem_iff.2 h1, by unfold knP; rw [h2]⟩
    obtain ⟨w', r, v, g, z⟩ := vupdate mapL h.km hl hd hp (knV k)
    rw [knP_map] at v
    obtain ⟨s1, k1⟩ := h.last v g
    exact ⟨w', r, _, s1, k1, rfl, rfl, hK.map _⟩
  · have hn : ∀ p ∈ x.kl.map knP, p.1 ≠ k.client := fun p hp => by
      obtain ⟨u, hu, rfl⟩ := List.mem_map.1 hp
      exact known_none (hasK_none hq) u (hK.mem_iff.1 hu)
    obtain ⟨w', r, v, g, z⟩ := vinsert mapL h.km hl (knV k) hk.client hn
    obtain ⟨s1, k1⟩ := h.last (kl' := x.kl ++ [k]) (by rw [List.map_append]; exact v) g
    exact ⟨w', r, _, s1, k1, rfl, rfl, hK.append_right [k]⟩
theorem Aft.thenS {W1 W2 w5 : World} {s1 s' : St} {xB x5 : Px} {c1 c5 : Nat} (A : Aft W1 b x W2 s1 cl xB c1) (B : AftS W2 b xB w5 s' x5 c5) : AftS W1 b x w5 s' x5 c5 := by
  have hs := A.kept.size
  refine ⟨B.ss, ⟨B.kept.os.trans A.kept.os, B.kept.tape.trans A.kept.tape, B.kept.output.trans A.kept.output, Nat.le_trans hs B.kept.size, fun i hi hn => (B.kept.block i (Nat.lt_of_lt_of_le hi hs) (fun e => by
    rcases A.own i e with g | g
    · exact hn g
    · omega)).trans (A.kept.block i hi hn)⟩, fun i hi => ?_⟩
  rcases B.own i hi with g | g
  · exact A.own i g
  · right; omega
theorem SS.kept (h : SS w b s x c) {L : List Nat} (k : Kl L w w') (hL : ∀ i, i ∈ L → i ∉ Go.Proofs.YtiidhcpflplpiaaGreatDoor.own x b) : SS w' b s x c := ⟨h.sv.kept k hL, h.kp⟩
theorem AftS.store {s' : St} {x' : Px} {c' r : Nat} (A : AftS w b x w' s' x' c') (hr : w.heap.size ≤ r) (hn : r ∉ Go.Proofs.YtiidhcpflplpiaaGreatDoor.own x' b) (v0 v1 v2 : Value) :
    AftS w b x (((w'.setCell ⟨r, 0, none⟩ v0).setCell ⟨r, 1, none⟩ v1).setCell ⟨r, 2, none⟩ v2) s' x' c' := by
  have kr : Kl [r] w' (((w'.setCell ⟨r, 0, none⟩ v0).setCell ⟨r, 1, none⟩ v1).setCell ⟨r, 2, none⟩ v2) := (((Kl.refl _ _).setCell (by simp) 0 v0).setCell (by simp) 1 v1).setCell (by simp) 2 v2
  refine ⟨A.ss.kept kr (fun i hi => by simp only [List.mem_singleton] at hi; subst hi; exact hn), ⟨kr.os.trans A.kept.os, kr.tape.trans A.kept.tape, kr.output.trans A.kept.output, Nat.le_trans A.kept.size kr.size, fun i hi h2 => (kr.block i (Nat.lt_of_lt_of_le hi A.kept.size) (by simp only [List.mem_singleton]; omega)).trans (A.kept.block i hi h2)⟩, A.own⟩
set_option maxHeartbeats 8000000 in
theorem ask_again (h : SS w b s x c) (tb : Tab w) (nt : NTab w) (hc : c ≤ 900000) (o : OpN) (ho : OpOk o) (hky : (o.kind = 1 ∨ o.kind = 2) ∧ hasK s.K o.client = true ∧ ¬ o.req < (valK s.K o.client).req ∧ ¬ (valK s.K o.client).req = o.req) :
    Calls Tryz.prog 31 #[.pointer (some ⟨b, 0, none⟩), opV o] w fun e w' => e = .returned (rpV (askN s o).2) ∧ ∃ x', AftS w b x w' (askN s o).1 x' (c + 1) := by
  rw [ask_next hky.2.1 hky.2.2.1 hky.2.2.2]
  have hlt := Lib.hid (fun i hi => (h.sv.lt i hi).1)
  have B0 := Lib.hid (Bx.start w o)
  have HL : Hid (∀ W, Below w.heap.size w W → W.heap[w.heap.size]? = some (opO o) → W.cell? ⟨b, 4, none⟩ = some (.map (some x.lb)) ∧ W.cell? ⟨w.heap.size, 1, none⟩ = some (.int .i64 o.client) ∧ (Instr.lookup ml (.map (some x.lb)) (.int .i64 o.client) true).run Tryz.prog W = .ok (.tuple #[knV (valK s.K o.client), .bool (hasK s.K o.client)]) W) := fun W k hop => ⟨(h.sv.below k).c4, (op_cells hop).2.1, (h.sv.below k).lookK h.kp ho.client rfl⟩
  have hch := change_chg h.sv.ok ho
  have hS : Hid (∀ W, Below w.heap.size w W → Sv W b s (clOf s) x c) := fun W k => h.sv.below k
  have cH : Hid (∀ W xA, Aft w b x W s (clOf s) xA c → Calls Tryz.prog 56 #[.pointer (some ⟨b, 0, none⟩), opV o] W fun e w' => e = .returned (rpV (changeN s o).2) ∧ ∃ x', Aft W b xA w' (changeN s o).1 (clOf s) x' (c + 1)) := fun W xA A =>
    change_any A.sv (tb.behind A.kept (fun i hi => (h.sv.lt i hi).2)) (nt.kl A.kept (fun i hi => (h.sv.lt i hi).2)) hc o ho
  -- what is remembered in the end
  have HP : Hid (∀ W xA xB, Aft w b x W s (clOf s) xA c → ∀ W2, Aft W b xA W2 (changeN s o).1 (clOf s) xB (c + 1) → ∃ w', (Instr.mapUpdate ml (.map (some xB.lb)) (.int .i64 o.client) (knV ⟨o.client, o.req, (changeN s o).2⟩)).run Tryz.prog W2 = .ok () w' ∧ w'.cell? ⟨b, 4, none⟩ = some (.map (some xB.lb)) ∧ (∀ i, i < W2.heap.size → i ∉ own xB b → w'.heap[i]? = W2.heap[i]?) ∧ ∃ x', AftS W2 b xB w' { (changeN s o).1 with K := renew ⟨o.client, o.req, (changeN s o).2⟩ s.K } x' (c + 1)) := fun W xA xB A1 W2 A2 => by
    have hkl : xB.kl.Perm s.K := by rw [A2.kl, A1.kl]; exact h.kp
    have hk : KnOk ⟨o.client, o.req, (changeN s o).2⟩ := ⟨ho.client, ho.req, hch.rp⟩
    obtain ⟨w', r, x', s1, k1, e1, e2, p1⟩ := A2.sv.putK hkl h.sv.ok.apart h.sv.ok.kn ⟨o.client, o.req, (changeN s o).2⟩ hk (K' := renew ⟨o.client, o.req, (changeN s o).2⟩ s.K) (.inl ⟨hky.2.1, rfl⟩)
    have hok : Ok { (changeN s o).1 with K := renew ⟨o.client, o.req, (changeN s o).2⟩ s.K } := by
      have := (apply_ok h.sv.ok ho (by have := h.sv.gc; omega)).1
      rw [show applyN s o = askN s o by unfold applyN; rw [if_pos hky.1], ask_next hky.2.1 hky.2.2.1 hky.2.2.2] at this
      exact this
    refine ⟨w', r, by have := s1.c4; rw [e2] at this; exact this, k1.block, x', ⟨⟨?_, p1⟩, k1, fun i hi => .inl (by rw [← e1]; exact hi)⟩⟩
    have s2 := s1.congr (s' := { (changeN s o).1 with K := renew ⟨o.client, o.req, (changeN s o).2⟩ s.K }) rfl rfl rfl hok
    rw [show clOf ({ (changeN s o).1 with K := renew ⟨o.client, o.req, (changeN s o).2⟩ s.K } : St) = (clOf s) from renew_clients _ _]
    exact s2
  replace hch := True.intro
  replace hc := Lib.hid hc
  obtain ⟨hkd, hys⟩ := hky
  replace hkd := Lib.hid hkd
  clear h tb nt ho
  obtain ⟨okind, oclient, oreq, oid, ogen, oocc, odue, ostamp, oepoch, ocron⟩ := o
  try simp only [opV, opC, opO, rpO] at *
  generalize changeN s _ = R at *
  obtain ⟨s1, rerr, rgen, rdue⟩ := R
  try simp only at *
  go_enter Tryz.func31, Tryz.ntmps31
  go_wp2_with fail
  obtain ⟨w1, hw1⟩ : ∃ w1, (w.alloc (.cells #[.int .i64 okind, .int .i64 oclient, .int .i64 oreq, .int .i64 oid, .int .i64 ogen, .int .i64 oocc, .int .i64 odue, .int .i64 ostamp, .int .i64 oepoch, .string ocron] 30)).alloc (.cells #[.int .i64 0, .int .i64 0, .int .i64 0] 34) = w1 := ⟨_, rfl⟩
  rw [hw1] at B0 ⊢
  replace hw1 := True.intro
  obtain ⟨c4, p1, lk⟩ := HL.out w1.drew B0.out.bel.drew B0.out.op
  have HK : Hid (∀ o : Obj, (w1.alloc o).drew.cell? ⟨b, 4, none⟩ = some (.map (some x.lb)) ∧ (w1.alloc o).drew.cell? ⟨w.heap.size, 1, none⟩ = some (.int .i64 oclient) ∧ (Instr.lookup ml (.map (some x.lb)) (.int .i64 oclient) true).run Tryz.prog (w1.alloc o).drew = .ok (.tuple #[knV (valK s.K oclient), .bool (hasK s.K oclient)]) (w1.alloc o).drew) := fun o => by
    have B3 := B0.out.below ((Below.refl w1.heap.size w1).alloc (Nat.le_refl _) o).drew
    exact HL.out _ B3.bel B3.op
  clear HL
  generalize valK s.K oclient = k at *
  generalize hasK s.K oclient = q at *
  obtain ⟨kc, kreq, kerr, kgen, kdue⟩ := k
  try simp only at *
  go_region_held3 (fun w' => w'.cell? ⟨b, 4, none⟩ = some (.map (some x.lb)) ∧ w'.cell? ⟨w.heap.size, 1, none⟩ = some (.int .i64 oclient) ∧ (Instr.lookup ml (.map (some x.lb)) (.int .i64 oclient) true).run Tryz.prog w' = .ok (.tuple #[.agg #[.int .i64 kreq, .int .i64 kerr, .int .i64 kgen, .int .i64 kdue], .bool q]) w')
    (first | exact ⟨c4, p1, lk⟩ | exact HK.out _) (fail)
  all_goals
    clear c4 p1 lk HK
    have k2 := ((Below.refl w1.heap.size w1).alloc (Nat.le_refl _) (.cells #[.int .i64 kreq, .int .i64 kerr, .int .i64 kgen, .int .i64 kdue] 90)).drew
    have B2 := Lib.hid (B0.out.below k2)
    have L5 : Hid ((w1.alloc (.cells #[.int .i64 kreq, .int .i64 kerr, .int .i64 kgen, .int .i64 kdue] 90)).drew.heap[w1.heap.size]? = some (.cells #[.int .i64 kreq, .int .i64 kerr, .int .i64 kgen, .int .i64 kdue] 90)) := Go.heap_alloc_new w1 _
    clear k2
    generalize (w1.alloc (.cells #[.int .i64 kreq, .int .i64 kerr, .int .i64 kgen, .int .i64 kdue] 90)).drew = w2 at *
    generalize w1.heap.size = g5 at *
    obtain ⟨rfl, h2, h3⟩ := hys
    have m0 : w2.cell? ⟨g5, 0, none⟩ = some (.int .i64 kreq) := cell_in L5.out 0
    obtain ⟨p0, p1, p2, p3, p4, p5, p6, p7, p8, p9⟩ := op_cells B2.out.op
    have e1 : decide (oreq < kreq) = false := by simpa using h2
    have e2 : (kreq == oreq) = false := by simpa using h3
    replace h2 := Lib.hid h2
    replace h3 := Lib.hid h3
    have A2 := Lib.hid (Aft.ofBelow (hS.out w (Below.refl _ _)) B2.out.bel)
    have NA : Hid (∀ k, k ∈ own x b → k < w.heap.size ∨ w2.heap.size ≤ k) := fun k hk => .inl (hlt.out k hk)
    have op2 := Lib.hid B2.out.op
    have rp2 := Lib.hid B2.out.rp
    have hle : Hid (w2.heap.size ≤ w2.heap.size) := Nat.le_refl _
    have hB2 := Lib.hid B2.out.lt
    go_wp2_with fail
    refine (cH.out w2 x A2.out).mono ?_
    rintro e w3 ⟨rfl, xB, A3⟩
    clear p0 p1 p2 p3 p4 p5 p6 p7 p8 p9
    have NB : Hid (∀ k, k ∈ own xB b → k < w.heap.size ∨ w2.heap.size ≤ k) := fun k hk => by
      rcases A3.own k hk with e | e
      · exact NA.out k e
      · exact .inr (Nat.le_trans hle.out e)
    have NBl : Hid (∀ k, k ∈ own xB b → k < w3.heap.size) := fun k hk => (A3.sv.lt k hk).1
    have nA : ∀ i, w.heap.size ≤ i → i < w2.heap.size → i ∉ own x b := fun i h1 h2 h3 => by have := NA.out i h3; omega
    have op3 := Lib.hid ((A3.kept.block w.heap.size (lt_in op2.out) (nA _ (Nat.le_refl _) (by have := hB2.out; omega))).trans op2.out)
    have rp3 := Lib.hid ((A3.kept.block (w.heap.size + 1) (lt_in rp2.out) (nA _ (by omega) hB2.out)).trans rp2.out)
    replace A3 := Lib.hid A3
    clear nA op2 rp2
    go_wp2_with fail
    have k4 := ((Below.refl w3.heap.size w3).alloc (Nat.le_refl _) (.cells #[.int .i64 rerr, .int .i64 rgen, .int .i64 rdue] 34)).drew
    have A4 := Lib.hid (A3.out.below k4)
    have op4 := Lib.hid ((k4.block _ (lt_in op3.out)).trans op3.out)
    have rp4 := Lib.hid ((k4.block _ (lt_in rp3.out)).trans rp3.out)
    have n4 : Hid ((w3.alloc (.cells #[.int .i64 rerr, .int .i64 rgen, .int .i64 rdue] 34)).drew.heap[w3.heap.size]? = some (.cells #[.int .i64 rerr, .int .i64 rgen, .int .i64 rdue] 34)) := Go.heap_alloc_new w3 _
    obtain ⟨w5, hrun5, d4, hk5, x5, A5⟩ := HP.out w2 x xB A2.out _ A4.out
    have c4 := A4.out.sv.c4
    obtain ⟨p0, p1, p2, p3, p4, p5, p6, p7, p8, p9⟩ := op_cells op4.out
    obtain ⟨n0, n1, n2, nz0, nz1, nz2⟩ := rp_cells n4.out
    have op5 := (hk5 w.heap.size (lt_in op4.out) (fun e => by have := NB.out _ e; have := hB2.out; omega)).trans op4.out
    have rp5 := (hk5 (w.heap.size + 1) (lt_in rp4.out) (fun e => by have := NB.out _ e; have := hB2.out; omega)).trans rp4.out
    have n5 := (hk5 w3.heap.size (lt_in n4.out) (fun e => by have := NBl.out _ e; omega)).trans n4.out
    obtain ⟨s0, r1, r2, s3, s4, s5, s6, s7, s8, s9⟩ := op_cells op5
    obtain ⟨m0, m1, m2, mz0, mz1, mz2⟩ := rp_cells n5
    obtain ⟨q0, q1, q2, z0, z1, z2⟩ := rp_cells rp5
    have hr5 : Hid (w.heap.size + 1 ∉ own x5 b) := fun e => by
      rcases A5.own _ e with g | g
      · have := NB.out _ g; have := hB2.out; omega
      · have := lt_in rp4.out; omega
    have A6 := Lib.hid (A2.out.thenS (A4.out.thenS A5))
    replace k4 := True.intro
    clear op5 rp5 n5 A5 hk5 A4 op4 rp4 n4 op3 rp3 A3 HP cH p0 p3 p4 p5 p6 p7 p8 p9 nz0 nz1 nz2 s0 s3 s4 s5 s6 s7 s8 s9 mz0 mz1 mz2
    simp only [knV] at hrun5
    go_region_held3 (fun w' => w'.cell? ⟨b, 4, none⟩ = some (.map (some xB.lb)) ∧ w'.cell? ⟨w.heap.size, 1, none⟩ = some (.int .i64 oclient) ∧ w'.cell? ⟨w.heap.size, 2, none⟩ = some (.int .i64 oreq) ∧ w'.cell? ⟨w3.heap.size, 0, none⟩ = some (.int .i64 rerr) ∧ w'.cell? ⟨w3.heap.size, 1, none⟩ = some (.int .i64 rgen) ∧ w'.cell? ⟨w3.heap.size, 2, none⟩ = some (.int .i64 rdue))
      (first | exact ⟨c4, p1, p2, n0, n1, n2⟩ | exact ⟨d4, r1, r2, m0, m1, m2⟩) (fail)
    all_goals
      clear c4 p1 p2 n0 n1 n2 d4 r1 r2 hrun5
      go_wp2_with fail
      refine bodyPost_ret (v := rpV ⟨rerr, rgen, rdue⟩) ?_ rfl ?_
      · rw [results_cellA rfl]
        go_simp
      · exact ⟨rfl, x5, AftS.store A6.out (by omega) hr5.out _ _ _⟩
set_option maxHeartbeats 8000000 in
theorem ask_new (h : SS w b s x c) (tb : Tab w) (nt : NTab w) (hc : c ≤ 900000) (o : OpN) (ho : OpOk o) (hky : (o.kind = 1 ∨ o.kind = 2) ∧ hasK s.K o.client = false ∧ ¬ 3 ≤ s.K.length) :
    Calls Tryz.prog 31 #[.pointer (some ⟨b, 0, none⟩), opV o] w fun e w' => e = .returned (rpV (askN s o).2) ∧ ∃ x', AftS w b x w' (askN s o).1 x' (c + 1) := by
  rw [ask_first hky.2.1 hky.2.2]
  have hlt := Lib.hid (fun i hi => (h.sv.lt i hi).1)
  have B0 := Lib.hid (Bx.start w o)
  have HL : Hid (∀ W, Below w.heap.size w W → W.heap[w.heap.size]? = some (opO o) → W.cell? ⟨b, 4, none⟩ = some (.map (some x.lb)) ∧ W.cell? ⟨w.heap.size, 1, none⟩ = some (.int .i64 o.client) ∧ (Instr.lookup ml (.map (some x.lb)) (.int .i64 o.client) true).run Tryz.prog W = .ok (.tuple #[knV (valK s.K o.client), .bool (hasK s.K o.client)]) W) := fun W k hop => ⟨(h.sv.below k).c4, (op_cells hop).2.1, (h.sv.below k).lookK h.kp ho.client rfl⟩
  have hch := change_chg h.sv.ok ho
  have hS : Hid (∀ W, Below w.heap.size w W → Sv W b s (clOf s) x c) := fun W k => h.sv.below k
  have cH : Hid (∀ W xA, Aft w b x W s (clOf s ++ [o.client]) xA c → Calls Tryz.prog 56 #[.pointer (some ⟨b, 0, none⟩), opV o] W fun e w' => e = .returned (rpV (changeN s o).2) ∧ ∃ x', Aft W b xA w' (changeN s o).1 (clOf s ++ [o.client]) x' (c + 1)) := fun W xA A =>
    change_any A.sv (tb.behind A.kept (fun i hi => (h.sv.lt i hi).2)) (nt.kl A.kept (fun i hi => (h.sv.lt i hi).2)) hc o ho
  -- what is remembered in the end
  have HP : Hid (∀ W xA xB, Aft w b x W s (clOf s ++ [o.client]) xA c → ∀ W2, Aft W b xA W2 (changeN s o).1 (clOf s ++ [o.client]) xB (c + 1) → ∃ w', (Instr.mapUpdate ml (.map (some xB.lb)) (.int .i64 o.client) (knV ⟨o.client, o.req, (changeN s o).2⟩)).run Tryz.prog W2 = .ok () w' ∧ w'.cell? ⟨b, 4, none⟩ = some (.map (some xB.lb)) ∧ (∀ i, i < W2.heap.size → i ∉ own xB b → w'.heap[i]? = W2.heap[i]?) ∧ ∃ x', AftS W2 b xB w' { (changeN s o).1 with K := s.K ++ [⟨o.client, o.req, (changeN s o).2⟩] } x' (c + 1)) := fun W xA xB A1 W2 A2 => by
    have hkl : xB.kl.Perm s.K := by rw [A2.kl, A1.kl]; exact h.kp
    have hk : KnOk ⟨o.client, o.req, (changeN s o).2⟩ := ⟨ho.client, ho.req, hch.rp⟩
    obtain ⟨w', r, x', s1, k1, e1, e2, p1⟩ := A2.sv.putK hkl h.sv.ok.apart h.sv.ok.kn ⟨o.client, o.req, (changeN s o).2⟩ hk (K' := s.K ++ [⟨o.client, o.req, (changeN s o).2⟩]) (.inr ⟨hky.2.1, rfl⟩)
    have hok : Ok { (changeN s o).1 with K := s.K ++ [⟨o.client, o.req, (changeN s o).2⟩] } := by
      have := (apply_ok h.sv.ok ho (by have := h.sv.gc; omega)).1
      rw [show applyN s o = askN s o by unfold applyN; rw [if_pos hky.1], ask_first hky.2.1 hky.2.2] at this
      exact this
    refine ⟨w', r, by have := s1.c4; rw [e2] at this; exact this, k1.block, x', ⟨⟨?_, p1⟩, k1, fun i hi => .inl (by rw [← e1]; exact hi)⟩⟩
    have s2 := s1.congr (s' := { (changeN s o).1 with K := s.K ++ [⟨o.client, o.req, (changeN s o).2⟩] }) rfl rfl rfl hok
    rw [show clOf ({ (changeN s o).1 with K := s.K ++ [⟨o.client, o.req, (changeN s o).2⟩] } : St) = (clOf s ++ [o.client]) from by simp [clOf]]
    exact s2
  replace hch := True.intro
  replace hc := Lib.hid hc
  obtain ⟨hkd, hys⟩ := hky
  replace hkd := Lib.hid hkd
  have hlen : ((clOf s).length : Int) = (s.K.length : Int) := by simp [clOf]
  have hlen2 : (clOf s).length ≤ 3 := by have := h.sv.ok.few; simp [clOf]; omega
  generalize clOf s = CL at *
  replace hlen := Lib.hid hlen
  replace hlen2 := Lib.hid hlen2
  clear h tb nt ho
  obtain ⟨okind, oclient, oreq, oid, ogen, oocc, odue, ostamp, oepoch, ocron⟩ := o
  try simp only [opV, opC, opO, rpO] at *
  generalize changeN s _ = R at *
  obtain ⟨s1, rerr, rgen, rdue⟩ := R
  try simp only at *
  go_enter Tryz.func31, Tryz.ntmps31
  go_wp2_with fail
  obtain ⟨w1, hw1⟩ : ∃ w1, (w.alloc (.cells #[.int .i64 okind, .int .i64 oclient, .int .i64 oreq, .int .i64 oid, .int .i64 ogen, .int .i64 oocc, .int .i64 odue, .int .i64 ostamp, .int .i64 oepoch, .string ocron] 30)).alloc (.cells #[.int .i64 0, .int .i64 0, .int .i64 0] 34) = w1 := ⟨_, rfl⟩
  rw [hw1] at B0 ⊢
  replace hw1 := True.intro
  obtain ⟨c4, p1, lk⟩ := HL.out w1.drew B0.out.bel.drew B0.out.op
  have HK : Hid (∀ o : Obj, (w1.alloc o).drew.cell? ⟨b, 4, none⟩ = some (.map (some x.lb)) ∧ (w1.alloc o).drew.cell? ⟨w.heap.size, 1, none⟩ = some (.int .i64 oclient) ∧ (Instr.lookup ml (.map (some x.lb)) (.int .i64 oclient) true).run Tryz.prog (w1.alloc o).drew = .ok (.tuple #[knV (valK s.K oclient), .bool (hasK s.K oclient)]) (w1.alloc o).drew) := fun o => by
    have B3 := B0.out.below ((Below.refl w1.heap.size w1).alloc (Nat.le_refl _) o).drew
    exact HL.out _ B3.bel B3.op
  clear HL
  generalize valK s.K oclient = k at *
  generalize hasK s.K oclient = q at *
  obtain ⟨kc, kreq, kerr, kgen, kdue⟩ := k
  try simp only at *
  go_region_held3 (fun w' => w'.cell? ⟨b, 4, none⟩ = some (.map (some x.lb)) ∧ w'.cell? ⟨w.heap.size, 1, none⟩ = some (.int .i64 oclient) ∧ (Instr.lookup ml (.map (some x.lb)) (.int .i64 oclient) true).run Tryz.prog w' = .ok (.tuple #[.agg #[.int .i64 kreq, .int .i64 kerr, .int .i64 kgen, .int .i64 kdue], .bool q]) w')
    (first | exact ⟨c4, p1, lk⟩ | exact HK.out _) (fail)
  all_goals
    clear c4 p1 lk HK
    have k2 := ((Below.refl w1.heap.size w1).alloc (Nat.le_refl _) (.cells #[.int .i64 kreq, .int .i64 kerr, .int .i64 kgen, .int .i64 kdue] 90)).drew
    have B2 := Lib.hid (B0.out.below k2)
    have L5 : Hid ((w1.alloc (.cells #[.int .i64 kreq, .int .i64 kerr, .int .i64 kgen, .int .i64 kdue] 90)).drew.heap[w1.heap.size]? = some (.cells #[.int .i64 kreq, .int .i64 kerr, .int .i64 kgen, .int .i64 kdue] 90)) := Go.heap_alloc_new w1 _
    clear k2
    generalize (w1.alloc (.cells #[.int .i64 kreq, .int .i64 kerr, .int .i64 kgen, .int .i64 kdue] 90)).drew = w2 at *
    generalize w1.heap.size = g5 at *
    obtain ⟨rfl, h2⟩ := hys
    have m0 : w2.cell? ⟨g5, 0, none⟩ = some (.int .i64 kreq) := cell_in L5.out 0
    have e1 : decide (3 ≤ (CL.length : Int)) = false := by simp only [decide_eq_false_iff_not]; rw [hlen.out]; omega
    have e2 : decide (3 ≤ CL.length) = false := by have := of_decide_eq_false e1; exact decide_eq_false (by omega)
    have c3 := (hS.out _ B2.out.bel).c3
    have p1 := (op_cells B2.out.op).2.1
    have kv : Below w2.heap.size w2 (w2.alloc (.cells #[.int .i64 oclient] 3)).drew := ((Below.refl _ _).alloc (Nat.le_refl _) _).drew
    have Bv := B2.out.below kv
    have hvn : w2.heap.size ∉ own x b := fun g => by have := hlt.out _ g; have := B2.out.lt; omega
    obtain ⟨p', cap', w8, hrun, c8, f8, hk8, xA, A8⟩ := (hS.out _ Bv.bel).pushC hlen2.out oclient w2.heap.size (Go.heap_alloc_new w2 _) hvn
    have a3 := (hS.out (w2.alloc (.cells #[.int .i64 oclient] 3)) (B2.out.below ((Below.refl _ _).alloc (Nat.le_refl _) _)).bel).c3
    have a1 := (op_cells (B2.out.below ((Below.refl w2.heap.size w2).alloc (Nat.le_refl _) (.cells #[.int .i64 oclient] 3))).op).2.1
    have A2 := Lib.hid (Aft.before Bv.bel A8)
    have hB2 := Lib.hid B2.out.lt
    have NA : Hid (∀ k, k ∈ own xA b → k < w.heap.size ∨ w2.heap.size ≤ k) := fun k hk => by
      rcases A8.own k hk with e | e
      · exact .inl (hlt.out k e)
      · exact .inr (Nat.le_trans kv.size e)
    have hnb : ∀ i, w.heap.size ≤ i → i < (w2.alloc (.cells #[.int .i64 oclient] 3)).drew.heap.size → (w8.setCell ⟨b, 3, none⟩ (.slice p' (CL.length + 1) cap')).heap[i]? = (w2.alloc (.cells #[.int .i64 oclient] 3)).drew.heap[i]? := fun i h1 h2 => A8.kept.block i h2 (fun e => by have := hlt.out i e; omega)
    have op2 := Lib.hid ((hnb w.heap.size (Nat.le_refl _) (lt_in Bv.op)).trans Bv.op)
    have rp2 := Lib.hid ((hnb (w.heap.size + 1) (by omega) (lt_in Bv.rp)).trans Bv.rp)
    have hle : Hid (w2.heap.size ≤ (w8.setCell ⟨b, 3, none⟩ (.slice p' (CL.length + 1) cap')).heap.size) := Nat.le_trans kv.size A8.kept.size
    replace h2 := Lib.hid h2
    clear kv Bv hvn hk8 A8 hnb
    go_upto_region 9 with fail
    clear m0 e1 e2
    replace hrun := Lib.hid hrun
    go_region_law (refine step_append_st (by rfl) _ _ 48 48 (by rfl) _ _ (by rfl) (by rfl) hrun.out ?_)
    all_goals
      clear c3 p1 hrun c8 f8 a3 a1
      generalize w8.setCell ⟨b, 3, none⟩ (.slice p' (CL.length + 1) cap') = w9 at *
      obtain ⟨p0, p1, p2, p3, p4, p5, p6, p7, p8, p9⟩ := op_cells op2.out
      go_wp2_with fail
      refine (cH.out w9 xA A2.out).mono ?_
      rintro e w3 ⟨rfl, xB, A3⟩
      clear p0 p1 p2 p3 p4 p5 p6 p7 p8 p9
      have NB : Hid (∀ k, k ∈ own xB b → k < w.heap.size ∨ w2.heap.size ≤ k) := fun k hk => by
        rcases A3.own k hk with e | e
        · exact NA.out k e
        · exact .inr (Nat.le_trans hle.out e)
      have NBl : Hid (∀ k, k ∈ own xB b → k < w3.heap.size) := fun k hk => (A3.sv.lt k hk).1
      have nA : ∀ i, w.heap.size ≤ i → i < w2.heap.size → i ∉ own xA b := fun i h1 h2 h3 => by have := NA.out i h3; omega
      have op3 := Lib.hid ((A3.kept.block w.heap.size (lt_in op2.out) (nA _ (Nat.le_refl _) (by have := hB2.out; omega))).trans op2.out)
      have rp3 := Lib.hid ((A3.kept.block (w.heap.size + 1) (lt_in rp2.out) (nA _ (by omega) hB2.out)).trans rp2.out)
      replace A3 := Lib.hid A3
      clear nA op2 rp2
      go_wp2_with fail
      have k4 := ((Below.refl w3.heap.size w3).alloc (Nat.le_refl _) (.cells #[.int .i64 rerr, .int .i64 rgen, .int .i64 rdue] 34)).drew
      have A4 := Lib.hid (A3.out.below k4)
      have op4 := Lib.hid ((k4.block _ (lt_in op3.out)).trans op3.out)
      have rp4 := Lib.hid ((k4.block _ (lt_in rp3.out)).trans rp3.out)
      have n4 : Hid ((w3.alloc (.cells #[.int .i64 rerr, .int .i64 rgen, .int .i64 rdue] 34)).drew.heap[w3.heap.size]? = some (.cells #[.int .i64 rerr, .int .i64 rgen, .int .i64 rdue] 34)) := Go.heap_alloc_new w3 _
      obtain ⟨w5, hrun5, d4, hk5, x5, A5⟩ := HP.out w9 xA xB A2.out _ A4.out
      have c4 := A4.out.sv.c4
      obtain ⟨p0, p1, p2, p3, p4, p5, p6, p7, p8, p9⟩ := op_cells op4.out
      obtain ⟨n0, n1, n2, nz0, nz1, nz2⟩ := rp_cells n4.out
      have op5 := (hk5 w.heap.size (lt_in op4.out) (fun e => by have := NB.out _ e; have := hB2.out; omega)).trans op4.out
      have rp5 := (hk5 (w.heap.size + 1) (lt_in rp4.out) (fun e => by have := NB.out _ e; have := hB2.out; omega)).trans rp4.out
      have n5 := (hk5 w3.heap.size (lt_in n4.out) (fun e => by have := NBl.out _ e; omega)).trans n4.out
      obtain ⟨s0, r1, r2, s3, s4, s5, s6, s7, s8, s9⟩ := op_cells op5
      obtain ⟨m0, m1, m2, mz0, mz1, mz2⟩ := rp_cells n5
      obtain ⟨q0, q1, q2, z0, z1, z2⟩ := rp_cells rp5
      have hr5 : Hid (w.heap.size + 1 ∉ own x5 b) := fun e => by
        rcases A5.own _ e with g | g
        · have := NB.out _ g; have := hB2.out; omega
        · have := lt_in rp4.out; omega
      have A6 := Lib.hid (A2.out.thenS (A4.out.thenS A5))
      replace k4 := True.intro
      clear op5 rp5 n5 A5 hk5 A4 op4 rp4 n4 op3 rp3 A3 HP cH p0 p3 p4 p5 p6 p7 p8 p9 nz0 nz1 nz2 s0 s3 s4 s5 s6 s7 s8 s9 mz0 mz1 mz2
      simp only [knV] at hrun5
      go_region_held3 (fun w' => w'.cell? ⟨b, 4, none⟩ = some (.map (some xB.lb)) ∧ w'.cell? ⟨w.heap.size, 1, none⟩ = some (.int .i64 oclient) ∧ w'.cell? ⟨w.heap.size, 2, none⟩ = some (.int .i64 oreq) ∧ w'.cell? ⟨w3.heap.size, 0, none⟩ = some (.int .i64 rerr) ∧ w'.cell? ⟨w3.heap.size, 1, none⟩ = some (.int .i64 rgen) ∧ w'.cell? ⟨w3.heap.size, 2, none⟩ = some (.int .i64 rdue))
        (first | exact ⟨c4, p1, p2, n0, n1, n2⟩ | exact ⟨d4, r1, r2, m0, m1, m2⟩) (fail)
      all_goals
        clear c4 p1 p2 n0 n1 n2 d4 r1 r2 hrun5
        go_wp2_with fail
        refine bodyPost_ret (v := rpV ⟨rerr, rgen, rdue⟩) ?_ rfl ?_
        · rw [results_cellA rfl]
          go_simp
        · exact ⟨rfl, x5, AftS.store A6.out (by omega) hr5.out _ _ _⟩
end
end Go.Proofs.YtiidhcpflplpiaaGreatDoor

/-
  Layer 8: New, Clients, Last; what is none.
-/
set_option linter.unusedVariables false
namespace Go.Proofs.YtiidhcpflplpiaaGreatDoor
open Go.RowKit Crn Nxt Ste
set_option maxRecDepth 100000
section
variable {w w' : World} {b : Nat} {s : St} {cl : List Int} {x : Px} {c : Nat}
theorem st_new (timers : Int) (ht : i64 timers) (w : World) (hw : topTab < w.heap.size) :
    Calls Tryz.prog 11 #[.int .i64 timers] w fun e w' => e = .returned (.pointer (some ⟨w.heap.size + 3, 0, none⟩)) ∧ Below w.heap.size w w' ∧ ∃ x, Sv w' (w.heap.size + 3) (newN timers) [] x 0 ∧ x.kl = [] ∧ ∀ k, k ∈ own x (w.heap.size + 3) → w.heap.size ≤ k := by
  have cN := Lib.hid (fun W (h : topTab < W.heap.size) => new_any W h)
  have hR : ((min (max timers 1) 16).toNat : Int) = min (max timers 1) 16 := by omega
  have h1 := ht.1
  have h2 := ht.2
  have hN : newN timers = ⟨(min (max timers 1) 16).toNat, 0, [], []⟩ := rfl
  have hok := Lib.hid (new_ok timers)
  rw [hN] at hok ⊢
  generalize hR2 : (min (max timers 1) 16).toNat = R at *
  have hRl : min (max timers 1) 16 = (R : Int) := hR.symm
  replace hR := Lib.hid hR
  replace hRl := Lib.hid hRl
  replace hR2 := Lib.hid hR2
  replace hN := True.intro
  replace hw := Lib.hid hw
  have mk1 := fun W => vmake mt W
  have mk2 := fun W => vmake ml W
  go_enter Tryz.func11, Tryz.ntmps11
  go_wp2_with fail
  refine (cN.out _ (by simp; have := hw.out; omega)).mono ?_
  rintro e w2 ⟨rfl, ca, k2, hs2⟩
  have z2 : ((w.alloc (.map #[] 0)).alloc (.map #[] 0)).heap.size = w.heap.size + 2 := by simp
  rw [z2] at ca k2 hs2 ⊢
  have m0 : VMap w2 w.heap.size ((([] : List Tm)).map tmP) := (VMap.made w).kept ((k2.block _ (by omega)).trans (alloc_old (by simp)))
  have m1 : VMap w2 (w.heap.size + 1) ((([] : List Kn)).map knP) := by
    have e := VMap.made (w.alloc (.map #[] 0))
    rw [World.size_alloc] at e
    exact e.kept (k2.block _ (by omega))
  have b2 : Below w.heap.size w w2 := (((Below.refl w.heap.size w).alloc (Nat.le_refl _) _).alloc (by simp) _).trans (k2.mono (by omega))
  replace ca := Lib.hid ca
  replace k2 := Lib.hid k2
  replace m0 := Lib.hid m0
  replace m1 := Lib.hid m1
  replace b2 := Lib.hid b2
  have hs3 : Hid (w2.heap.size = w.heap.size + 3) := by unfold Hid; omega
  clear hs2 z2 mk1 mk2 cN
  go_wp2_with fail
  go_ret
  have hw0 := hw.out
  have hs4 := hs3.out
  have k3 : Below w2.heap.size w2 (w2.alloc (.cells #[.int .i64 (min (max timers 1) 16), .int .i64 0, .map (some w.heap.size), .slice none 0 0, .map (some (w.heap.size + 1)), .pointer (some ⟨w.heap.size + 2, 0, none⟩)] ts)) := (Below.refl _ _).alloc (Nat.le_refl _) _
  refine ⟨by rw [hs4]; rfl, b2.out.trans (k3.mono b2.out.size), ⟨w.heap.size, w.heap.size + 1, w.heap.size + 2, none, 0, 0, none, [], [], []⟩, ⟨?_, m0.out.kept (k3.block _ m0.out.lt), List.Perm.refl _, m1.out.kept (k3.block _ m1.out.lt), World.ownsRow_nil _ _ _ _, ca.out.below k3, ⟨Nat.le_refl _, Nat.le_refl _⟩, by omega, by show topTab < w.heap.size; omega, by show topTab < w.heap.size + 1; omega, ⟨by show w.heap.size ≠ w.heap.size + 1; omega, by simp, by simp⟩, hok.out, Nat.le_refl _⟩, rfl, fun k hk => ?_⟩
  · have e := Go.heap_alloc_new w2 (.cells #[.int .i64 (min (max timers 1) 16), .int .i64 0, .map (some w.heap.size), .slice none 0 0, .map (some (w.heap.size + 1)), .pointer (some ⟨w.heap.size + 2, 0, none⟩)] ts)
    rw [hs4, hRl.out] at e
    rw [hRl.out]
    exact e
  · simp only [own, rowOf, owned, Value.ownBlock, Option.toList, List.mem_cons, List.mem_append, List.map_nil, List.not_mem_nil, or_false, false_or] at hk
    rcases hk with rfl | rfl | rfl | rfl <;> omega
/-- A list of numbers in memory. -/
def Nums (base : Nat) (w : World) (v : Value) (l : List Int) : Prop := w.ownsRow base 3 1 v l.length (l.map iv)
theorem Tryz.info3c : (Tryz.prog.info? 3).map (fun i => (i.zero, i.size, i.bytes)) = some (some (.int .i64 0), 1, 8) := by kernel_rfl
set_option maxHeartbeats 2000000 in
theorem clone_nums (v : Value) (l : List Int) (base : Nat) (w : World) (h : Nums base w v l) (hl : l.length ≤ 1000) :
    Calls Tryz.prog 42 #[v] w fun e w' => ∃ v', e = .returned v' ∧ Nums w.heap.size w' v' l ∧ Below w.heap.size w w' := by
  obtain ⟨i0, hi0, hz0, hzs, hzb⟩ := info_parts Tryz.info3c
  have qn := fun (W : World) (a : Option Addr) (n c : Nat) => Lib.run_eql_slice_nil (P := Tryz.prog) W 48 3 a n c 0 0 Tryz.underlying48
  rcases h.2 with ⟨rfl, h0⟩ | ⟨g, cap, cur, rfl, hb, hg, h1, h2, h3, h4⟩
  · obtain rfl : l = [] := by simpa using h0
    clear h hl
    go_enter Tryz.func42, Tryz.ntmps42
    go_wp2_with fail
    go_ret
    exact ⟨_, rfl, World.ownsRow_nil _ _ _ _, Below.refl _ _⟩
  · have hgl : g < w.heap.size := lt_in hg
    have k1 : Below w.heap.size w (w.alloc (.cells #[] 3)) := (Below.refl _ _).alloc (Nat.le_refl _) _
    have hcell : ∀ j u, (l.map iv)[j]? = some u → (w.alloc (.cells #[] 3)).cell? ((⟨g, 0, none⟩ : Addr).add j) = some u := fun j u hu => by
      have hj : j < l.length := by
        have := (List.getElem?_eq_some_iff.1 hu).1
        simpa using this
      rw [Addr.add_lit]
      have e1 : (w.alloc (.cells #[] 3)).heap[g]? = some (.cells cur 3 (0, 0)) := (k1.block g hgl).trans hg
      have e2 := cell_in e1 j
      have e3 : cur[j]? = some u := by
        have := congrArg (·[j]?) h4
        simp only [Nat.mul_one] at this
        rw [List.getElem?_take_of_lt hj, Array.getElem?_toList, hu] at this
        exact this
      simpa using e2.trans e3
    have o1 : (w.alloc (.cells #[] 3)).ownsRow w.heap.size 3 1 (.slice (some ⟨w.heap.size, 0, none⟩) 0 0) 0 [] :=
      ⟨rfl, .inr ⟨w.heap.size, 0, #[], rfl, Nat.le_refl _, Go.heap_alloc_new w _, Nat.le_refl _, Nat.zero_le _, rfl, rfl⟩⟩
    obtain ⟨v', w', r, o2, g2, -, -⟩ := run_append_own_at (P := Tryz.prog) (w.alloc (.cells #[] 3)) w.heap.size 48 48 3 i0 _ 1 8 Tryz.underlying48 hi0 hz0 hzs hzb rfl (by omega) _ 0 [] o1 ⟨g, 0, none⟩ l.length cap (l.map iv) (by simp) hcell (fun u hu => by obtain ⟨a, _, rfl⟩ := List.mem_map.1 hu; rfl) (by unfold maxLen; omega) (by omega) (by simp)
    rw [Nat.zero_add, List.nil_append] at o2
    have hfin : Hid (Nums w.heap.size w' v' l ∧ Below w.heap.size w w') := ⟨o2, k1.grown g2 k1.size (fun k e => by simp [Value.ownBlock] at e; omega)⟩
    clear h hl hb hg h1 h2 h3 h4 hcell o1 o2 g2 k1 hi0 hz0 hzs hzb
    go_enter Tryz.func42, Tryz.ntmps42
    go_wp2_with (at_builtin; refine Lib.wpList_append_run _ rfl _ _ _ _ rfl _ _ rfl rfl _ _ r ?_)
    go_ret
    exact ⟨_, rfl, hfin.out⟩
theorem clients_any (h : Sv w b s cl x c) (hl : cl.length ≤ 3) : Calls Tryz.prog 23 #[.pointer (some ⟨b, 0, none⟩)] w fun e w' => ∃ v', e = .returned v' ∧ Nums w.heap.size w' v' cl ∧ Below w.heap.size w w' := by
  have cC := Lib.hid (clone_nums _ cl _ w h.row (by omega))
  have c3 := h.c3
  clear h hl
  go_enter Tryz.func23, Tryz.ntmps23
  go_wp2_with fail
  refine cC.out.mono ?_
  rintro e w2 ⟨v', rfl, k2⟩
  replace k2 := Lib.hid k2
  go_wp2_with fail
  go_ret
  exact ⟨_, rfl, k2.out⟩
end
end Go.Proofs.YtiidhcpflplpiaaGreatDoor

/-
  Layer 8: Apply and Last.
-/
set_option linter.unusedVariables false
namespace Go.Proofs.YtiidhcpflplpiaaGreatDoor
open Go.RowKit Crn Nxt Ste
set_option maxRecDepth 100000
section
variable {w w' : World} {b : Nat} {s : St} {cl : List Int} {x : Px} {c : Nat}
theorem AftS.ofBelow (h : SS w b s x c) (k : Below w.heap.size w w') : AftS w b x w' s x c := ⟨⟨h.sv.below k, h.kp⟩, Kl.ofBelow k, fun _ hi => .inl hi⟩
theorem SS.mono (h : SS w b s x c) {c' : Nat} (hc : c ≤ c') : SS w b s x c' := ⟨h.sv.mono hc, h.kp⟩
theorem AftS.more {s' : St} {x' : Px} {c' c'' : Nat} (h : AftS w b x w' s' x' c') (hc : c' ≤ c'') : AftS w b x w' s' x' c'' := ⟨h.ss.mono hc, h.kept, h.own⟩
theorem SS.below (h : SS w b s x c) (k : Below w.heap.size w w') : SS w' b s x c := ⟨h.sv.below k, h.kp⟩
theorem ask_any (h : SS w b s x c) (tb : Tab w) (nt : NTab w) (hc : c ≤ 900000) (o : OpN) (ho : OpOk o) (hk : o.kind = 1 ∨ o.kind = 2) :
    Calls Tryz.prog 31 #[.pointer (some ⟨b, 0, none⟩), opV o] w fun e w' => e = .returned (rpV (askN s o).2) ∧ ∃ x', AftS w b x w' (askN s o).1 x' (c + 1) := by
  have early : ∀ r, askN s o = (s, r) → Calls Tryz.prog 31 #[.pointer (some ⟨b, 0, none⟩), opV o] w (fun e w' => e = .returned (rpV r) ∧ Aft w b x w' s (clOf s) x c) → Calls Tryz.prog 31 #[.pointer (some ⟨b, 0, none⟩), opV o] w fun e w' => e = .returned (rpV (askN s o).2) ∧ ∃ x', AftS w b x w' (askN s o).1 x' (c + 1) := fun r hr hc2 => by
    rw [hr]
    exact hc2.mono fun e w' ⟨he, A⟩ => ⟨he, x, (A.toS h.kp rfl).more (Nat.le_succ _)⟩
  cases hq : hasK s.K o.client with
  | true =>
    by_cases h1 : o.req < (valK s.K o.client).req
    · exact early _ (ask_old hq h1) (ask_early h.sv h.kp o ho _ (.inl ⟨hq, h1, rfl⟩))
    · by_cases h2 : (valK s.K o.client).req = o.req
      · exact early _ (ask_same hq h1 h2) (ask_early h.sv h.kp o ho _ (.inr (.inl ⟨hq, h1, h2, rfl⟩)))
      · exact ask_again h tb nt hc o ho ⟨hk, hq, h1, h2⟩
  | false =>
    by_cases h1 : 3 ≤ s.K.length
    · exact early _ (ask_full hq h1) (ask_early h.sv h.kp o ho _ (.inr (.inr ⟨hq, h1, rfl⟩)))
    · exact ask_new h tb nt hc o ho ⟨hk, hq, h1⟩
theorem fireN_K (s : St) (o : OpN) : (fireN s o).1.K = s.K := by
  unfold fireN
  split
  · rfl
  · split <;> rfl
theorem fire_any (h : SS w b s x c) (tb : Tab w) (nt : NTab w) (hc : c ≤ 900000) (o : OpN) (ho : OpOk o) :
    Calls Tryz.prog 32 #[.pointer (some ⟨b, 0, none⟩), opV o] w fun e w' => e = .returned (rpV (fireN s o).2) ∧ ∃ x', AftS w b x w' (fireN s o).1 x' (c + 1) := by
  have hK := fireN_K s o
  have hcl : clOf (fireN s o).1 = clOf s := by unfold clOf; rw [hK]
  cases hf : firesB s o with
  | true => exact (fire_done h.sv tb nt hc o ho hf).mono fun e w' ⟨he, x', A⟩ => ⟨he, x', by rw [← hcl] at A; exact A.toS h.kp hK⟩
  | false => exact (fire_refused h.sv o ho hf).mono fun e w' ⟨he, x', A⟩ => ⟨he, x', by rw [← hcl] at A; exact (A.toS h.kp hK).more (Nat.le_succ _)⟩
set_option maxHeartbeats 4000000 in
theorem apply_any (h : SS w b s x c) (tb : Tab w) (nt : NTab w) (hc : c ≤ 900000) (o : OpN) (ho : OpOk o) :
    Calls Tryz.prog 15 #[.pointer (some ⟨b, 0, none⟩), opV o] w fun e w' => e = .returned (rpV (applyN s o).2) ∧ ∃ x', AftS w b x w' (applyN s o).1 x' (c + 1) := by
  have hlt := Lib.hid (fun i hi => (h.sv.lt i hi).1)
  have B0 := Lib.hid (Bx.start w o)
  have qT : ∀ (w : World) (r : Option Nat), (binOp .eql mt (.map r) (.map none)).run Tryz.prog w = .ok (.bool r.isNone) w := fun w r => run_eql_map_nil w _ _ _ r mapT
  have cA : Hid (∀ W, Below w.heap.size w W → (o.kind = 1 ∨ o.kind = 2) → Calls Tryz.prog 31 #[.pointer (some ⟨b, 0, none⟩), opV o] W fun e w' => e = .returned (rpV (askN s o).2) ∧ ∃ x', AftS W b x w' (askN s o).1 x' (c + 1)) := fun W k hk => ask_any (h.below k) (tb.below k) (nt.below k) hc o ho hk
  have cF : Hid (∀ W, Below w.heap.size w W → Calls Tryz.prog 32 #[.pointer (some ⟨b, 0, none⟩), opV o] W fun e w' => e = .returned (rpV (fireN s o).2) ∧ ∃ x', AftS W b x w' (fireN s o).1 x' (c + 1)) := fun W k => fire_any (h.below k) (tb.below k) (nt.below k) hc o ho
  have cR := Lib.hid refusal_any
  have hS : Hid (∀ W, Below w.heap.size w W → AftS W b x W s x c) := fun W k => AftS.ofBelow (h.below k) (Below.refl _ _)
  have nob : Hid (∀ (x' : Px) (W w' : World) (s' : St) (c' : Nat), Bx w W o → AftS W b x w' s' x' c' → AftS w b x w' s' x' c' ∧ w.heap.size + 1 ∉ own x' b ∧ w'.heap[w.heap.size + 1]? = some rpO) := fun x' W w' s' c' B A => by
    have hB := B.lt
    refine ⟨⟨A.ss, (Kl.ofBelow B.bel).trans A.kept, fun i hi => ?_⟩, fun e => ?_, (A.kept.block _ hB (fun e => by have := hlt.out _ e; omega)).trans B.rp⟩
    · rcases A.own i hi with g | g
      · exact .inl g
      · right; have := B.bel.size; omega
    · rcases A.own _ e with g | g
      · have := hlt.out _ g; omega
      · omega
  obtain ⟨p0, p1, p2, p3, p4, p5, p6, p7, p8, p9⟩ := op_cells B0.out.op
  have c2 := (h.sv.below B0.out.bel).c2
  clear h tb nt ho
  have fin : ∀ R : St × Rp, applyN s o = R → applyN s o = R := fun _ h => h
  by_cases hk : o.kind = 1 ∨ o.kind = 2
  · have hR : applyN s o = askN s o := by unfold applyN; rw [if_pos hk]
    rw [hR]
    have cA2 : Hid (∀ W, Below w.heap.size w W → Calls Tryz.prog 31 #[.pointer (some ⟨b, 0, none⟩), opV o] W fun e w' => e = .returned (rpV (askN s o).2) ∧ ∃ x', AftS W b x w' (askN s o).1 x' (c + 1)) := fun W k => cA.out W k hk
    generalize askN s o = R at *
    clear hR cA cF cR hS fin
    have hkk : (o.kind == 1) = true ∨ ((o.kind == 1) = false ∧ (o.kind == 2) = true) := by
      rcases hk with e | e
      · exact .inl (by simp [e])
      · exact .inr ⟨by simp [e], by simp [e]⟩
    replace hk := Lib.hid hk
    obtain ⟨okind, oclient, oreq, oid, ogen, oocc, odue, ostamp, oepoch, ocron⟩ := o
    obtain ⟨s', rerr, rgen, rdue⟩ := R
    simp only [opV, opC, opO, rpO] at *
    rcases hkk with e1 | ⟨e1, e2⟩
    all_goals
      go_enter Tryz.func15, Tryz.ntmps15
      go_wp2_with fail
      refine (cA2.out _ B0.out.bel).mono ?_
      rintro e w2 ⟨rfl, x2, A2⟩
      obtain ⟨A3, n3, r3⟩ := nob.out x2 _ _ _ _ B0.out A2
      obtain ⟨q0, q1, q2, z0, z1, z2⟩ := rp_cells r3
      replace A3 := Lib.hid A3
      replace n3 := Lib.hid n3
      clear p0 p1 p2 p3 p4 p5 p6 p7 p8 p9 cA2 A2 r3 c2 qT nob
      go_wp2_with fail
      refine bodyPost_ret (v := rpV ⟨rerr, rgen, rdue⟩) ?_ rfl ?_
      · rw [results_cellA rfl]
        go_simp
      · exact ⟨rfl, x2, AftS.store A3.out (by omega) n3.out _ _ _⟩
  · have e1 : (o.kind == 1) = false := by simp only [beq_eq_false_iff_ne]; omega
    have e2 : (o.kind == 2) = false := by simp only [beq_eq_false_iff_ne]; omega
    by_cases hk3 : o.kind = 3
    · have hR : applyN s o = fireN s o := by unfold applyN; rw [if_neg hk, if_pos hk3]
      have e3 : (o.kind == 3) = true := by simp [hk3]
      rw [hR]
      generalize fireN s o = R at *
      clear hR cA cR hS fin
      replace hk := Lib.hid hk
      replace hk3 := Lib.hid hk3
      obtain ⟨okind, oclient, oreq, oid, ogen, oocc, odue, ostamp, oepoch, ocron⟩ := o
      obtain ⟨s', rerr, rgen, rdue⟩ := R
      simp only [opV, opC, opO, rpO] at *
      go_enter Tryz.func15, Tryz.ntmps15
      go_wp2_with fail
      refine (cF.out _ B0.out.bel).mono ?_
      rintro e w2 ⟨rfl, x2, A2⟩
      obtain ⟨A3, n3, r3⟩ := nob.out x2 _ _ _ _ B0.out A2
      obtain ⟨q0, q1, q2, z0, z1, z2⟩ := rp_cells r3
      replace A3 := Lib.hid A3
      replace n3 := Lib.hid n3
      clear p0 p1 p2 p3 p4 p5 p6 p7 p8 p9 cF A2 r3 c2 qT nob
      go_wp2_with fail
      refine bodyPost_ret (v := rpV ⟨rerr, rgen, rdue⟩) ?_ rfl ?_
      · rw [results_cellA rfl]
        go_simp
      · exact ⟨rfl, x2, AftS.store A3.out (by omega) n3.out _ _ _⟩
    · have hR : applyN s o = (s, ⟨1, 0, 0⟩) := by unfold applyN; rw [if_neg hk, if_neg hk3]
      have e3 : (o.kind == 3) = false := by simpa using hk3
      rw [hR]
      clear hR cA cF fin
      replace hk := Lib.hid hk
      replace hk3 := Lib.hid hk3
      obtain ⟨okind, oclient, oreq, oid, ogen, oocc, odue, ostamp, oepoch, ocron⟩ := o
      simp only [opV, opC, opO, rpO] at *
      go_enter Tryz.func15, Tryz.ntmps15
      go_wp2_with fail
      refine (cR.out 1 _).mono ?_
      rintro e w2 ⟨rfl, k2⟩
      have B2 := B0.out.below k2
      obtain ⟨A3, n3, r3⟩ := nob.out x _ _ _ _ B2 (hS.out _ B2.bel)
      obtain ⟨q0, q1, q2, z0, z1, z2⟩ := rp_cells r3
      replace A3 := Lib.hid A3
      replace n3 := Lib.hid n3
      clear p0 p1 p2 p3 p4 p5 p6 p7 p8 p9 k2 B2 r3 c2 qT nob hS
      go_wp2_with fail
      refine bodyPost_ret (v := rpV ⟨1, 0, 0⟩) ?_ rfl ?_
      · rw [results_cellA rfl]
        go_simp
      · exact ⟨rfl, x, (AftS.store A3.out (by omega) n3.out _ _ _).more (Nat.le_succ _)⟩
end
end Go.Proofs.YtiidhcpflplpiaaGreatDoor
