/-
  A map of names (layer 4): what is put in, and what is found.
-/
import Derived.Test.YtiidhcpflplpiaaGreatDoorCPlain
import Derived.Test.YtiidhcpflplpiaaGreatDoorNum
import Derived.Test.YtiidhcpflplpiaaGreatDoorShelf
import Derived.Maps.Own
import Derived.StringKeys
set_option linter.unusedVariables false
namespace Go.Proofs.YtiidhcpflplpiaaGreatDoor
open Go.RowKit Crn Go.ChangeMaps

/-- The block b is a map of these names, each with its number. -/
def NameMap (w : World) (b : Nat) (l : List (ByteArray × Nat)) : Prop :=
  ∃ es clock, w.heap[b]? = some (.map es clock) ∧ es.toList.map (fun e => (e.key, e.val)) = l.map fun p => (Value.string p.1, Value.int .i64 (p.2 : Nat))

theorem keyed9 : Go.Maps.Keyed Tryz.prog 9 := Go.Maps.string_keyed Tryz.underlying9
theorem key_of (s : ByteArray) (h : s.size ≤ 1000) : keyOf Tryz.prog 9 (.string s) = some (.string s.data.toList) :=
  Go.WideMaps.keyOf_string_mk Tryz.underlying9 (by unfold maxLen; omega)

def look (s : ByteArray) : List (ByteArray × Nat) → Option Nat
  | [] => none
  | p :: r => if p.1 = s then some p.2 else look s r
theorem look_none {s : ByteArray} {l : List (ByteArray × Nat)} (h : ∀ p ∈ l, p.1 ≠ s) : look s l = none := by
  induction l with
  | nil => rfl
  | cons p r ih =>
    unfold look
    rw [if_neg (h p (by simp)), ih (fun q hq => h q (by simp [hq]))]
theorem look_some {s : ByteArray} {v : Nat} {l : List (ByteArray × Nat)} (hd : l.Pairwise (fun p q => p.1 ≠ q.1)) (h : (s, v) ∈ l) : look s l = some v := by
  induction l with
  | nil => cases h
  | cons p r ih =>
    unfold look
    rw [List.pairwise_cons] at hd
    rcases List.mem_cons.1 h with rfl | h
    · rw [if_pos rfl]
    · rw [if_neg (hd.1 _ h), ih hd.2 h]

def lookAns (r : Option Nat) : Value := .tuple #[.int .i64 ((r.getD 0 : Nat) : Int), .bool r.isSome]

theorem map66 : Tryz.prog.underlying 180 = some (.map 9 3) := Tryz.underlying180


theorem keys_ok {l : List (ByteArray × Nat)} {es : Array MapEntry} (hl : ∀ p ∈ l, p.1.size ≤ 1000) (he : es.toList.map (fun e => (e.key, e.val)) = l.map fun p => (Value.string p.1, Value.int .i64 (p.2 : Nat))) :
    (∀ e ∈ es.toList, ∃ k, keyOf Tryz.prog 9 e.key = some k) ∧ ∀ e ∈ es.toList, ∃ p ∈ l, e.key = .string p.1 ∧ e.val = .int .i64 (p.2 : Nat) := by
  have h2 : ∀ e ∈ es.toList, ∃ p ∈ l, e.key = .string p.1 ∧ e.val = .int .i64 (p.2 : Nat) := fun e h => by
    have : (e.key, e.val) ∈ l.map fun p => (Value.string p.1, Value.int .i64 (p.2 : Nat)) := by
      rw [← he]
      exact List.mem_map.2 ⟨e, h, rfl⟩
    obtain ⟨p, hp, e1⟩ := List.mem_map.1 this
    injection e1 with a b
    exact ⟨p, hp, a.symm, b.symm⟩
  refine ⟨fun e h => ?_, h2⟩
  obtain ⟨p, hp, e1, _⟩ := h2 e h
  rw [e1]
  exact ⟨_, key_of p.1 (hl p hp)⟩

theorem lookup_run {w : World} {b : Nat} {l : List (ByteArray × Nat)} (hm : NameMap w b l) (hl : ∀ p ∈ l, p.1.size ≤ 1000) (hd : l.Pairwise (fun p q => p.1 ≠ q.1)) (s : ByteArray) (hs : s.size ≤ 1000) :
    (Instr.lookup 180 (.map (some b)) (.string s) true).run Tryz.prog w = .ok (lookAns (look s l)) w := by
  obtain ⟨es, clock, hb, he⟩ := hm
  obtain ⟨k1, k2⟩ := keys_ok hl he
  rcases keyed9.find w (key_of s hs) es.toList k1 with ⟨h1, h2⟩ | ⟨j, e0, h1, h2, h3⟩
  · have hn : look s l = none := look_none fun p hp e => by
      have : (Value.string p.1, Value.int .i64 (p.2 : Nat)) ∈ es.toList.map (fun e => (e.key, e.val)) := by
        rw [he]
        exact List.mem_map.2 ⟨p, hp, rfl⟩
      obtain ⟨x, hx, ex⟩ := List.mem_map.1 this
      injection ex with a _
      exact h2 x hx (by rw [a, e])
    rw [hn]
    simp [Instr.lookup, run_underlying map66, MapKept.run_getObj_map hb, keyed9.check w _ (key_of s hs), h1, Result.andThen, lookAns]
  · obtain ⟨p, hp, e1, e2⟩ := k2 e0 (List.mem_of_getElem? h2)
    have hn : look s l = some p.2 := look_some hd (by
      rw [h3] at e1
      injection e1 with e1
      subst e1
      exact hp)
    rw [hn]
    simp [Instr.lookup, run_underlying map66, MapKept.run_getObj_map hb, keyed9.check w _ (key_of s hs), h1, Result.andThen, lookAns, e2]

theorem lookup_nil (w : World) (s : ByteArray) (hs : s.size ≤ 1000) :
    (Instr.lookup 180 (.map none) (.string s) true).run Tryz.prog w = .ok (lookAns none) w := by
  rcases keyed9.find w (key_of s hs) [] (fun e h => by cases h) with ⟨h1, _⟩ | ⟨j, e0, h1, h2, h3⟩
  · simp [Instr.lookup, run_underlying map66, keyed9.check w _ (key_of s hs), h1, Result.andThen, lookAns]
  · simp at h2

theorem NameMap.made (w : World) : NameMap (w.alloc (.map #[] 0)) w.heap.size [] := ⟨#[], 0, (MapKept.heap_alloc w _).1, rfl⟩

theorem insert_run {w : World} {b : Nat} {l : List (ByteArray × Nat)} (hm : NameMap w b l) (hl : ∀ p ∈ l, p.1.size ≤ 1000) (s : ByteArray) (hs : s.size ≤ 1000) (hn : ∀ p ∈ l, p.1 ≠ s) (v : Nat) {z : Int} (hz : z = (v : Nat)) :
    ∃ w', (Instr.mapUpdate 180 (.map (some b)) (.string s) (.int .i64 z)).run Tryz.prog w = .ok () w' ∧ NameMap w' b (l ++ [(s, v)]) ∧ Below b w w' ∧ w'.heap.size = w.heap.size := by
  subst hz
  obtain ⟨es, clock, hb, he⟩ := hm
  obtain ⟨k1, k2⟩ := keys_ok hl he
  rcases keyed9.find w (key_of s hs) es.toList k1 with ⟨h1, h2⟩ | ⟨j, e0, h1, h2, h3⟩
  · refine ⟨setBlock w b (.map (es.push ⟨.string s, .int .i64 (v : Nat), clock⟩) (clock + 1)), ?_, ⟨_, _, heap_setBlock_same hb _, ?_⟩, ⟨rfl, rfl, rfl, by simp [setBlock], fun k hk => heap_setBlock_other hb _ (by omega)⟩, by simp [setBlock]⟩
    · simp [Instr.mapUpdate, run_underlying map66, MapKept.run_getObj_map hb, keyed9.check w false (key_of s hs), h1, MapKept.run_setObj_map _ hb, Result.andThen, setBlock]
    · simp [he]
  · obtain ⟨p, hp, e1, e2⟩ := k2 e0 (List.mem_of_getElem? h2)
    rw [h3] at e1
    injection e1 with e1
    exact absurd e1.symm (hn p hp)

theorem NameMap.below {w w' : World} {b B : Nat} {l : List (ByteArray × Nat)} (h : NameMap w b l) (hb : Below B w w') (hB : b < B) : NameMap w' b l := by
  obtain ⟨es, clock, h1, h2⟩ := h
  exact ⟨es, clock, (hb.block b hB).trans h1, h2⟩
theorem NameMap.lt {w : World} {b : Nat} {l : List (ByteArray × Nat)} (h : NameMap w b l) : b < w.heap.size := by
  obtain ⟨es, clock, h1, _⟩ := h
  exact (Array.getElem?_eq_some_iff.1 h1).1

/-! The names of a field. -/
def nameRow : Nat → List Bytes → List (ByteArray × Nat)
  | _, [] => []
  | k, n :: r => (bs n, k) :: nameRow (k + 1) r
theorem bs_inj {a b : Bytes} (h : bs a = bs b) : a = b := by
  have := congrArg (fun x : ByteArray => x.data.toList) h
  exact this
theorem look_find (s : Bytes) (lo k : Nat) (l : List Bytes) : look (bs s) (nameRow (lo + k) l) = (find s k l).map (lo + ·) := by
  induction l generalizing k with
  | nil => rfl
  | cons n r ih =>
    unfold nameRow look find
    by_cases h : s = n
    · rw [if_pos (by rw [h]), if_pos h]; rfl
    · rw [if_neg (fun e => h (bs_inj e).symm), if_neg h, show lo + k + 1 = lo + (k + 1) by omega, ih]
theorem row_size (k : Nat) (l : List Bytes) (h : ∀ n ∈ l, n.length ≤ 1000) : ∀ p ∈ nameRow k l, p.1.size ≤ 1000 := by
  induction l generalizing k with
  | nil => intro p hp; cases hp
  | cons n r ih =>
    intro p hp
    rcases List.mem_cons.1 hp with rfl | hp
    · rw [bs_size]; exact h n (by simp)
    · exact ih (k + 1) (fun m hm => h m (by simp [hm])) p hp
theorem row_mem (k : Nat) (l : List Bytes) : ∀ p ∈ nameRow k l, ∃ n ∈ l, p.1 = bs n := by
  induction l generalizing k with
  | nil => intro p hp; cases hp
  | cons n r ih =>
    intro p hp
    rcases List.mem_cons.1 hp with rfl | hp
    · exact ⟨n, by simp, rfl⟩
    · obtain ⟨m, hm, e⟩ := ih (k + 1) p hp
      exact ⟨m, by simp [hm], e⟩
theorem row_apart (k : Nat) (l : List Bytes) (h : l.Pairwise (· ≠ ·)) : (nameRow k l).Pairwise (fun p q => p.1 ≠ q.1) := by
  induction l generalizing k with
  | nil => exact List.Pairwise.nil
  | cons n r ih =>
    rw [List.pairwise_cons] at h
    refine List.pairwise_cons.2 ⟨fun p hp e => ?_, ih (k + 1) h.2⟩
    obtain ⟨m, hm, e2⟩ := row_mem (k + 1) r p hp
    exact h.1 m hm (bs_inj (e.trans e2))
theorem names_short : ∀ f, f < 5 → (∀ n ∈ names f, n.length ≤ 1000) ∧ (names f).Pairwise (· ≠ ·) := by decide +kernel

/-- The names of the field f, as the program has them. -/
def NamesAt (w : World) (m : Value) (f : Nat) : Prop :=
  (names f = [] ∧ m = .map none) ∨ ∃ b, m = .map (some b) ∧ NameMap w b (nameRow (low f) (names f))

theorem NamesAt.run {w : World} {m : Value} {f : Nat} (h : NamesAt w m f) (hf : f < 5) (s : Bytes) (hs : s.length ≤ 1000) :
    (Instr.lookup 180 m (.string (bs s)) true).run Tryz.prog w = .ok (lookAns ((find s 0 (names f)).map (low f + ·))) w := by
  have hz : (bs s).size ≤ 1000 := by rw [bs_size]; exact hs
  rcases h with ⟨h1, rfl⟩ | ⟨b, rfl, h⟩
  · rw [h1, lookup_nil w (bs s) hz]
    rfl
  · rw [lookup_run h (row_size _ _ (names_short f hf).1) (row_apart _ _ (names_short f hf).2) (bs s) hz, ← look_find]
    rfl
theorem NamesAt.below {w w' : World} {m : Value} {f B : Nat} (h : NamesAt w m f) (hb : Below B w w') (hB : w.heap.size ≤ B) : NamesAt w' m f := by
  rcases h with h | ⟨b, e, h⟩
  · exact Or.inl h
  · exact Or.inr ⟨b, e, h.below hb (Nat.lt_of_lt_of_le h.lt hB)⟩
end Go.Proofs.YtiidhcpflplpiaaGreatDoor
