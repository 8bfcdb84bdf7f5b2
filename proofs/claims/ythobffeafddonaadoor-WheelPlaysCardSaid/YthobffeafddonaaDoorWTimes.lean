/-
  Layer 6: the wheel's map of times, and the wheel as a whole.
-/
import Derived.Test.YthobffeafddonaaDoorWOn
import Derived.Maps.Own
import Derived.WalkSpells
set_option linter.unusedVariables false
namespace Go.Proofs.YthobffeafddonaaDoor
open Go.RowKit Whl Go.ChangeMaps

theorem keyed3 : Go.Maps.Keyed Tryd.prog 3 := Go.Maps.int_keyed Tryd.underlying3
theorem map50 : Tryd.prog.underlying 50 = some (.map 3 3) := Tryd.underlying50
theorem wf_int {a : Int} (h1 : -9223372036854775808 ≤ a) (h2 : a ≤ 9223372036854775807) : (Lit.int .i64 a).wf = true := by
  simp [Lit.wf]
  exact ⟨by show (-9223372036854775808 : Int) ≤ a; exact h1, h2⟩
theorem key_int {a : Int} (h1 : -9223372036854775808 ≤ a) (h2 : a ≤ 9223372036854775807) : keyOf Tryd.prog 3 (.int .i64 a) = some (.int .i64 a) := Go.Maps.keyOf_int_mk Tryd.underlying3 (wf_int h1 h2)
/-- The block mb is a map of these ids and times. -/
def IntMap (w : World) (mb : Nat) (t : List (Nat × Nat)) : Prop :=
  ∃ es clock, w.heap[mb]? = some (.map es clock) ∧ es.toList.map (fun e => (e.key, e.val)) = t.map fun p => (Value.int .i64 (p.1 : Int), Value.int .i64 (p.2 : Int))
theorem IntMap.kept {w w' : World} {mb : Nat} {t : List (Nat × Nat)} (h : IntMap w mb t) (k : w'.heap[mb]? = w.heap[mb]?) : IntMap w' mb t := by
  obtain ⟨es, clock, h1, h2⟩ := h
  exact ⟨es, clock, k.trans h1, h2⟩
theorem IntMap.lt {w : World} {mb : Nat} {t : List (Nat × Nat)} (h : IntMap w mb t) : mb < w.heap.size := by
  obtain ⟨es, clock, h1, h2⟩ := h
  exact (Array.getElem?_eq_some_iff.1 h1).1
theorem IntMap.made (w : World) : IntMap (w.alloc (.map #[] 0)) w.heap.size [] := ⟨#[], 0, (MapKept.heap_alloc w _).1, rfl⟩
theorem IntMap.len {w : World} {mb : Nat} {t : List (Nat × Nat)} (h : IntMap w mb t) (ty : TypeId) : (Builtin.len_ #[50] ty #[.map (some mb)]).run Tryd.prog w = .ok (.int .i64 t.length) w := by
  obtain ⟨es, clock, h1, h2⟩ := h
  have e : es.size = t.length := by
    have := congrArg List.length h2
    simpa using this
  simp [Builtin.len_, run_underlying map50, MapKept.run_getObj_map h1, goInt, Result.andThen, e]
theorem intmap_keys {t : List (Nat × Nat)} {es : Array MapEntry} (hl : ∀ p ∈ t, p.1 ≤ 1048576) (he : es.toList.map (fun e => (e.key, e.val)) = t.map fun p => (Value.int .i64 (p.1 : Int), Value.int .i64 (p.2 : Int))) :
    (∀ e ∈ es.toList, ∃ k, keyOf Tryd.prog 3 e.key = some k) ∧ ∀ e ∈ es.toList, ∃ p ∈ t, e.key = .int .i64 (p.1 : Int) ∧ e.val = .int .i64 (p.2 : Int) := by
  have h2 : ∀ e ∈ es.toList, ∃ p ∈ t, e.key = .int .i64 (p.1 : Int) ∧ e.val = .int .i64 (p.2 : Int) := fun e h => by
    have : (e.key, e.val) ∈ t.map fun p => (Value.int .i64 (p.1 : Int), Value.int .i64 (p.2 : Int)) := by
      rw [← he]
      exact List.mem_map.2 ⟨e, h, rfl⟩
    obtain ⟨p, hp, e1⟩ := List.mem_map.1 this
    injection e1 with a b
    exact ⟨p, hp, a.symm, b.symm⟩
  refine ⟨fun e h => ?_, h2⟩
  obtain ⟨p, hp, e1, _⟩ := h2 e h
  rw [e1]
  exact ⟨_, key_int (by omega) (by have := hl p hp; omega)⟩
/-- An id that isn't there. -/
theorem int_look_none {w : World} {mb : Nat} {t : List (Nat × Nat)} (hm : IntMap w mb t) (hl : ∀ p ∈ t, p.1 ≤ 1048576) (id : Int) (h1 : -9223372036854775808 ≤ id) (h2 : id ≤ 9223372036854775807) (hn : ∀ p ∈ t, (p.1 : Int) ≠ id) :
    (Instr.lookup 50 (.map (some mb)) (.int .i64 id) true).run Tryd.prog w = .ok (.tuple #[.int .i64 0, .bool false]) w := by
  obtain ⟨es, clock, hb, he⟩ := hm
  obtain ⟨k1, k2⟩ := intmap_keys hl he
  rcases keyed3.find w (key_int h1 h2) es.toList k1 with ⟨f1, f2⟩ | ⟨j, e0, f1, f2, f3⟩
  · simp [Instr.lookup, run_underlying map50, MapKept.run_getObj_map hb, keyed3.check w _ (key_int h1 h2), f1, Result.andThen, Tryd.zeroValue3]
  · obtain ⟨p, hp, e1, e2⟩ := k2 e0 (List.mem_of_getElem? f2)
    rw [f3] at e1
    injection e1 with _ e1
    exact absurd e1.symm (hn p hp)
theorem int_look_nil (w : World) (id : Int) (h1 : -9223372036854775808 ≤ id) (h2 : id ≤ 9223372036854775807) : (Instr.lookup 50 (.map none) (.int .i64 id) true).run Tryd.prog w = .ok (.tuple #[.int .i64 0, .bool false]) w := by
  rcases keyed3.find w (key_int h1 h2) [] (by simp) with ⟨f1, _⟩ | ⟨j, e0, _, f2, _⟩
  · simp [Instr.lookup, run_underlying map50, keyed3.check w _ (key_int h1 h2), f1, Result.andThen, Tryd.zeroValue3]
  · simp at f2
theorem int_insert {w : World} {mb : Nat} {t : List (Nat × Nat)} (hm : IntMap w mb t) (hl : ∀ p ∈ t, p.1 ≤ 1048576) (id v : Nat) (h2 : id ≤ 1048576) (hn : ∀ p ∈ t, p.1 ≠ id) :
    ∃ w', (Instr.mapUpdate 50 (.map (some mb)) (.int .i64 (id : Int)) (.int .i64 (v : Int))).run Tryd.prog w = .ok () w' ∧ IntMap w' mb (t ++ [(id, v)]) ∧ w.grownBy w' (some mb) ∧ w'.heap.size = w.heap.size := by
  obtain ⟨es, clock, hb, he⟩ := hm
  obtain ⟨k1, k2⟩ := intmap_keys hl he
  have hk := key_int (a := (id : Int)) (by omega) (by omega)
  rcases keyed3.find w hk es.toList k1 with ⟨f1, f2⟩ | ⟨j, e0, f1, f2, f3⟩
  · refine ⟨setBlock w mb (.map (es.push ⟨.int .i64 (id : Int), .int .i64 (v : Int), clock⟩) (clock + 1)), ?_, ⟨_, _, heap_setBlock_same hb _, ?_⟩, ⟨rfl, rfl, rfl, by simp [setBlock], fun k _ hk => heap_setBlock_other hb _ (fun e => hk (by rw [e]))⟩, by simp [setBlock]⟩
    · simp [Instr.mapUpdate, run_underlying map50, MapKept.run_getObj_map hb, keyed3.check w false hk, f1, MapKept.run_setObj_map _ hb, Result.andThen, setBlock]
    · simp [he]
  · obtain ⟨p, hp, e1, e2⟩ := k2 e0 (List.mem_of_getElem? f2)
    rw [f3] at e1
    injection e1 with _ e1
    exact absurd (by omega) (hn p hp)
theorem make50 (W : World) : (Instr.makeMap 50 none).run Tryd.prog W = .ok (.map (some W.heap.size)) (W.alloc (.map #[] 0)) := by
  simp [Instr.makeMap, Result.andThen, go_sem]

/-- The map's value, and what it holds. -/
def TM (base : Nat) (w : World) (m : Value) (t : List (Nat × Nat)) : Prop := (m = .map none ∧ t = []) ∨ ∃ mb, m = .map (some mb) ∧ base ≤ mb ∧ IntMap w mb t
/-- What the map holds is what the lists hold. -/
structure TOk (t : List (Nat × Nat)) (l : List ItemN) : Prop where
  perm : (t.map fun p => (p.2, p.1)).Perm l
  keys : t.Pairwise fun p q => p.1 ≠ q.1
  small : ∀ p ∈ t, p.1 ≤ 1048576
/-- A wheel as a whole: its time, the pairs that it holds, the blocks that are its own. -/
structure WT (base : Nat) (w : World) (b now : Nat) (l : List ItemN) (O : Nat → Prop) : Prop where
  ex : ∃ m V F L t, WhlS base w b now m V F L l ∧ TM base w m t ∧ TOk t l ∧ (∀ k, OwnL b V k → O k) ∧ (∀ mb, m = .map (some mb) → O mb)
  bru : Bru w
  low : ∀ k, O k → base ≤ k
  pos : 0 < base
  top : now ≤ 1099511627776

theorem OwnL.cells {base : Nat} {w : World} {b now : Nat} {m : Value} {V : Nat → Value} {F : Nat → Nat} {L : Nat → List ItemN} (h : Wh base w b now m V F L) {k : Nat} (hk : OwnL b V k) : ∃ cs t fr, w.heap[k]? = some (.cells cs t fr) := by
  rcases hk with rfl | ⟨c, hc, e⟩
  · have := h.now
    unfold World.cell? at this
    cases hq : w.heap[k]? with
    | none => simp [hq] at this
    | some o =>
      cases o with
      | cells cs t fr => exact ⟨cs, t, fr, rfl⟩
      | _ => simp [hq] at this
  · rcases (h.row c hc).2 with ⟨e1, _⟩ | ⟨g, cap, cur, e1, _, e3, _⟩
    · rw [e1] at e; simp [Value.ownBlock] at e
    · rw [e1] at e
      simp [Value.ownBlock] at e
      subst e
      exact ⟨_, _, _, e3⟩
theorem TM.kp {base : Nat} {w w' : World} {m : Value} {t : List (Nat × Nat)} {O : Nat → Prop} (h : TM base w m t) (k : Kp O w w') (ho : ∀ mb, m = .map (some mb) → ¬ O mb) : TM base w' m t := by
  rcases h with h | ⟨mb, e, hb, hm⟩
  · exact .inl h
  · exact .inr ⟨mb, e, hb, hm.kept (k.block mb hm.lt (ho mb e))⟩
theorem TM.apart {base : Nat} {w : World} {b now : Nat} {m : Value} {V : Nat → Value} {F : Nat → Nat} {L : Nat → List ItemN} {t : List (Nat × Nat)} (h : Wh base w b now m V F L) (ht : TM base w m t) : ∀ mb, m = .map (some mb) → ¬ OwnL b V mb := fun mb e hO => by
  obtain ⟨cs, ty, fr, hc⟩ := OwnL.cells h hO
  rcases ht with ⟨e1, _⟩ | ⟨mb2, e1, _, es, clock, h1, _⟩
  · rw [e] at e1; cases e1
  · rw [e] at e1
    injection e1 with e1
    injection e1 with e1
    subst e1
    rw [h1] at hc
    cases hc
/-- A wheel in a world in which none of its blocks turned. -/
theorem WT.kept {base : Nat} {w w' : World} {b now : Nat} {l : List ItemN} {O O2 : Nat → Prop} (h : WT base w b now l O) (k : Kp O2 w w') (ho : ∀ x, O2 x → ¬ O x ∧ 0 < x) : WT base w' b now l O := by
  obtain ⟨m, V, F, L, t, hw, ht, hk, o1, o2⟩ := h.ex
  refine ⟨⟨m, V, F, L, t, ⟨hw.wh.kept k.size (fun x hx => k.block x (hw.wh.own_low hx).2 (fun e => (ho x e).1 (o1 x hx))), hw.bits, hw.ok, hw.max, hw.len⟩, ht.kp k (fun mb e hO => (ho mb hO).1 (o2 mb e)), hk, o1, o2⟩, h.bru.kp k (fun x hx => (ho x hx).2), h.low, h.pos, h.top⟩
theorem WT.below {base : Nat} {w w' : World} {b now : Nat} {l : List ItemN} {O : Nat → Prop} (h : WT base w b now l O) (k : Below w.heap.size w w') : WT base w' b now l O :=
  h.kept (O2 := fun _ => False) (Kp.ofBelow k) (fun x hx => hx.elim)
/-- A wheel behind a call. -/
structure After (base : Nat) (w : World) (O : Nat → Prop) (w' : World) (b now : Nat) (l : List ItemN) (O' : Nat → Prop) : Prop where
  wt : WT base w' b now l O'
  kp : Kp O w w'
  own : ∀ k, O' k → O k ∨ w.heap.size ≤ k
end Go.Proofs.YthobffeafddonaaDoor
