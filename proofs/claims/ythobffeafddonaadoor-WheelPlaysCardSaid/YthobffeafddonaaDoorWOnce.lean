/-
  Layer 6: a wheel, and beside it a map of what hasn't come due yet.
-/
import Derived.Test.YthobffeafddonaaDoorWLeft
set_option linter.unusedVariables false
namespace Go.Proofs.YthobffeafddonaaDoor
open Go.RowKit Whl Go.ChangeMaps

structure Lw (base : Nat) (w : World) (b lb now : Nat) (l r : List ItemN) (O : Nat → Prop) : Prop where
  wt : WT base w b now l O
  lt : ∀ k, O k → k < w.heap.size
  map : ∃ tl, IntMap w lb tl ∧ TOk tl r
  no : ¬ O lb
  low : base ≤ lb
theorem Lw.mlt {base : Nat} {w : World} {b lb now : Nat} {l r : List ItemN} {O : Nat → Prop} (h : Lw base w b lb now l r O) : lb < w.heap.size := by
  obtain ⟨tl, m, _⟩ := h.map
  exact m.lt
theorem Lw.set {base : Nat} {w w' : World} {b lb now n : Nat} {l r l2 : List ItemN} {O O' : Nat → Prop} (h : Lw base w b lb now l r O) (a : After base w O w' b n l2 O') : ∃ O2, Lw base w' b lb n l2 r O2 ∧ ∀ k, O2 k → O' k := by
  obtain ⟨O2, h2, h3⟩ := a.wt.tight
  obtain ⟨tl, m, t⟩ := h.map
  refine ⟨O2, ⟨h2, fun k hk => (h3 k hk).2, ⟨tl, m.kept (a.kp.block lb m.lt h.no), t⟩, fun hk => ?_, h.low⟩, fun k hk => (h3 k hk).1⟩
  rcases a.own lb (h3 lb hk).1 with e | e
  · exact h.no e
  · have := m.lt; omega
theorem Lw.kept {base : Nat} {w w' : World} {b lb now : Nat} {l r : List ItemN} {O O2 : Nat → Prop} (h : Lw base w b lb now l r O) (k : Kp O2 w w') (ho : ∀ x, O2 x → ¬ O x ∧ 0 < x ∧ x ≠ lb) : Lw base w' b lb now l r O := by
  obtain ⟨tl, m, t⟩ := h.map
  exact ⟨h.wt.kept k (fun x hx => ⟨(ho x hx).1, (ho x hx).2.1⟩), fun x hx => Nat.lt_of_lt_of_le (h.lt x hx) k.size, ⟨tl, m.kept (k.block lb m.lt (fun e => (ho lb e).2.2 rfl)), t⟩, h.no, h.low⟩
theorem Lw.below {base : Nat} {w w' : World} {b lb now : Nat} {l r : List ItemN} {O : Nat → Prop} (h : Lw base w b lb now l r O) (k : Below w.heap.size w w') : Lw base w' b lb now l r O :=
  h.kept (O2 := fun _ => False) (Kp.ofBelow k) (fun x hx => hx.elim)
theorem kp_grown {w w' : World} {x : Nat} (g : w.grownBy w' (some x)) : Kp (fun k => k = x) w w' := ⟨g.os, g.tape, g.output, g.size, fun k hk hn => g.block k hk (fun e => by injection e with e; exact hn (by show k = x; omega))⟩
theorem Lw.put {base : Nat} {w : World} {b lb now : Nat} {l r : List ItemN} {O : Nat → Prop} (h : Lw base w b lb now l r O) (id a : Nat) (hid : id ≤ 1048576) (hn : ∀ p, p ∈ r → p.2 ≠ id) :
    ∃ w', (Instr.mapUpdate 50 (.map (some lb)) (.int .i64 (id : Int)) (.int .i64 (a : Int))).run Tryd.prog w = .ok () w' ∧ Lw base w' b lb now l (ins (a, id) r) O ∧ Below base w w' := by
  obtain ⟨tl, m, t⟩ := h.map
  obtain ⟨w', h1, h2, h3, h4⟩ := int_insert m t.small id a hid (t.not hn)
  have kp := kp_grown h3
  exact ⟨w', h1, ⟨h.wt.kept kp (fun x hx => ⟨fun hO => h.no (hx ▸ hO), Nat.lt_of_lt_of_le h.wt.pos (hx ▸ h.low)⟩), fun x hx => by have := h.lt x hx; omega, ⟨_, h2, t.add hn hid⟩, h.no, h.low⟩, kp.below (B := base) (fun x hx => hx ▸ h.low) (Nat.le_trans h.low (Nat.le_of_lt m.lt))⟩
theorem Lw.del {base : Nat} {w : World} {b lb now : Nat} {l r : List ItemN} {O : Nat → Prop} {p : ItemN} (h : Lw base w b lb now l (p :: r) O) :
    (Instr.lookup 50 (.map (some lb)) (.int .i64 (p.2 : Int)) false).run Tryd.prog w = .ok (.int .i64 (p.1 : Int)) w ∧
    ∃ w', (∀ ty, (Builtin.delete_ #[50, 3] ty #[.map (some lb), .int .i64 (p.2 : Int)]).run Tryd.prog w = .ok (.tuple #[]) w') ∧ Lw base w' b lb now l r O ∧ Kp (fun k => k = lb) w w' := by
  obtain ⟨tl, m, t⟩ := h.map
  obtain ⟨t1, t2⟩ := t.gone
  obtain ⟨w', h1, h2, h3, h4⟩ := int_delete m t.small t.keys t1
  have kp := kp_grown h3
  exact ⟨int_look_some m t.small t.keys t1, w', h1, ⟨h.wt.kept kp (fun x hx => ⟨fun hO => h.no (hx ▸ hO), Nat.lt_of_lt_of_le h.wt.pos (hx ▸ h.low)⟩), fun x hx => by have := h.lt x hx; omega, ⟨_, h2, t2⟩, h.no, h.low⟩, kp⟩
theorem Lw.none {base : Nat} {w : World} {b lb now : Nat} {l r : List ItemN} {O : Nat → Prop} (h : Lw base w b lb now l r O) (hr : r = []) (ty : TypeId) : (Builtin.len_ #[50] ty #[.map (some lb)]).run Tryd.prog w = .ok (.int .i64 0) w := by
  obtain ⟨tl, m, t⟩ := h.map
  have := m.len ty
  rw [t.len, hr] at this
  exact this
/-- The last one before place j. -/
def lastTo (q : List ItemN) : Nat → ItemN
  | 0 => (0, 0)
  | j + 1 => q.getD j (0, 0)
theorem lastTo_lt {q : List ItemN} (h : Up q) {a j : Nat} (hj : j < q.length) (ha : a < q[j].1) : (lastTo q j).1 ≤ q[j].1 ∧ ((lastTo q j).1 = q[j].1 → (lastTo q j).2 < q[j].2) := by
  cases j with
  | zero => exact ⟨Nat.zero_le _, fun e => by have e2 : 0 = q[0].1 := e; omega⟩
  | succ j =>
    have e : lastTo q (j + 1) = q[j] := by
      show q.getD j (0, 0) = _
      rw [List.getD_eq_getElem?_getD, List.getElem?_eq_getElem (by omega)]; rfl
    have h2 := List.pairwise_iff_getElem.1 h j (j + 1) (by omega) hj (by omega)
    rw [ltB_iff] at h2
    rw [e]
    omega
theorem lastTo_succ {q : List ItemN} {j : Nat} (hj : j < q.length) : lastTo q (j + 1) = q[j] := by
  show q.getD j (0, 0) = _
  rw [List.getD_eq_getElem?_getD, List.getElem?_eq_getElem hj]; rfl
theorem comeBy_at {l : List ItemN} {a n j : Nat} (hj : j < (comeBy l a n).length) : a < (comeBy l a n)[j].1 ∧ (comeBy l a n)[j].1 ≤ n := by
  have := (List.mem_filter.1 (List.getElem_mem hj)).2
  simpa using this
theorem comeBy_up {l : List ItemN} (h : Up l) (a n : Nat) : Up (comeBy l a n) := h.filter _
end Go.Proofs.YthobffeafddonaaDoor
