/-
  Layer 11: seats and chains in memory; members and seats by '=='.
-/
import Derived.Test.YtnagidgffkffhaaProg
import Derived.Test.YtnagidgffkffhaaGMath
import Derived.Laws.StructEq
import Derived.Laws.Rows
import Derived.Laws.ResultCell
import Derived.WalkKit
import Derived.WalkMore
import Derived.WalkSpells
import Derived.BigQuiet
import Derived.OwnWalk
import Derived.Lib.Hide
set_option linter.unusedVariables false
set_option linter.unusedSimpArgs false
namespace Go.Proofs.Ytnagidgffkffhaa.G
open Go.RowKit Cfg
set_option maxRecDepth 100000

abbrev mbV (m : MbN) : Value := .agg #[.int .i64 m.node, .int .i64 m.life]
abbrev stC (s : StN) : Array Value := #[.int .i64 s.m.node, .int .i64 s.m.life, .bool s.syn]
abbrev stV (s : StN) : Value := .agg (stC s)
/-- Seats, as they lie one behind the other. -/
def Chn (w : World) (p : Option Addr) (l : List StN) : Prop := ∀ i (hi : i < l.length), ∃ b off, p = some ⟨b, off, none⟩ ∧ w.cell? ⟨b, off + i * 3, none⟩ = some (.int .i64 l[i].m.node) ∧ w.cell? ⟨b, off + i * 3 + 1, none⟩ = some (.int .i64 l[i].m.life) ∧ w.cell? ⟨b, off + i * 3 + 2, none⟩ = some (.bool l[i].syn)
theorem Chn.below {w w' : World} {p : Option Addr} {l : List StN} (h : Chn w p l) (k : Below w.heap.size w w') : Chn w' p l := fun i hi => by
  obtain ⟨b, off, e, c0, c1, c2⟩ := h i hi
  exact ⟨b, off, e, (k.cell (p := ⟨b, _, none⟩) (World.block_lt_of_cell? w _ c0)).trans c0, (k.cell (p := ⟨b, _, none⟩) (World.block_lt_of_cell? w _ c1)).trans c1, (k.cell (p := ⟨b, _, none⟩) (World.block_lt_of_cell? w _ c2)).trans c2⟩
theorem Chn.nil (w : World) (p : Option Addr) : Chn w p [] := fun i hi => by simp at hi
theorem Chn.drop {w : World} {b off : Nat} {l : List StN} (h : Chn w (some ⟨b, off, none⟩) l) (k : Nat) : Chn w (some ⟨b, off + k * 3, none⟩) (l.drop k) := fun i hi => by
  rw [List.length_drop] at hi
  obtain ⟨b', off', e, c0, c1, c2⟩ := h (k + i) (by omega)
  injection e with e; injection e with e1 e2; subst e1 e2
  rw [List.getElem_drop]
  exact ⟨b, _, rfl, by rw [show off + k * 3 + i * 3 = off + (k + i) * 3 by omega]; exact c0, by rw [show off + k * 3 + i * 3 = off + (k + i) * 3 by omega]; exact c1, by rw [show off + k * 3 + i * 3 = off + (k + i) * 3 by omega]; exact c2⟩
theorem Chn.take {w : World} {p : Option Addr} {l : List StN} (h : Chn w p l) (k : Nat) : Chn w p (l.take k) := fun i hi => by
  rw [List.length_take] at hi
  obtain ⟨b, off, e, c0, c1, c2⟩ := h i (by omega)
  rw [List.getElem_take]
  exact ⟨b, off, e, c0, c1, c2⟩
/-- Members, likewise. -/
def Mbs (w : World) (p : Option Addr) (l : List MbN) : Prop := ∀ i (hi : i < l.length), ∃ b off, p = some ⟨b, off, none⟩ ∧ w.cell? ⟨b, off + i * 2, none⟩ = some (.int .i64 l[i].node) ∧ w.cell? ⟨b, off + i * 2 + 1, none⟩ = some (.int .i64 l[i].life)
theorem Mbs.below {w w' : World} {p : Option Addr} {l : List MbN} (h : Mbs w p l) (k : Below w.heap.size w w') : Mbs w' p l := fun i hi => by
  obtain ⟨b, off, e, c0, c1⟩ := h i hi
  exact ⟨b, off, e, (k.cell (p := ⟨b, _, none⟩) (World.block_lt_of_cell? w _ c0)).trans c0, (k.cell (p := ⟨b, _, none⟩) (World.block_lt_of_cell? w _ c1)).trans c1⟩

/-- A whole block of one's own. -/
def Blk (w : World) (b : Nat) (cs : Array Value) (T : TypeId) : Prop := w.heap[b]? = some (.cells cs T (0, 0))
theorem Blk.new (w : World) (cs : Array Value) (T : TypeId) : Blk (w.alloc (.cells cs T)) w.heap.size cs T := heap_alloc_new w _
theorem Blk.lt {w : World} {b : Nat} {cs : Array Value} {T : TypeId} (h : Blk w b cs T) : b < w.heap.size := (Array.getElem?_eq_some_iff.1 h).1
theorem Blk.below {w w' : World} {b : Nat} {cs : Array Value} {T : TypeId} (h : Blk w b cs T) (k : Below w.heap.size w w') : Blk w' b cs T := (k.block b h.lt).trans h
theorem Blk.cell {w : World} {b : Nat} {cs : Array Value} {T : TypeId} (h : Blk w b cs T) (i : Nat) : w.cell? ⟨b, i, none⟩ = cs[i]? := cell_of_row w b i cs T (0, 0) h
theorem Blk.fz {w : World} {b : Nat} {cs : Array Value} {T : TypeId} (h : Blk w b cs T) (i : Nat) : w.frozen? ⟨b, i, none⟩ = false := frozen_of_row w b i cs T h

/-! ### '==' -/
set_option maxHeartbeats 2000000 in
theorem mb_eq (a b : MbN) (W : World) : (Op.equalIn 10000 26 (mbV a) (mbV b)).run Try.prog W = .ok (decide (a = b)) W := by
  obtain ⟨a0, a1⟩ := a
  obtain ⟨b0, b1⟩ := b
  rw [show (10000 : Nat) = 9999 + 1 from rfl, run_equalIn_agg W 9999 26 _ _ (by kernel_rfl) (by kernel_rfl)]
  by_cases h0 : a0 = b0
  · subst h0
    by_cases h1 : a1 = b1
    · subst h1
      simp [go_sem, Op.eqFields, part, Try.underlying3]
    · simp [go_sem, Op.eqFields, part, Try.underlying3, h1]
  · simp [go_sem, Op.eqFields, part, Try.underlying3, h0]
set_option maxHeartbeats 2000000 in
theorem st_eq (a b : StN) (W : World) : (Op.equalIn 10000 70 (stV a) (stV b)).run Try.prog W = .ok (decide (a = b)) W := by
  obtain ⟨⟨a0, a1⟩, a2⟩ := a
  obtain ⟨⟨b0, b1⟩, b2⟩ := b
  rw [show (10000 : Nat) = 9998 + 1 + 1 from rfl, run_equalIn_agg W (9998 + 1) 70 _ _ (by kernel_rfl) (by kernel_rfl)]
  by_cases h0 : a0 = b0
  · subst h0
    by_cases h1 : a1 = b1
    · subst h1
      by_cases h2 : a2 = b2
      · subst h2
        simp [go_sem, Op.eqFields, part, Try.underlying3, Try.underlying4, Try.underlying26]
      · simp [go_sem, Op.eqFields, part, Try.underlying3, Try.underlying4, Try.underlying26, h2]
    · simp [go_sem, Op.eqFields, part, Try.underlying3, Try.underlying4, Try.underlying26, h1]
  · simp [go_sem, Op.eqFields, part, Try.underlying3, Try.underlying4, Try.underlying26, h0]
end Go.Proofs.Ytnagidgffkffhaa.G
