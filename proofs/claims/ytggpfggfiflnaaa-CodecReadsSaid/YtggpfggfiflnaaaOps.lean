/-
  A slice of what is read next that came in: what the walks of CodecReads and CodecFails are told of it.
-/
import Derived.Test.YtggpfggfiflnaaaAwake
import Derived.ProofKit
import Derived.Deep.SlicePairs
namespace Go.Proofs.Ytggpfggfiflnaaa
open Go.ChangeShapes Go.WideShapes Go.ChangeAt Go.RowKit Cod

/-- A slice of pairs of numbers that came in: it is empty, or its cells hold them. -/
def IsOps (w : World) (a : Option Addr) (len : Nat) (K M : Nat → Int) : Prop :=
  len = 0 ∨ ∃ b off, a = some ⟨b, off, none⟩ ∧ b < w.heap.size ∧ len ≤ maxLen ∧ ∀ i, i < len → w.cell? ⟨b, off + i * 2, none⟩ = some (.int .i64 (K i)) ∧ w.cell? ⟨b, off + i * 2 + 1, none⟩ = some (.int .i64 (M i)) ∧
    (-9223372036854775808 ≤ K i ∧ K i ≤ 9223372036854775807) ∧ (-9223372036854775808 ≤ M i ∧ M i ≤ 9223372036854775807)

theorem add_plain (b off i : Nat) : (⟨b, off, none⟩ : Addr).add i = ⟨b, off + i, none⟩ := by unfold Addr.add; split <;> simp_all

theorem wf_i64 {x : Int} (h : (Lit.int .i64 x).wf = true) : -9223372036854775808 ≤ x ∧ x ≤ 9223372036854775807 := by
  simpa [Lit.wf, IntKind.min, IntKind.max, IntKind.signed, IntKind.bits] using h

theorem isOps_of {H : Type} {enc : TypeId × Value → H} {W : World} {fuel : Nat} {a : Option Addr} {len cap : Nat} {x : DataW H × List MemPlace}
    (h : DataW.trod enc Try.prog W 0 (fun _ => true) true fuel 28 (Value.cells (.slice a len cap)).toList = some x) : ∃ K M, IsOps W a len K M := by
  rcases Go.Deep.open_slice_pairs Try.underlying28 (Try.underlying35.trans rfl) (by kernel_rfl) rfl rfl (by kernel_rfl) (by kernel_rfl) h with ⟨hcs, _⟩ | ⟨y, l, c, m, n, V0, V1, D0, D1, P0, P1, hcs, _, hl, hm, hmm, _, hcell⟩
  · simp [Value.cells] at hcs
    exact ⟨fun _ => 0, fun _ => 0, Or.inl hcs.2.1⟩
  · simp [Value.cells] at hcs
    obtain ⟨rfl, rfl, rfl⟩ := hcs
    by_cases h0 : len = 0
    · exact ⟨fun _ => 0, fun _ => 0, Or.inl h0⟩
    · have hmm : m = cap := by simpa using hmm
      subst hmm
      obtain ⟨b, off, spot⟩ := y
      have hspot : spot = none := by simpa [Addr.add] using World.cell?_spot (hcell 0 (by omega)).1
      subst hspot
      have hadd := add_plain b off
      have hv : ∀ i, i < len → ∃ k m, V0 i = .int .i64 k ∧ V1 i = .int .i64 m ∧ (-9223372036854775808 ≤ k ∧ k ≤ 9223372036854775807) ∧ (-9223372036854775808 ≤ m ∧ m ≤ 9223372036854775807) := fun i hi => by
        obtain ⟨_, _, t0, t1⟩ := hcell i (by omega)
        obtain ⟨k, e0, _, w0⟩ := DataW.trod_int Try.underlying3 t0
        obtain ⟨m, e1, _, w1⟩ := DataW.trod_int Try.underlying3 t1
        exact ⟨k, m, by simpa using e0, by simpa using e1, wf_i64 w0, wf_i64 w1⟩
      refine ⟨fun i => intOf (V0 i), fun i => intOf (V1 i), Or.inr ⟨b, off, rfl, ?_, by omega, fun i hi => ?_⟩⟩
      · have := (hcell 0 (by omega)).1
        rw [hadd] at this
        exact World.block_lt_of_cell? _ _ this
      · obtain ⟨k, m, e0, e1, b0, b1⟩ := hv i hi
        obtain ⟨c0, c1, _, _⟩ := hcell i (by omega)
        rw [hadd, e0] at c0
        rw [hadd, e1] at c1
        simp only [e0, e1]
        exact ⟨c0, c1, b0, b1⟩

/-- A reader beside a variable that holds what is read next. -/
structure On (w : World) (p : Nat) (st : St) (q : Nat) (kk mm : Int) (W : World) : Prop where
  rd : Rd W p st
  bel : Below w.heap.size w W
  ne : q ≠ p
  lt : q < W.heap.size
  c0 : W.cell? ⟨q, 0, none⟩ = some (.int .i64 kk)
  c1 : W.cell? ⟨q, 1, none⟩ = some (.int .i64 mm)

theorem On.start {w wr : World} {p : Nat} {st : St} (kk mm : Int) (t : Rd wr p st) (b : Below w.heap.size w wr) : On w p st wr.heap.size kk mm (wr.alloc (.cells #[.int .i64 kk, .int .i64 mm] 35)) :=
  ⟨t.below ((Below.refl _ _).alloc (Nat.le_refl _) _), b.alloc b.size _, by have := t.lt; omega, by simp, by simp, by simp⟩
theorem On.step {w W W' : World} {p : Nat} {st st' : St} {q : Nat} {kk mm : Int} (o : On w p st q kk mm W) (hp : w.heap.size ≤ p) (t : Rd W' p st') (k : Kept p W W') : On w p st' q kk mm W' :=
  ⟨t, o.bel.trans (k.below hp o.bel.size), o.ne, Nat.lt_of_lt_of_le o.lt k.size, (World.cell?_of_block (k.block q o.lt o.ne)).trans o.c0, (World.cell?_of_block (k.block q o.lt o.ne)).trans o.c1⟩
end Go.Proofs.Ytggpfggfiflnaaa
