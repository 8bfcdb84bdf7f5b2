/-
  A slice of texts that came in, and the builtin min: what the walks of CrcSums and CrcOnce are told of them.
-/
import Derived.Test.YtddnlfelggbkcaaAwake
import Derived.ProofKit
import Derived.SliceStrings
namespace Go.Proofs.Ytddnlfelggbkcaa
open Go.ChangeShapes Go.WideShapes Go.ChangeAt Go.RowKit Crc

/-- A slice of texts that came in: it is empty, or its cells hold texts. -/
def IsList (w : World) (a : Option Addr) (len : Nat) (ss : List ByteArray) : Prop :=
  len = 0 ∨ ∃ b off, a = some ⟨b, off, none⟩ ∧ b < w.heap.size ∧ len ≤ maxLen ∧ ∀ i, i < len → w.cell? ⟨b, off + i, none⟩ = some (.string (ss.getD i ByteArray.empty)) ∧ (ss.getD i ByteArray.empty).size ≤ maxLen

theorem isList_of {H : Type} {enc : TypeId × Value → H} {W : World} {fuel : Nat} {a : Option Addr} {len cap : Nat} {x : DataW H × List MemPlace}
    (h : DataW.trod enc Try.prog W 0 (fun _ => true) true fuel 22 (Value.cells (.slice a len cap)).toList = some x) : ∃ ss, IsList W a len ss := by
  rcases open_strings Try.underlying22 Try.underlying9 (by kernel_rfl) h with ⟨hcs, _⟩ | ⟨y, l, c, ss, hcs, _, hl, hm, hz, _, hcell, hws⟩
  · simp [Value.cells] at hcs
    exact ⟨[], Or.inl hcs.2.1⟩
  · simp [Value.cells] at hcs
    obtain ⟨rfl, rfl, rfl⟩ := hcs
    refine ⟨ss, ?_⟩
    by_cases h0 : len = 0
    · exact Or.inl h0
    · obtain ⟨b, off, spot⟩ := y
      have hz : ss.length = cap := by simpa using hz
      have hc := hcell 0 (by omega)
      have hspot : spot = none := by simpa [Addr.add] using World.cell?_spot hc
      subst hspot
      have hadd : ∀ i, (⟨b, off, none⟩ : Addr).add i = ⟨b, off + i, none⟩ := fun i => by unfold Addr.add; split <;> simp_all
      refine Or.inr ⟨b, off, rfl, ?_, by omega, fun i hi => ⟨?_, hws _ ?_⟩⟩
      · have := hc
        rw [hadd] at this
        exact World.block_lt_of_cell? _ _ this
      · rw [← hadd]; exact hcell i (by omega)
      · rw [List.getD_eq_getElem?_getD, List.getElem?_eq_getElem (by omega)]; exact List.getElem_mem _

theorem min_one (k : Nat) (h : 0 < k) (ts : Array TypeId) (t : TypeId) (W : World) : (Builtin.min_ ts t #[.int .i64 k, .int .i64 1]).run Try.prog W = .ok (.int .i64 1) W := by
  rw [run_min_int2]
  by_cases h1 : (1 : Int) < k
  · rw [if_pos h1]
  · rw [if_neg h1, show (k : Int) = 1 by omega]

theorem min_nought (k : Nat) (h : k = 0) (ts : Array TypeId) (t : TypeId) (W : World) : (Builtin.min_ ts t #[.int .i64 k, .int .i64 1]).run Try.prog W = .ok (.int .i64 0) W := by
  subst h
  rw [run_min_int2]
  rfl

end Go.Proofs.Ytddnlfelggbkcaa
