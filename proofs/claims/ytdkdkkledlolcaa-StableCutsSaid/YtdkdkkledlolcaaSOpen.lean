/-
  Arguments of layer 7's laws, opened: a slice of texts, a slice of calls (two numbers and a text each), an int's bounds.
-/
import Derived.Test.YtdkdkkledlolcaaSAwake
import Derived.Test.YtdkdkkledlolcaaSRef
import Derived.ProofKit
import Derived.SliceStrings
import Derived.Deep.SlicePairs
import Derived.OpenShut
import Derived.ShutString
namespace Go.Proofs.Ytdkdkkledlolcaa
open Go.ChangeShapes Go.WideShapes Go.ChangeAt Go.RowKit Go.Deep

theorem wf_i64 {x : Int} (h : (Lit.int .i64 x).wf = true) : -9223372036854775808 ≤ x ∧ x ≤ 9223372036854775807 := by
  simpa [Lit.wf, IntKind.min, IntKind.max, IntKind.signed, IntKind.bits] using h

theorem add_plain (b off i : Nat) : (⟨b, off, none⟩ : Addr).add i = ⟨b, off + i, none⟩ := by unfold Addr.add; split <;> simp_all

/-- A slice of texts that came in: it is empty, or its cells hold texts. -/
def IsList (w : World) (a : Option Addr) (len : Nat) (ss : List ByteArray) : Prop :=
  len = 0 ∨ ∃ b off, a = some ⟨b, off, none⟩ ∧ b < w.heap.size ∧ len ≤ maxLen ∧ ∀ i, i < len → w.cell? ⟨b, off + i, none⟩ = some (.string (ss.getD i ByteArray.empty)) ∧ (ss.getD i ByteArray.empty).size ≤ maxLen

theorem isList_of {H : Type} {enc : TypeId × Value → H} {W : World} {fuel : Nat} {a : Option Addr} {len cap : Nat} {x : DataW H × List MemPlace}
    (h : DataW.trod enc Try.prog W 0 (fun _ => true) true fuel 37 (Value.cells (.slice a len cap)).toList = some x) : ∃ ss, IsList W a len ss := by
  rcases open_strings Try.underlying37 Try.underlying9 (by kernel_rfl) h with ⟨hcs, _⟩ | ⟨y, l, c, ss, hcs, _, hl, hm, hz, _, hcell, hws⟩
  · simp [Value.cells] at hcs
    exact ⟨[], Or.inl hcs.2.1⟩
  · simp [Value.cells] at hcs
    obtain ⟨rfl, rfl, rfl⟩ := hcs
    refine ⟨ss, ?_⟩
    by_cases h0 : len = 0
    · exact Or.inl h0
    · obtain ⟨b, off, spot⟩ := y
      have hz : ss.length = cap := by simpa using hz
      have hc := hcell 0 (by omega)
      have hspot : spot = none := by simpa [Addr.add] using World.cell?_spot hc
      subst hspot
      have hadd : ∀ i, (⟨b, off, none⟩ : Addr).add i = ⟨b, off + i, none⟩ := fun i => by unfold Addr.add; split <;> simp_all
      refine Or.inr ⟨b, off, rfl, ?_, by omega, fun i hi => ⟨?_, hws _ ?_⟩⟩
      · have := hc
        rw [hadd] at this
        exact World.block_lt_of_cell? _ _ this
      · rw [← hadd]; exact hcell i (by omega)
      · rw [List.getD_eq_getElem?_getD, List.getElem?_eq_getElem (by omega)]; exact List.getElem_mem _

/-- A slice of calls that came in: it is empty, or its cells hold two numbers and a text each. -/
def IsOps (w : World) (a : Option Addr) (len : Nat) (K M : Nat → Int) (T : Nat → ByteArray) : Prop :=
  len = 0 ∨ ∃ b off, a = some ⟨b, off, none⟩ ∧ b < w.heap.size ∧ len ≤ maxLen ∧ ∀ i, i < len → w.cell? ⟨b, off + i * 3, none⟩ = some (.int .i64 (K i)) ∧ w.cell? ⟨b, off + i * 3 + 1, none⟩ = some (.int .i64 (M i)) ∧
    w.cell? ⟨b, off + i * 3 + 2, none⟩ = some (.string (T i)) ∧ (T i).size ≤ maxLen

theorem triple_at {H : Type} {enc : TypeId × Value → H} {P : Program} {w : World} {base n : Nat} {spare : Nat → Bool} {held : Bool} {e : TypeId} {f0 f1 f2 : Field} {y : Addr} {i : Nat} {d : DataW H × List MemPlace} (he : P.underlying e = some (.struct #[f0, f1, f2]))
    (o0 : f0.offset = 0) (o1 : f1.offset = 1) (o2 : f2.offset = 2) (c0 : P.cellsOf f0.type = 1) (c1 : P.cellsOf f1.type = 1) (c2 : P.cellsOf f2.type = 1) {cs' : List Value}
    (h1 : w.cells? base (y.add i) 3 = some cs') (h2 : DataW.trod enc P w base spare held n e cs' = some d) :
    ∃ (v0 v1 v2 : Value) (k : Nat) (x0 x1 x2 : DataW H × List MemPlace), w.cell? (y.add i) = some v0 ∧ w.cell? (y.add (i + 1)) = some v1 ∧ w.cell? (y.add (i + 2)) = some v2 ∧
      DataW.trod enc P w base spare held k f0.type [v0] = some x0 ∧ DataW.trod enc P w base spare held k f1.type [v1] = some x1 ∧ DataW.trod enc P w base spare held k f2.type [v2] = some x2 := by
  obtain ⟨_, hlen, hcell⟩ := World.cells?_some h1
  obtain ⟨xs, k, hk, hxy, _, hxl, hf⟩ := DataW.trod_struct he h2
  match xs, hxl, cs', hlen with
  | [y0, y1, y2], _, [v0, v1, v2], _ =>
    have g0 := hf 0 f0 rfl
    have g1 := hf 1 f1 rfl
    have g2 := hf 2 f2 rfl
    simp [o0, o1, o2, c0, c1, c2] at g0 g1 g2
    have e0 := hcell 0 (by omega)
    have e1 := hcell 1 (by omega)
    have e2 := hcell 2 (by omega)
    rw [add_add] at e0 e1 e2
    exact ⟨v0, v1, v2, k, y0, y1, y2, by simpa using e0, by simpa using e1, by simpa using e2, g0, g1, g2⟩

theorem isOps_of {H : Type} {enc : TypeId × Value → H} {W : World} {fuel : Nat} {a : Option Addr} {len cap : Nat} {x : DataW H × List MemPlace}
    (h : DataW.trod enc Try.prog W 0 (fun _ => true) true fuel 22 (Value.cells (.slice a len cap)).toList = some x) : ∃ K M T, IsOps W a len K M T := by
  rcases open_slice Try.underlying22 h with ⟨hcs, _⟩ | ⟨y, l, c, m, n, D, Pl, hcs, _, hl, hm, hmm, _, hx⟩
  · simp [Value.cells] at hcs
    exact ⟨fun _ => 0, fun _ => 0, fun _ => ByteArray.empty, Or.inl hcs.2.1⟩
  · simp [Value.cells] at hcs
    obtain ⟨rfl, rfl, rfl⟩ := hcs
    by_cases h0 : len = 0
    · exact ⟨fun _ => 0, fun _ => 0, fun _ => ByteArray.empty, Or.inl h0⟩
    · have hmm : m = cap := by simpa using hmm
      subst hmm
      have each : ∀ i, i < m → ∃ v : Int × Int × ByteArray, W.cell? (y.add (i * 3)) = some (.int .i64 v.1) ∧ W.cell? (y.add (i * 3 + 1)) = some (.int .i64 v.2.1) ∧ W.cell? (y.add (i * 3 + 2)) = some (.string v.2.2) ∧ v.2.2.size ≤ maxLen := by
        intro i hi
        obtain ⟨cs', h1, h2⟩ := hx i hi
        rw [show Try.prog.cellsOf 31 = 3 by kernel_rfl] at h1
        obtain ⟨v0, v1, v2, k, x0, x1, x2, e0, e1, e2, g0, g1, g2⟩ := triple_at (Try.underlying31.trans rfl) rfl rfl rfl (by kernel_rfl) (by kernel_rfl) (by kernel_rfl) h1 h2
        obtain ⟨k0, z0, _, _⟩ := DataW.trod_int Try.underlying3 g0
        obtain ⟨k1, z1, _, _⟩ := DataW.trod_int Try.underlying3 g1
        obtain ⟨k2, z2, _, hw⟩ := DataW.trod_string Try.underlying9 g2
        simp only [List.cons.injEq, and_true] at z0 z1 z2
        subst z0; subst z1; subst z2
        exact ⟨(k0, k1, k2), e0, e1, e2, hw⟩
      obtain ⟨q, hq⟩ := choose_lt each
      obtain ⟨b, off, spot⟩ := y
      have hq0 := (hq 0 (by omega)).1
      have hspot : spot = none := by simpa [Addr.add] using World.cell?_spot hq0
      subst hspot
      have hadd := add_plain b off
      refine ⟨fun i => (q i).1, fun i => (q i).2.1, fun i => (q i).2.2, Or.inr ⟨b, off, rfl, ?_, by omega, fun i hi => ?_⟩⟩
      · have := (hq 0 (by omega)).1
        rw [hadd] at this
        exact World.block_lt_of_cell? _ _ this
      · obtain ⟨c0, c1, c2, hz⟩ := hq i (by omega)
        rw [hadd] at c0 c1 c2
        exact ⟨c0, c1, c2, hz⟩
end Go.Proofs.Ytdkdkkledlolcaa
