/-
  Layer 6: a slice of calls that came in (three numbers each), opened.
-/
import Derived.Test.YthobffeafddonaaDoorWPlay
set_option linter.unusedVariables false
namespace Go.Proofs.YthobffeafddonaaDoor
open Go.ChangeShapes Go.WideShapes Go.ChangeAt Go.RowKit Whl Go.Deep

/-- A slice of calls, as it is read. -/
def Ops3 (w : World) (a : Option Addr) (n : Nat) (f : Nat → Int × Int × Int) : Prop := ∀ i, i < n → ∃ b off, a = some ⟨b, off, none⟩ ∧ w.cell? ⟨b, off + i * 3, none⟩ = some (.int .i64 (f i).1) ∧ w.cell? ⟨b, off + i * 3 + 1, none⟩ = some (.int .i64 (f i).2.1) ∧ w.cell? ⟨b, off + i * 3 + 2, none⟩ = some (.int .i64 (f i).2.2) ∧
  (Lit.int .i64 (f i).1).wf = true ∧ (Lit.int .i64 (f i).2.1).wf = true ∧ (Lit.int .i64 (f i).2.2).wf = true
theorem Ops3.keep {w w' : World} {a : Option Addr} {n : Nat} {f : Nat → Int × Int × Int} (h : Ops3 w a n f) (k : Below w.heap.size w w') : Ops3 w' a n f := fun i hi => by
  obtain ⟨b, off, e, c0, c1, c2, z⟩ := h i hi
  have hb := World.block_lt_of_cell? w _ c0
  exact ⟨b, off, e, (k.cell (p := ⟨b, off + i * 3, none⟩) hb).trans c0, (k.cell (p := ⟨b, off + i * 3 + 1, none⟩) hb).trans c1, (k.cell (p := ⟨b, off + i * 3 + 2, none⟩) hb).trans c2, z⟩

theorem triple_at {H : Type} {enc : TypeId × Value → H} {P : Program} {w : World} {base n : Nat} {spare : Nat → Bool} {held : Bool} {e : TypeId} {f0 f1 f2 : Field} {y : Addr} {i : Nat} {d : DataW H × List MemPlace} (he : P.underlying e = some (.struct #[f0, f1, f2]))
    (o0 : f0.offset = 0) (o1 : f1.offset = 1) (o2 : f2.offset = 2) (c0 : P.cellsOf f0.type = 1) (c1 : P.cellsOf f1.type = 1) (c2 : P.cellsOf f2.type = 1) {cs' : List Value}
    (h1 : w.cells? base (y.add i) 3 = some cs') (h2 : DataW.trod enc P w base spare held n e cs' = some d) :
    ∃ (v0 v1 v2 : Value) (k : Nat) (x0 x1 x2 : DataW H × List MemPlace), w.cell? (y.add i) = some v0 ∧ w.cell? (y.add (i + 1)) = some v1 ∧ w.cell? (y.add (i + 2)) = some v2 ∧
      DataW.trod enc P w base spare held k f0.type [v0] = some x0 ∧ DataW.trod enc P w base spare held k f1.type [v1] = some x1 ∧ DataW.trod enc P w base spare held k f2.type [v2] = some x2 := by
  obtain ⟨_, hlen, hcell⟩ := World.cells?_some h1
  obtain ⟨xs, k, hk, hxy, _, hxl, hf⟩ := DataW.trod_struct he h2
  match xs, hxl, cs', hlen with
  | [y0, y1, y2], _, [v0, v1, v2], _ =>
    have g0 := hf 0 f0 rfl
    have g1 := hf 1 f1 rfl
    have g2 := hf 2 f2 rfl
    simp [o0, o1, o2, c0, c1, c2] at g0 g1 g2
    have e0 := hcell 0 (by omega)
    have e1 := hcell 1 (by omega)
    have e2 := hcell 2 (by omega)
    rw [add_add] at e0 e1 e2
    exact ⟨v0, v1, v2, k, y0, y1, y2, by simpa using e0, by simpa using e1, by simpa using e2, g0, g1, g2⟩

theorem ops3_of {H : Type} {enc : TypeId × Value → H} {W : World} {fuel : Nat} {a : Option Addr} {len cap : Nat} {x : DataW H × List MemPlace}
    (h : DataW.trod enc Tryd.prog W 0 (fun _ => true) true fuel 22 (Value.cells (.slice a len cap)).toList = some x) : ∃ f, Ops3 W a len f := by
  rcases open_slice Tryd.underlying22 h with ⟨hcs, _⟩ | ⟨y, l, c, m, n, D, Pl, hcs, _, hl, hm, hmm, _, hx⟩
  · simp [Value.cells] at hcs
    exact ⟨fun _ => (0, 0, 0), fun i hi => by omega⟩
  · simp [Value.cells] at hcs
    obtain ⟨rfl, rfl, rfl⟩ := hcs
    have hmm : m = cap := by simpa using hmm
    subst hmm
    have each : ∀ i, i < m → ∃ v : Int × Int × Int, W.cell? (y.add (i * 3)) = some (.int .i64 v.1) ∧ W.cell? (y.add (i * 3 + 1)) = some (.int .i64 v.2.1) ∧ W.cell? (y.add (i * 3 + 2)) = some (.int .i64 v.2.2) ∧ (Lit.int .i64 v.1).wf = true ∧ (Lit.int .i64 v.2.1).wf = true ∧ (Lit.int .i64 v.2.2).wf = true := by
      intro i hi
      obtain ⟨cs', h1, h2⟩ := hx i hi
      rw [show Tryd.prog.cellsOf 29 = 3 by kernel_rfl] at h1
      obtain ⟨v0, v1, v2, k, x0, x1, x2, e0, e1, e2, g0, g1, g2⟩ := triple_at (Tryd.underlying29.trans rfl) rfl rfl rfl (by kernel_rfl) (by kernel_rfl) (by kernel_rfl) h1 h2
      obtain ⟨k0, z0, _, w0⟩ := DataW.trod_int Tryd.underlying3 g0
      obtain ⟨k1, z1, _, w1⟩ := DataW.trod_int Tryd.underlying3 g1
      obtain ⟨k2, z2, _, w2⟩ := DataW.trod_int Tryd.underlying3 g2
      simp only [List.cons.injEq, and_true] at z0 z1 z2
      subst z0; subst z1; subst z2
      exact ⟨(k0, k1, k2), e0, e1, e2, w0, w1, w2⟩
    obtain ⟨q, hq⟩ := choose_lt each
    refine ⟨q, fun i hi => ?_⟩
    obtain ⟨c0, c1, c2, z⟩ := hq i (by omega)
    obtain ⟨b, off, spot⟩ := y
    have hq0 := (hq 0 (by omega)).1
    have hspot : spot = none := by simpa [Addr.add] using World.cell?_spot hq0
    subst hspot
    rw [Addr.add_lit] at c0 c1 c2
    exact ⟨b, off, rfl, c0, c1, c2, z⟩
end Go.Proofs.YthobffeafddonaaDoor
