/-
  Layer 11: a row of steps, opened. Condition: none but memory's own.
-/
import Derived.Test.YtnagidgffkffhaaGOpen
import Derived.Deep.CutBlock
import Derived.Deep.DeepCutAuto
set_option linter.unusedVariables false
namespace Go.Proofs.Ytnagidgffkffhaa.G
open Go.ChangeShapes Go.WideShapes Go.ChangeAt Go.RowKit Go.Joins Go.Deep Cfg
set_option maxRecDepth 100000
structure SpN where
  kind : Int
  m : MbN
  n : MbN
instance spInh : Inhabited SpN := ⟨⟨0, ⟨0, 0⟩, ⟨0, 0⟩⟩⟩
abbrev spC (s : SpN) : Array Value := #[.int .i64 s.kind, .int .i64 s.m.node, .int .i64 s.m.life, .int .i64 s.n.node, .int .i64 s.n.life]
def Sps (w : World) (p : Option Addr) (l : List SpN) : Prop := ∀ i (hi : i < l.length), ∃ b off, p = some ⟨b, off, none⟩ ∧ ∀ j v, (spC l[i])[j]? = some v → w.cell? ⟨b, off + i * 5 + j, none⟩ = some v
theorem Sps.below {w w' : World} {p : Option Addr} {l : List SpN} (h : Sps w p l) (k : Below w.heap.size w w') : Sps w' p l := fun i hi => by
  obtain ⟨b, off, e, c⟩ := h i hi
  exact ⟨b, off, e, fun j v hj => (k.cell (p := ⟨b, _, none⟩) (World.block_lt_of_cell? w _ (c j v hj))).trans (c j v hj)⟩
theorem cellsSp : Try.prog.cellsOf 68 = 5 := by kernel_rfl
section
variable {H : Type} {enc : TypeId × Value → H} {w : World} {base : Nat} {spare : Nat → Bool} {held : Bool}
theorem sp_of_cells {m : Nat} {cs : List Value} {x : DataW H × List MemPlace} (hl : cs.length = 5) (hf : DataW.trod enc Try.prog w base spare held m 68 cs = some x) : ∃ o : SpN, cs = (spC o).toList := by
  match cs, hl with
  | [c0, c1, c2, c3, c4], _ =>
    obtain ⟨xs, n, _, _, _, hlen, hg⟩ := DataW.trod_struct Try.underlying68 hf
    match xs, hlen with
    | [y0, y1, y2], _ =>
      have g0 : DataW.trod enc Try.prog w base spare held n 3 [c0] = some y0 := by simpa [cellsI] using hg 0 _ rfl
      have g1 : DataW.trod enc Try.prog w base spare held n 26 [c1, c2] = some y1 := by simpa [cellsMb] using hg 1 _ rfl
      have g2 : DataW.trod enc Try.prog w base spare held n 26 [c3, c4] = some y2 := by simpa [cellsMb] using hg 2 _ rfl
      obtain ⟨n0, e0, _, _⟩ := DataW.trod_int Try.underlying3 g0
      obtain ⟨⟨o0, o1⟩, e1⟩ := mb_of_cells rfl g1
      obtain ⟨⟨q0, q1⟩, e2⟩ := mb_of_cells rfl g2
      simp at e0 e1 e2
      obtain ⟨rfl, rfl⟩ := e1
      obtain ⟨rfl, rfl⟩ := e2
      subst e0
      exact ⟨⟨n0, ⟨o0, o1⟩, ⟨q0, q1⟩⟩, rfl⟩
theorem steps_of {fuel : Nat} {a : Option Addr} {len cap : Nat} {x : DataW H × List MemPlace} (h : DataW.trod enc Try.prog w 0 (fun _ => true) true fuel 65 (Value.cells (.slice a len cap)).toList = some x) :
    ∃ l : List SpN, l.length = len ∧ Sps w a l ∧ len ≤ cap ∧ len ≤ 9223372036854775807 := by
  rcases open_slice Try.underlying65 h with ⟨hcs, _⟩ | ⟨y, l', c', m, n, D, Pl, hcs, _, hl, hm, hmm, _, hx⟩
  · simp [Value.cells] at hcs
    obtain ⟨_, rfl, rfl⟩ := hcs
    exact ⟨[], rfl, fun i hi => by simp at hi, Nat.le_refl _, by decide⟩
  · simp [Value.cells] at hcs
    obtain ⟨rfl, rfl, rfl⟩ := hcs
    have hmm : m = cap := by simpa using hmm
    subst hmm
    have each : ∀ i, i < m → ∃ o : SpN, ∀ j v, (spC o)[j]? = some v → w.cell? (y.add (i * 5 + j)) = some v := by
      intro i hi
      obtain ⟨cs', h1, h2⟩ := hx i hi
      rw [cellsSp] at h1
      obtain ⟨_, hlen, hcell⟩ := World.cells?_some h1
      obtain ⟨o, rfl⟩ := sp_of_cells hlen h2
      refine ⟨o, fun j v hj => ?_⟩
      have hj' : j < 5 := by
        rcases Nat.lt_or_ge j 5 with g | g
        · exact g
        · rw [Array.getElem?_eq_none (by simpa using g)] at hj; cases hj
      have := hcell j hj'
      rw [add_add] at this
      rw [this]
      rw [← Array.getElem?_toList] at hj
      exact hj
    obtain ⟨q, hq⟩ := choose_lt each
    have hlen : ((List.range len).map q).length = len := by simp
    refine ⟨(List.range len).map q, hlen, fun i hi => ?_, hl, by unfold maxLen at hm; omega⟩
    rw [hlen] at hi
    have c := hq i (by omega)
    obtain ⟨b, off, spot⟩ := y
    have hspot : spot = none := by
      have h0 := (hq 0 (by omega)) 0 _ rfl
      exact by simpa [Addr.add] using World.cell?_spot h0
    subst hspot
    have e : ((List.range len).map q)[i] = q i := by simp
    rw [e]
    simp only [Addr.add_lit] at c
    exact ⟨b, off, rfl, fun j v hj => by rw [Nat.add_assoc]; exact c j v hj⟩
end
end Go.Proofs.Ytnagidgffkffhaa.G
