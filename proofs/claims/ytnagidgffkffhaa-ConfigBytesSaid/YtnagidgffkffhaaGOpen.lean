/-
  Layer 11: what comes in, opened: a member, a chain, rows of members and of steps. Condition: none but memory's own.
-/
import Derived.Test.YtnagidgffkffhaaGBase
import Derived.Lib.SmallJoins
import Derived.Deep.Slices
import Derived.ChangeSlices
import Derived.ProofKit
import Derived.OpenShut
import Derived.ShutString
set_option linter.unusedVariables false
namespace Go.Proofs.Ytnagidgffkffhaa.G
open Go.ChangeShapes Go.WideShapes Go.ChangeAt Go.RowKit Go.Joins Go.Deep Cfg
set_option maxRecDepth 100000

theorem laidOut11 : laidOutB Try.prog = true := by kernel_rfl
theorem cellsMb : Try.prog.cellsOf 26 = 2 := by kernel_rfl
theorem cellsSt : Try.prog.cellsOf 70 = 3 := by kernel_rfl
theorem cellsCf : Try.prog.cellsOf 24 = 2 := by kernel_rfl
theorem cellsI : Try.prog.cellsOf 3 = 1 := by kernel_rfl
theorem cellsB : Try.prog.cellsOf 4 = 1 := by kernel_rfl
theorem cellsS : Try.prog.cellsOf 22 = 1 := by kernel_rfl
section
variable {H : Type} {enc : TypeId × Value → H} {w : World} {base : Nat} {spare : Nat → Bool} {held : Bool}
theorem mb_of_cells {m : Nat} {cs : List Value} {x : DataW H × List MemPlace} (hl : cs.length = 2) (hf : DataW.trod enc Try.prog w base spare held m 26 cs = some x) : ∃ o : MbN, cs = [.int .i64 o.node, .int .i64 o.life] := by
  match cs, hl with
  | [c0, c1], _ =>
    obtain ⟨xs, n, _, _, _, hlen, hg⟩ := DataW.trod_struct Try.underlying26 hf
    match xs, hlen with
    | [y0, y1], _ =>
      have g0 : DataW.trod enc Try.prog w base spare held n 3 [c0] = some y0 := by simpa [cellsI] using hg 0 _ rfl
      have g1 : DataW.trod enc Try.prog w base spare held n 3 [c1] = some y1 := by simpa [cellsI] using hg 1 _ rfl
      obtain ⟨n0, e0, _, _⟩ := DataW.trod_int Try.underlying3 g0
      obtain ⟨n1, e1, _, _⟩ := DataW.trod_int Try.underlying3 g1
      obtain rfl := (List.cons.inj e0).1
      obtain rfl := (List.cons.inj e1).1
      exact ⟨⟨n0, n1⟩, rfl⟩
theorem st_of_cells {m : Nat} {cs : List Value} {x : DataW H × List MemPlace} (hl : cs.length = 3) (hf : DataW.trod enc Try.prog w base spare held m 70 cs = some x) : ∃ o : StN, cs = (stC o).toList := by
  match cs, hl with
  | [c0, c1, c2], _ =>
    obtain ⟨xs, n, _, _, _, hlen, hg⟩ := DataW.trod_struct Try.underlying70 hf
    match xs, hlen with
    | [y0, y1], _ =>
      have g0 : DataW.trod enc Try.prog w base spare held n 26 [c0, c1] = some y0 := by simpa [cellsMb] using hg 0 _ rfl
      have g1 : DataW.trod enc Try.prog w base spare held n 4 [c2] = some y1 := by simpa [cellsB] using hg 1 _ rfl
      obtain ⟨o, e0⟩ := mb_of_cells rfl g0
      obtain ⟨b, e1, _⟩ := DataW.trod_bool Try.underlying4 g1
      obtain ⟨o0, o1⟩ := o
      simp at e0 e1
      obtain ⟨rfl, rfl⟩ := e0
      subst e1
      exact ⟨⟨⟨o0, o1⟩, b⟩, rfl⟩
theorem open_mb {r : Reach} {b0 : Nat} {v : Value} {d : DataW H} {p : List MemPlace} (hv : Value.okWide Try.prog w r b0 26 v) (h : DataW.Trod enc Try.prog w base spare held 26 v d p) : ∃ o : MbN, v = mbV o := by
  obtain ⟨cs, rfl, hsz⟩ := okWide_struct Try.underlying26 hv
  obtain ⟨l⟩ := cs
  obtain ⟨fuel, hf⟩ := h
  obtain ⟨o, e⟩ := mb_of_cells (hsz.trans cellsMb) (by simpa [Value.cells] using hf)
  exact ⟨o, by rw [show l = _ from e]⟩
theorem seats_of {fuel : Nat} {c : Value} {x : DataW H × List MemPlace} (h : DataW.trod enc Try.prog w 0 (fun _ => true) true fuel 22 [c] = some x) :
    ∃ (p : Option Addr) (l : List StN) (cap : Nat), c = .slice p l.length cap ∧ Chn w p l ∧ l.length ≤ cap ∧ l.length ≤ 9223372036854775807 := by
  rcases open_slice Try.underlying22 h with ⟨hcs, _⟩ | ⟨y, len, cap, m, n, D, Pl, hcs, _, hl, hm, hmm, _, hx⟩
  · simp at hcs
    exact ⟨none, [], 0, hcs, Chn.nil _ _, Nat.le_refl _, by decide⟩
  · simp at hcs
    subst hcs
    have hmm : m = cap := by simpa using hmm
    subst hmm
    have each : ∀ i, i < m → ∃ o : StN, ∀ j v, (stC o)[j]? = some v → w.cell? (y.add (i * 3 + j)) = some v := by
      intro i hi
      obtain ⟨cs', h1, h2⟩ := hx i hi
      rw [cellsSt] at h1
      obtain ⟨_, hlen, hcell⟩ := World.cells?_some h1
      obtain ⟨o, rfl⟩ := st_of_cells hlen h2
      refine ⟨o, fun j v hj => ?_⟩
      have hj' : j < 3 := by
        rcases Nat.lt_or_ge j 3 with g | g
        · exact g
        · rw [Array.getElem?_eq_none (by simpa using g)] at hj; cases hj
      have := hcell j hj'
      rw [add_add] at this
      rw [this]
      rw [← Array.getElem?_toList] at hj
      exact hj
    obtain ⟨q, hq⟩ := choose_lt each
    have hlen : ((List.range len).map q).length = len := by simp
    refine ⟨some y, (List.range len).map q, m, by rw [hlen], fun i hi => ?_, by rw [hlen]; exact hl, by rw [hlen]; unfold maxLen at hm; omega⟩
    rw [hlen] at hi
    have c := hq i (by omega)
    obtain ⟨b, off, spot⟩ := y
    have hspot : spot = none := by
      have h0 := (hq 0 (by omega)) 0 _ rfl
      exact by simpa [Addr.add] using World.cell?_spot h0
    subst hspot
    have e : ((List.range len).map q)[i] = q i := by simp
    rw [e]
    simp only [Addr.add_lit] at c
    exact ⟨b, off, rfl, c 0 _ rfl, by rw [Nat.add_assoc]; exact c 1 _ rfl, by rw [Nat.add_assoc]; exact c 2 _ rfl⟩
theorem mbs_of {fuel : Nat} {a : Option Addr} {len cap : Nat} {x : DataW H × List MemPlace} (h : DataW.trod enc Try.prog w 0 (fun _ => true) true fuel 42 (Value.cells (.slice a len cap)).toList = some x) :
    ∃ l : List MbN, l.length = len ∧ (Mbs w a l ∧ (a = none → cap = 0)) ∧ len ≤ cap ∧ len ≤ 9223372036854775807 := by
  rcases open_slice Try.underlying42 h with ⟨hcs, _⟩ | ⟨y, l', c', m, n, D, Pl, hcs, _, hl, hm, hmm, _, hx⟩
  · simp [Value.cells] at hcs
    obtain ⟨_, rfl, rfl⟩ := hcs
    exact ⟨[], rfl, ⟨fun i hi => by simp at hi, fun _ => rfl⟩, Nat.le_refl _, by decide⟩
  · simp [Value.cells] at hcs
    obtain ⟨rfl, rfl, rfl⟩ := hcs
    have hmm : m = cap := by simpa using hmm
    subst hmm
    have each : ∀ i, i < m → ∃ o : MbN, w.cell? (y.add (i * 2)) = some (.int .i64 o.node) ∧ w.cell? (y.add (i * 2 + 1)) = some (.int .i64 o.life) := by
      intro i hi
      obtain ⟨cs', h1, h2⟩ := hx i hi
      rw [cellsMb] at h1
      obtain ⟨_, hlen, hcell⟩ := World.cells?_some h1
      obtain ⟨o, rfl⟩ := mb_of_cells hlen h2
      have h0 := hcell 0 (by decide)
      have h1 := hcell 1 (by decide)
      rw [add_add] at h0 h1
      exact ⟨o, h0, h1⟩
    obtain ⟨q, hq⟩ := choose_lt each
    have hlen : ((List.range len).map q).length = len := by simp
    refine ⟨(List.range len).map q, hlen, ⟨fun i hi => ?_, fun e => by cases e⟩, hl, ?_⟩
    · rw [hlen] at hi
      have c := hq i (by omega)
      obtain ⟨b, off, spot⟩ := y
      have hspot : spot = none := by
        have h0 := (hq 0 (by omega)).1
        exact by simpa [Addr.add] using World.cell?_spot h0
      subst hspot
      have e : ((List.range len).map q)[i] = q i := by simp
      rw [e]
      simp only [Addr.add_lit] at c
      exact ⟨b, off, rfl, c.1, by rw [Nat.add_assoc]; exact c.2⟩
    · unfold maxLen at hm; omega
theorem open_cf {r : Reach} {b0 : Nat} {v : Value} {d : DataW H} {p : List MemPlace} (hv : Value.okWide Try.prog w r b0 24 v) (h : DataW.Trod enc Try.prog w 0 (fun _ => true) true 24 v d p) :
    ∃ (c : CfN) (q : Option Addr) (cap : Nat), v = .agg #[.int .i64 c.epoch, .slice q c.l.length cap] ∧ Chn w q c.l ∧ c.l.length ≤ cap ∧ c.l.length ≤ 9223372036854775807 := by
  obtain ⟨cs, rfl, hsz⟩ := okWide_struct Try.underlying24 hv
  obtain ⟨l⟩ := cs
  match l, hsz.trans cellsCf with
  | [c0, c1], _ =>
    obtain ⟨fuel, hf⟩ := h
    obtain ⟨xs, n, _, _, _, hlen, hg⟩ := DataW.trod_struct Try.underlying24 hf
    match xs, hlen with
    | [y0, y1], _ =>
      have g0 : DataW.trod enc Try.prog w 0 (fun _ => true) true n 3 [c0] = some y0 := by simpa [Value.cells, cellsI] using hg 0 _ rfl
      have g1 : DataW.trod enc Try.prog w 0 (fun _ => true) true n 22 [c1] = some y1 := by simpa [Value.cells, cellsS] using hg 1 _ rfl
      obtain ⟨n0, e0, _, _⟩ := DataW.trod_int Try.underlying3 g0
      obtain rfl := (List.cons.inj e0).1
      obtain ⟨q, s, cap, rfl, hc, h1, h2⟩ := seats_of g1
      exact ⟨⟨n0, s⟩, q, cap, rfl, hc, h1, h2⟩
end
end Go.Proofs.Ytnagidgffkffhaa.G
