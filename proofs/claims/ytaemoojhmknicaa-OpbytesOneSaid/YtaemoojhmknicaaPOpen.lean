/-
  Layer 10: an operation, and a row of operations, that came in: opened and shut again. Condition: no text is longer than memory bears.
-/
import Derived.Test.YtaemoojhmknicaaPOp
import Derived.Lib.SmallJoins
import Derived.Deep.Slices
import Derived.ChangeSlices
import Derived.ProofKit
import Derived.OpenShut
import Derived.ShutString
set_option linter.unusedVariables false
namespace Go.Proofs.Ytaemoojhmknicaa
open Go.ChangeShapes Go.WideShapes Go.ChangeAt Go.RowKit Go.Joins Go.Deep Cod
set_option maxRecDepth 100000

theorem laidOut10 : laidOutB Try.prog = true := by kernel_rfl
theorem cells30 : Try.prog.cellsOf 23 = 10 := by kernel_rfl
theorem cells9s : Try.prog.cellsOf 9 = 1 := by kernel_rfl
theorem cells3 : Try.prog.cellsOf 3 = 1 := by kernel_rfl
theorem wf_i64 {n : Int} (h : (Lit.int .i64 n).wf = true) : i64 n := by
  simpa [Lit.wf, IntKind.min, IntKind.max, IntKind.signed, IntKind.bits, i64] using h
theorem i64_wf {n : Int} (h : i64 n) : (Lit.int .i64 n).wf = true := by
  unfold i64 at h
  simpa [Lit.wf, IntKind.min, IntKind.max, IntKind.signed, IntKind.bits] using h
/-- An operation's numbers are int's, and its text is no longer than a text may be in memory. -/
structure OpIs (o : OpN) : Prop where
  int : OpI o
  cron : o.cron.size ≤ maxLen
def opD {H : Type} (o : OpN) : DataW H := .agg [.lit (.int .i64 o.kind), .lit (.int .i64 o.client), .lit (.int .i64 o.req), .lit (.int .i64 o.id), .lit (.int .i64 o.gen), .lit (.int .i64 o.occ), .lit (.int .i64 o.due), .lit (.int .i64 o.stamp), .lit (.int .i64 o.epoch), .lit (.string o.cron.data.toList)]
section
variable {H : Type} {enc : TypeId × Value → H} {w : World} {base : Nat} {spare : Nat → Bool} {held : Bool}
set_option maxRecDepth 100000 in
theorem open_op {r : Reach} {b0 : Nat} {v : Value} {d : DataW H} {p : List MemPlace} (hv : Value.okWide Try.prog w r b0 23 v) (h : DataW.Trod enc Try.prog w base spare held 23 v d p) :
    ∃ o : OpN, v = opV o ∧ d = opD o ∧ p = [] ∧ OpIs o := by
  obtain ⟨cs, rfl, hsz⟩ := okWide_struct Try.underlying23 hv
  obtain ⟨l⟩ := cs
  match l, hsz.trans cells30 with
  | [c0, c1, c2, c3, c4, c5, c6, c7, c8, c9], _ =>
    obtain ⟨fuel, hf⟩ := h
    obtain ⟨xs, n, _, hx, _, hlen, hg⟩ := DataW.trod_struct Try.underlying23 hf
    match xs, hlen with
    | [y0, y1, y2, y3, y4, y5, y6, y7, y8, y9], _ =>
      simp only [Prod.mk.injEq] at hx
      have g0 : DataW.trod enc Try.prog w base spare held n 3 [c0] = some y0 := by simpa [Value.cells, cells3, cells9s] using hg 0 _ rfl
      have g1 : DataW.trod enc Try.prog w base spare held n 3 [c1] = some y1 := by simpa [Value.cells, cells3, cells9s] using hg 1 _ rfl
      have g2 : DataW.trod enc Try.prog w base spare held n 3 [c2] = some y2 := by simpa [Value.cells, cells3, cells9s] using hg 2 _ rfl
      have g3 : DataW.trod enc Try.prog w base spare held n 3 [c3] = some y3 := by simpa [Value.cells, cells3, cells9s] using hg 3 _ rfl
      have g4 : DataW.trod enc Try.prog w base spare held n 3 [c4] = some y4 := by simpa [Value.cells, cells3, cells9s] using hg 4 _ rfl
      have g5 : DataW.trod enc Try.prog w base spare held n 3 [c5] = some y5 := by simpa [Value.cells, cells3, cells9s] using hg 5 _ rfl
      have g6 : DataW.trod enc Try.prog w base spare held n 3 [c6] = some y6 := by simpa [Value.cells, cells3, cells9s] using hg 6 _ rfl
      have g7 : DataW.trod enc Try.prog w base spare held n 3 [c7] = some y7 := by simpa [Value.cells, cells3, cells9s] using hg 7 _ rfl
      have g8 : DataW.trod enc Try.prog w base spare held n 3 [c8] = some y8 := by simpa [Value.cells, cells3, cells9s] using hg 8 _ rfl
      have g9 : DataW.trod enc Try.prog w base spare held n 9 [c9] = some y9 := by simpa [Value.cells, cells3, cells9s] using hg 9 _ rfl
      obtain ⟨n0, e0, rfl, w0⟩ := DataW.trod_int Try.underlying3 g0
      obtain ⟨n1, e1, rfl, w1⟩ := DataW.trod_int Try.underlying3 g1
      obtain ⟨n2, e2, rfl, w2⟩ := DataW.trod_int Try.underlying3 g2
      obtain ⟨n3, e3, rfl, w3⟩ := DataW.trod_int Try.underlying3 g3
      obtain ⟨n4, e4, rfl, w4⟩ := DataW.trod_int Try.underlying3 g4
      obtain ⟨n5, e5, rfl, w5⟩ := DataW.trod_int Try.underlying3 g5
      obtain ⟨n6, e6, rfl, w6⟩ := DataW.trod_int Try.underlying3 g6
      obtain ⟨n7, e7, rfl, w7⟩ := DataW.trod_int Try.underlying3 g7
      obtain ⟨n8, e8, rfl, w8⟩ := DataW.trod_int Try.underlying3 g8
      obtain ⟨s9, e9, rfl, w9⟩ := DataW.trod_string Try.underlying9 g9
      obtain rfl := (List.cons.inj e0).1
      obtain rfl := (List.cons.inj e1).1
      obtain rfl := (List.cons.inj e2).1
      obtain rfl := (List.cons.inj e3).1
      obtain rfl := (List.cons.inj e4).1
      obtain rfl := (List.cons.inj e5).1
      obtain rfl := (List.cons.inj e6).1
      obtain rfl := (List.cons.inj e7).1
      obtain rfl := (List.cons.inj e8).1
      obtain rfl := (List.cons.inj e9).1
      exact ⟨⟨n0, n1, n2, n3, n4, n5, n6, n7, n8, s9⟩, rfl, by simpa [opD] using hx.1, by simpa using hx.2, ⟨⟨wf_i64 w0, wf_i64 w1, wf_i64 w2, wf_i64 w3, wf_i64 w4, wf_i64 w5, wf_i64 w6, wf_i64 w7, wf_i64 w8⟩, w9⟩⟩
set_option maxRecDepth 100000 in
theorem shut_op {o : OpN} (ho : OpIs o) : DataW.Trod enc Try.prog w base spare held 23 (opV o) (opD o) [] := by
  obtain ⟨n0, t0⟩ := field_of_Trod (shut_int (enc := enc) (w := w) (base := base) (spare := spare) (held := held) Try.underlying3 (i64_wf ho.int.kind)) rfl
  obtain ⟨n1, t1⟩ := field_of_Trod (shut_int (enc := enc) (w := w) (base := base) (spare := spare) (held := held) Try.underlying3 (i64_wf ho.int.client)) rfl
  obtain ⟨n2, t2⟩ := field_of_Trod (shut_int (enc := enc) (w := w) (base := base) (spare := spare) (held := held) Try.underlying3 (i64_wf ho.int.req)) rfl
  obtain ⟨n3, t3⟩ := field_of_Trod (shut_int (enc := enc) (w := w) (base := base) (spare := spare) (held := held) Try.underlying3 (i64_wf ho.int.id)) rfl
  obtain ⟨n4, t4⟩ := field_of_Trod (shut_int (enc := enc) (w := w) (base := base) (spare := spare) (held := held) Try.underlying3 (i64_wf ho.int.gen)) rfl
  obtain ⟨n5, t5⟩ := field_of_Trod (shut_int (enc := enc) (w := w) (base := base) (spare := spare) (held := held) Try.underlying3 (i64_wf ho.int.occ)) rfl
  obtain ⟨n6, t6⟩ := field_of_Trod (shut_int (enc := enc) (w := w) (base := base) (spare := spare) (held := held) Try.underlying3 (i64_wf ho.int.due)) rfl
  obtain ⟨n7, t7⟩ := field_of_Trod (shut_int (enc := enc) (w := w) (base := base) (spare := spare) (held := held) Try.underlying3 (i64_wf ho.int.stamp)) rfl
  obtain ⟨n8, t8⟩ := field_of_Trod (shut_int (enc := enc) (w := w) (base := base) (spare := spare) (held := held) Try.underlying3 (i64_wf ho.int.epoch)) rfl
  obtain ⟨n9, t9⟩ := shut_string_cell (enc := enc) (w := w) (base := base) (spare := spare) (held := held) Try.underlying9 ho.cron
  replace t0 := DataW.trod_le (show n0 ≤ n0 + n1 + n2 + n3 + n4 + n5 + n6 + n7 + n8 + n9 by omega) t0
  replace t1 := DataW.trod_le (show n1 ≤ n0 + n1 + n2 + n3 + n4 + n5 + n6 + n7 + n8 + n9 by omega) t1
  replace t2 := DataW.trod_le (show n2 ≤ n0 + n1 + n2 + n3 + n4 + n5 + n6 + n7 + n8 + n9 by omega) t2
  replace t3 := DataW.trod_le (show n3 ≤ n0 + n1 + n2 + n3 + n4 + n5 + n6 + n7 + n8 + n9 by omega) t3
  replace t4 := DataW.trod_le (show n4 ≤ n0 + n1 + n2 + n3 + n4 + n5 + n6 + n7 + n8 + n9 by omega) t4
  replace t5 := DataW.trod_le (show n5 ≤ n0 + n1 + n2 + n3 + n4 + n5 + n6 + n7 + n8 + n9 by omega) t5
  replace t6 := DataW.trod_le (show n6 ≤ n0 + n1 + n2 + n3 + n4 + n5 + n6 + n7 + n8 + n9 by omega) t6
  replace t7 := DataW.trod_le (show n7 ≤ n0 + n1 + n2 + n3 + n4 + n5 + n6 + n7 + n8 + n9 by omega) t7
  replace t8 := DataW.trod_le (show n8 ≤ n0 + n1 + n2 + n3 + n4 + n5 + n6 + n7 + n8 + n9 by omega) t8
  replace t9 := DataW.trod_le (show n9 ≤ n0 + n1 + n2 + n3 + n4 + n5 + n6 + n7 + n8 + n9 by omega) t9
  have ts := trod_struct_mk (enc := enc) (w := w) (base := base) (spare := spare) (held := held) (n := n0 + n1 + n2 + n3 + n4 + n5 + n6 + n7 + n8 + n9) (cs := (opC o).toList) (xs := [(.lit (.int .i64 o.kind), []), (.lit (.int .i64 o.client), []), (.lit (.int .i64 o.req), []), (.lit (.int .i64 o.id), []), (.lit (.int .i64 o.gen), []), (.lit (.int .i64 o.occ), []), (.lit (.int .i64 o.due), []), (.lit (.int .i64 o.stamp), []), (.lit (.int .i64 o.epoch), []), (.lit (.string o.cron.data.toList), [])]) Try.underlying23 (by rw [cells30]; rfl) (
    by simp [cells3, cells9s, t0, t1, t2, t3, t4, t5, t6, t7, t8, t9])
  exact ⟨_, by simpa [opV, Value.cells, opD] using ts⟩
end
section
variable {H : Type} {enc : TypeId × Value → H} {w : World} {base : Nat} {spare : Nat → Bool} {held : Bool}
theorem op_of_cells {m : Nat} {cs : List Value} {x : DataW H × List MemPlace} (hl : cs.length = 10) (hf : DataW.trod enc Try.prog w base spare held m 23 cs = some x) : ∃ o : OpN, cs = (opC o).toList ∧ OpIs o := by
  match cs, hl with
  | [c0, c1, c2, c3, c4, c5, c6, c7, c8, c9], _ =>
    obtain ⟨xs, n, _, _, _, hlen, hg⟩ := DataW.trod_struct Try.underlying23 hf
    match xs, hlen with
    | [y0, y1, y2, y3, y4, y5, y6, y7, y8, y9], _ =>
      have g0 : DataW.trod enc Try.prog w base spare held n 3 [c0] = some y0 := by simpa [cells3, cells9s] using hg 0 _ rfl
      have g1 : DataW.trod enc Try.prog w base spare held n 3 [c1] = some y1 := by simpa [cells3, cells9s] using hg 1 _ rfl
      have g2 : DataW.trod enc Try.prog w base spare held n 3 [c2] = some y2 := by simpa [cells3, cells9s] using hg 2 _ rfl
      have g3 : DataW.trod enc Try.prog w base spare held n 3 [c3] = some y3 := by simpa [cells3, cells9s] using hg 3 _ rfl
      have g4 : DataW.trod enc Try.prog w base spare held n 3 [c4] = some y4 := by simpa [cells3, cells9s] using hg 4 _ rfl
      have g5 : DataW.trod enc Try.prog w base spare held n 3 [c5] = some y5 := by simpa [cells3, cells9s] using hg 5 _ rfl
      have g6 : DataW.trod enc Try.prog w base spare held n 3 [c6] = some y6 := by simpa [cells3, cells9s] using hg 6 _ rfl
      have g7 : DataW.trod enc Try.prog w base spare held n 3 [c7] = some y7 := by simpa [cells3, cells9s] using hg 7 _ rfl
      have g8 : DataW.trod enc Try.prog w base spare held n 3 [c8] = some y8 := by simpa [cells3, cells9s] using hg 8 _ rfl
      have g9 : DataW.trod enc Try.prog w base spare held n 9 [c9] = some y9 := by simpa [cells3, cells9s] using hg 9 _ rfl
      obtain ⟨n0, e0, _, w0⟩ := DataW.trod_int Try.underlying3 g0
      obtain ⟨n1, e1, _, w1⟩ := DataW.trod_int Try.underlying3 g1
      obtain ⟨n2, e2, _, w2⟩ := DataW.trod_int Try.underlying3 g2
      obtain ⟨n3, e3, _, w3⟩ := DataW.trod_int Try.underlying3 g3
      obtain ⟨n4, e4, _, w4⟩ := DataW.trod_int Try.underlying3 g4
      obtain ⟨n5, e5, _, w5⟩ := DataW.trod_int Try.underlying3 g5
      obtain ⟨n6, e6, _, w6⟩ := DataW.trod_int Try.underlying3 g6
      obtain ⟨n7, e7, _, w7⟩ := DataW.trod_int Try.underlying3 g7
      obtain ⟨n8, e8, _, w8⟩ := DataW.trod_int Try.underlying3 g8
      obtain ⟨s9, e9, _, w9⟩ := DataW.trod_string Try.underlying9 g9
      obtain rfl := (List.cons.inj e0).1
      obtain rfl := (List.cons.inj e1).1
      obtain rfl := (List.cons.inj e2).1
      obtain rfl := (List.cons.inj e3).1
      obtain rfl := (List.cons.inj e4).1
      obtain rfl := (List.cons.inj e5).1
      obtain rfl := (List.cons.inj e6).1
      obtain rfl := (List.cons.inj e7).1
      obtain rfl := (List.cons.inj e8).1
      obtain rfl := (List.cons.inj e9).1
      exact ⟨⟨n0, n1, n2, n3, n4, n5, n6, n7, n8, s9⟩, rfl, ⟨⟨wf_i64 w0, wf_i64 w1, wf_i64 w2, wf_i64 w3, wf_i64 w4, wf_i64 w5, wf_i64 w6, wf_i64 w7, wf_i64 w8⟩, w9⟩⟩
end
instance opInh : Inhabited OpN := ⟨⟨0, 0, 0, 0, 0, 0, 0, 0, 0, ⟨#[]⟩⟩⟩
/-- A row of operations, as it is read. -/
def Ops (w : World) (a : Option Addr) (n : Nat) (f : Nat → OpN) : Prop := ∀ i, i < n → ∃ b off, a = some ⟨b, off, none⟩ ∧ (∀ j v, (opC (f i))[j]? = some v → w.cell? ⟨b, off + i * 10 + j, none⟩ = some v) ∧ OpIs (f i)
theorem Ops.keep {w w' : World} {a : Option Addr} {n : Nat} {f : Nat → OpN} (h : Ops w a n f) (k : Below w.heap.size w w') : Ops w' a n f := fun i hi => by
  obtain ⟨b, off, e, c, z⟩ := h i hi
  exact ⟨b, off, e, fun j v hj => (k.cell (p := ⟨b, off + i * 10 + j, none⟩) (World.block_lt_of_cell? w _ (c j v hj))).trans (c j v hj), z⟩
theorem Ops.at {w : World} {a : Option Addr} {n : Nat} {f : Nat → OpN} (h : Ops w a n f) (i : Nat) (hi : i < n) : ∃ b off, a = some ⟨b, off, none⟩ ∧ OpIs (f i) ∧
    w.cell? ⟨b, off + i * 10, none⟩ = some (.int .i64 (f i).kind) ∧ w.cell? ⟨b, off + i * 10 + 1, none⟩ = some (.int .i64 (f i).client) ∧ w.cell? ⟨b, off + i * 10 + 2, none⟩ = some (.int .i64 (f i).req) ∧ w.cell? ⟨b, off + i * 10 + 3, none⟩ = some (.int .i64 (f i).id) ∧ w.cell? ⟨b, off + i * 10 + 4, none⟩ = some (.int .i64 (f i).gen) ∧
    w.cell? ⟨b, off + i * 10 + 5, none⟩ = some (.int .i64 (f i).occ) ∧ w.cell? ⟨b, off + i * 10 + 6, none⟩ = some (.int .i64 (f i).due) ∧ w.cell? ⟨b, off + i * 10 + 7, none⟩ = some (.int .i64 (f i).stamp) ∧ w.cell? ⟨b, off + i * 10 + 8, none⟩ = some (.int .i64 (f i).epoch) ∧ w.cell? ⟨b, off + i * 10 + 9, none⟩ = some (.string (f i).cron) := by
  obtain ⟨b, off, e, c, z⟩ := h i hi
  exact ⟨b, off, e, z, c 0 _ rfl, c 1 _ rfl, c 2 _ rfl, c 3 _ rfl, c 4 _ rfl, c 5 _ rfl, c 6 _ rfl, c 7 _ rfl, c 8 _ rfl, c 9 _ rfl⟩
theorem ops_of {H : Type} {enc : TypeId × Value → H} {W : World} {fuel : Nat} {a : Option Addr} {len cap : Nat} {x : DataW H × List MemPlace}
    (h : DataW.trod enc Try.prog W 0 (fun _ => true) true fuel 35 (Value.cells (.slice a len cap)).toList = some x) : ∃ f, Ops W a len f ∧ len ≤ 9223372036854775807 := by
  rcases open_slice Try.underlying35 h with ⟨hcs, _⟩ | ⟨y, l, c, m, n, D, Pl, hcs, _, hl, hm, hmm, _, hx⟩
  · simp [Value.cells] at hcs
    obtain ⟨_, e, _⟩ := hcs
    exact ⟨fun _ => ⟨0, 0, 0, 0, 0, 0, 0, 0, 0, ⟨#[]⟩⟩, fun i hi => by omega, by omega⟩
  · simp [Value.cells] at hcs
    obtain ⟨rfl, rfl, rfl⟩ := hcs
    have hmm : m = cap := by simpa using hmm
    subst hmm
    have each : ∀ i, i < m → ∃ o : OpN, (∀ j v, (opC o)[j]? = some v → W.cell? (y.add (i * 10 + j)) = some v) ∧ OpIs o := by
      intro i hi
      obtain ⟨cs', h1, h2⟩ := hx i hi
      rw [cells30] at h1
      obtain ⟨_, hlen, hcell⟩ := World.cells?_some h1
      obtain ⟨o, rfl, ho⟩ := op_of_cells hlen h2
      refine ⟨o, fun j v hj => ?_, ho⟩
      have hj' : j < 10 := by
        rcases Nat.lt_or_ge j 10 with g | g
        · exact g
        · rw [Array.getElem?_eq_none (by simpa using g)] at hj; cases hj
      have := hcell j hj'
      rw [add_add] at this
      rw [this]
      rw [← Array.getElem?_toList] at hj
      exact hj
    obtain ⟨q, hq⟩ := choose_lt each
    refine ⟨q, fun i hi => ?_, by unfold maxLen at hm; omega⟩
    obtain ⟨c, z⟩ := hq i (by omega)
    obtain ⟨b, off, spot⟩ := y
    have hspot : spot = none := by
      have h0 := (hq 0 (by omega)).1 0 _ rfl
      exact by simpa [Addr.add] using World.cell?_spot h0
    subst hspot
    refine ⟨b, off, rfl, fun j v hj => ?_, z⟩
    have := c j v hj
    rw [Addr.add_lit] at this
    rw [Nat.add_assoc]
    exact this
end Go.Proofs.Ytaemoojhmknicaa
