/-
  StatePlays: in every order of operations each is answered, and does, what the document says. No condition but what the card lists.
-/
import Derived.Test.YtiidhcpflplpiaaGreatDoorSD
import Derived.Test.YtiidhcpflplpiaaGreatDoorNAwake
import Derived.Test.YtiidhcpflplpiaaGreatDoorNRNext
import Derived.Test.YtiidhcpflplpiaaGreatDoorCards
import Derived.Test.YtiidhcpflplpiaaGreatDoorTie
import Derived.Deep.DeepHandedRow
import Derived.Lib.LaidU8
import Derived.Lib.SmallJoins
import Derived.Shelf.Vars
import Derived.Lay
import Derived.MakeChecks
import Derived.WalkKit
import Derived.ProofKit
import Derived.OpenShut
import Derived.ShutString
import Derived.ChangeSlices
import Derived.Deep.RegionHeld3
import Derived.Test.YtiidhcpflplpiaaGreatDoorRef
import Derived.Deep.DeepCutAuto
/-
  What every statement of layer 5 shares: from what the row lists to the tables' cells, a world that holds all that it lists (the witness), and a spec that is handed in.
-/
set_option linter.unusedVariables false
namespace Go.Proofs.YtiidhcpflplpiaaGreatDoor
open Go.ChangeShapes Go.WideShapes Go.ChangeAt Go.RowKit Go.Joins Go.Deep Crn

theorem ownKb : ownKnob Tryz.prog.godebug = none := by kernel_rfl
theorem gTab : Tryz.prog.globalNamed "tompion/cron.spans" = some 0 := by kernel_rfl
theorem gTabType : (Tryz.prog.globals[0]?).map (·.type) = some 188 := by kernel_rfl
theorem cells3 : Tryz.prog.cellsOf 3 = 1 := by kernel_rfl
theorem cells52 : Tryz.prog.cellsOf 179 = 2 := by kernel_rfl
theorem cells23 : Tryz.prog.cellsOf 62 = 1 := by kernel_rfl
theorem cells4 : Tryz.prog.cellsOf 4 = 1 := by kernel_rfl
theorem cells25 : Tryz.prog.cellsOf 64 = 8 := by kernel_rfl

theorem spans_data : ∀ i, i < 5 → ([.agg [.lit (.int .i64 0), .lit (.int .i64 59)], .agg [.lit (.int .i64 0), .lit (.int .i64 23)], .agg [.lit (.int .i64 1), .lit (.int .i64 31)], .agg [.lit (.int .i64 1), .lit (.int .i64 12)], .agg [.lit (.int .i64 0), .lit (.int .i64 6)]] : List (DataW Unit))[i]? = some (.agg (([(low i : Int), (top i : Int)] : List Int).map fun z => .lit (.int .i64 z))) := by
  intro i hi
  match i, hi with
  | 0, _ => rfl
  | 1, _ => rfl
  | 2, _ => rfl
  | 3, _ => rfl
  | 4, _ => rfl

/-- What the rows list gives the cells of the table; what the form says of every variable gives the library's number. -/
theorem table {W : World} (h : laidMetH Tryz.prog Rows.statePlaysRow.laid W) (hs : W.ShapedOpen Tryz.prog) : Tab W := by
  rw [MakeChecks.laidMetH_plain _ _ _ (by kernel_rfl)] at h
  obtain ⟨g, t, cs, fuel, p, hg, hty, hvar, hd⟩ := Lib.laidMet.reads h (n := "tompion/cron.spans") (d := Rows.laid_tompion_cron_spans) (by
    unfold Rows.statePlaysRow
    exact .tail _ (.tail _ (.tail _ (.head _))))
  obtain rfl := Option.some.inj (gTab.symm.trans hg)
  obtain rfl := Option.some.inj (gTabType.symm.trans hty)
  obtain ⟨m, hm⟩ := Go.Proofs.cell_of_shapedOpen_int (g := 3) (t := 3) (zero := #[.int .i64 0]) (k := .i64) hs (of_decide_eq_true (by kernel_rfl)) (by kernel_rfl) rfl (by kernel_rfl) (by kernel_rfl) Tryz.underlying3
  refine ⟨fun i hi => ?_, ⟨m, hm⟩, ?_⟩
  · obtain ⟨fuel', d, q, hdi, he⟩ := Lib.array_elem Tryz.underlying188 hd i hi
    obtain rfl := Option.some.inj ((spans_data i hi).symm.trans hdi)
    rw [cells52] at he
    have hcs := Lib.ints_of_struct Tryz.underlying179 (fun j f hj => by
      match j, hj with
      | 0, hj => simp at hj; subst hj; exact ⟨Tryz.underlying3, rfl, cells3⟩
      | 1, hj => simp at hj; subst hj; exact ⟨Tryz.underlying3, rfl, cells3⟩
      | j + 2, hj => simp at hj) (by rw [cells52]; rfl) he
    have e0 := congrArg (·[0]?) hcs
    have e1 := congrArg (·[1]?) hcs
    simp only [List.getElem?_take, List.getElem?_drop] at e0 e1
    constructor
    · rw [World.var?_cell hg hvar (2 * i), ← Array.getElem?_toList]
      simpa [Nat.mul_comm] using e0
    · rw [World.var?_cell hg hvar (2 * i + 1), ← Array.getElem?_toList]
      simpa [Nat.mul_comm] using e1
  · have hm1 : 3 < W.heap.size := World.block_lt_of_cell? W _ hm
    omega
theorem gCiv : Tryz.prog.globalNamed "tompion/civil.ahead" = some 2 := by kernel_rfl
theorem gCivType : (Tryz.prog.globals[2]?).map (·.type) = some 228 := by kernel_rfl
theorem gBru : Tryz.prog.globalNamed "math/bits.deBruijn64tab" = some 1 := by kernel_rfl
theorem gBruType : (Tryz.prog.globals[1]?).map (·.type) = some 227 := by kernel_rfl
theorem cellsU8 : Tryz.prog.cellsOf 5 = 1 := by kernel_rfl
theorem civ_data : ∀ i, i < 13 → ([.lit (.int .i64 0), .lit (.int .i64 31), .lit (.int .i64 59), .lit (.int .i64 90), .lit (.int .i64 120), .lit (.int .i64 151), .lit (.int .i64 181), .lit (.int .i64 212), .lit (.int .i64 243), .lit (.int .i64 273), .lit (.int .i64 304), .lit (.int .i64 334), .lit (.int .i64 365)] : List (DataW Unit))[i]? = some (.lit (.int .i64 (Civ.tab.getD i 0 : Nat))) := by
  intro i hi
  have h : i = 0 ∨ i = 1 ∨ i = 2 ∨ i = 3 ∨ i = 4 ∨ i = 5 ∨ i = 6 ∨ i = 7 ∨ i = 8 ∨ i = 9 ∨ i = 10 ∨ i = 11 ∨ i = 12 := by omega
  rcases h with rfl | rfl | rfl | rfl | rfl | rfl | rfl | rfl | rfl | rfl | rfl | rfl | rfl <;> rfl
def bruD : List (DataW Unit) := Lib.deBruijn64tab.map fun n => .lit (.int .u8 (n : Nat))
theorem bru_agg : (Rows.laid_math_bits_deBruijn64tab : DataW Unit) = .agg bruD := by rfl
theorem bru_data (i : Nat) (hi : i < 64) : bruD[i]? = some (.lit (.int .u8 (Lib.deBruijn64tab.getD i 0 : Nat))) := by
  have hl : Lib.deBruijn64tab.length = 64 := by decide
  unfold bruD
  rw [List.getElem?_map, List.getElem?_eq_getElem (by omega), List.getD_eq_getElem?_getD, List.getElem?_eq_getElem (by omega)]
  rfl
/-- .. and those of civil and math/bits. -/
theorem tables {W : World} (h : laidMetH Tryz.prog Rows.statePlaysRow.laid W) (hs : W.ShapedOpen Tryz.prog) : NTab W := by
  rw [MakeChecks.laidMetH_plain _ _ _ (by kernel_rfl)] at h
  have hciv : V.Tab W := by
    obtain ⟨g, t, cs, fuel, p, hg, hty, hvar, hd⟩ := Lib.laidMet.reads h (n := "tompion/civil.ahead") (d := Rows.laid_tompion_civil_ahead) (by
      unfold Rows.statePlaysRow
      exact .tail _ (.head _))
    obtain rfl := Option.some.inj (gCiv.symm.trans hg)
    obtain rfl := Option.some.inj (gCivType.symm.trans hty)
    intro i hi
    obtain ⟨fuel', d, q, hdi, he⟩ := Lib.array_elem Tryz.underlying228 hd i hi
    obtain rfl := Option.some.inj ((civ_data i hi).symm.trans hdi)
    rw [cells3] at he
    obtain ⟨n, e0, e1, _⟩ := DataW.trod_int Tryz.underlying3 he
    rw [World.var?_cell hg hvar i, ← Array.getElem?_toList]
    have e2 := congrArg (·[0]?) e0
    simp only [List.getElem?_take, List.getElem?_drop] at e2
    have e3 : n = ((Civ.tab.getD i 0 : Nat) : Int) := by
      have g := e1.symm
      simp at g
      simpa using g.1
    subst e3
    simpa using e2
  have hbru : Bru W := by
    obtain ⟨g, t, cs, fuel, p, hg, hty, hvar, hd⟩ := Lib.laidMet.reads h (n := "math/bits.deBruijn64tab") (d := Rows.laid_math_bits_deBruijn64tab) (by
      unfold Rows.statePlaysRow
      exact .head _)
    obtain rfl := Option.some.inj (gBru.symm.trans hg)
    obtain rfl := Option.some.inj (gBruType.symm.trans hty)
    rw [bru_agg] at hd
    intro i hi
    obtain ⟨fuel', d, q, hdi, he⟩ := Lib.array_elem Tryz.underlying227 hd i hi
    obtain rfl := Option.some.inj ((bru_data i hi).symm.trans hdi)
    rw [cellsU8] at he
    obtain ⟨n, e0, e1, _⟩ := DataW.trod_int Tryz.underlying5 he
    rw [World.var?_cell hg hvar i, ← Array.getElem?_toList]
    have e2 := congrArg (·[0]?) e0
    simp only [List.getElem?_take, List.getElem?_drop] at e2
    have e3 : n = ((Lib.deBruijn64tab.getD i 0 : Nat) : Int) := by
      have g := e1.symm
      simp at g
      simpa using g.1
    subst e3
    simpa using e2
  refine ⟨hciv, hbru, ?_⟩
  have h1 := World.block_lt_of_cell? W _ (hciv 0 (by omega))
  have h2 := World.block_lt_of_cell? W _ (hbru 0 (by omega))
  have h1' : 2 < W.heap.size := h1
  have h2' : 1 < W.heap.size := h2
  omega

/-- The settled world, each listed variable holding what the row lists. -/
noncomputable def laidWorld (os : Os) : World := World.laidAll Tryz.prog os Rows.statePlaysRow.laid
theorem laid_met (os : Os) (args : Array Value) : laidMet Tryz.prog Rows.statePlaysRow.laid ((laidWorld os).forCall (fun _ _ => 0) ⟨#[], args, []⟩).memory :=
  laidMet_laidAll _ (by kernel_rfl) (by kernel_rfl)

/-- A spec as it is read. -/
def specD {H : Type} (x : SpecN) : DataW H := .agg [.lit (.int .u64 (x.min : Nat)), .lit (.int .u64 (x.hour : Nat)), .lit (.int .u64 (x.dom : Nat)), .lit (.int .u64 (x.mon : Nat)), .lit (.int .u64 (x.dow : Nat)), .lit (.bool x.anyDom), .lit (.bool x.anyDow), .lit (.int .i64 x.ahead)]

theorem wf_u64 {n : Int} (h : (Lit.int .u64 n).wf = true) : ∃ m : Nat, n = (m : Int) ∧ m < 18446744073709551616 := by
  have : 0 ≤ n ∧ n ≤ 18446744073709551615 := by simpa [Lit.wf, IntKind.min, IntKind.max, IntKind.signed, IntKind.bits] using h
  exact ⟨n.toNat, by omega, by omega⟩
theorem u64_wf {m : Nat} (h : m < 18446744073709551616) : (Lit.int .u64 (m : Int)).wf = true := by
  simp [Lit.wf, IntKind.min, IntKind.max, IntKind.signed, IntKind.bits]
  omega
theorem wf_i64 {n : Int} (h : (Lit.int .i64 n).wf = true) : -9223372036854775808 ≤ n ∧ n ≤ 9223372036854775807 := by
  simpa [Lit.wf, IntKind.min, IntKind.max, IntKind.signed, IntKind.bits] using h
theorem i64_wf {n : Int} (h1 : -9223372036854775808 ≤ n) (h2 : n ≤ 9223372036854775807) : (Lit.int .i64 n).wf = true := by
  simp [Lit.wf, IntKind.min, IntKind.max, IntKind.signed, IntKind.bits]
  omega

section
variable {H : Type} {enc : TypeId × Value → H} {w : World} {base : Nat} {spare : Nat → Bool} {held : Bool}
set_option maxRecDepth 100000 in
theorem open_spec {r : Reach} {b0 : Nat} {v : Value} {d : DataW H} {p : List MemPlace} (hv : Value.okWide Tryz.prog w r b0 64 v) (h : DataW.Trod enc Tryz.prog w base spare held 64 v d p) :
    ∃ x : SpecN, v = specV x ∧ d = specD x ∧ p = [] ∧ Fits x := by
  obtain ⟨cs, rfl, hsz⟩ := okWide_struct Tryz.underlying64 hv
  obtain ⟨l⟩ := cs
  match l, hsz.trans cells25 with
  | [c0, c1, c2, c3, c4, c5, c6, c7], _ =>
    obtain ⟨fuel, hf⟩ := h
    obtain ⟨xs, n, _, hx, _, hlen, hg⟩ := DataW.trod_struct Tryz.underlying64 hf
    match xs, hlen with
    | [y0, y1, y2, y3, y4, y5, y6, y7], _ =>
      simp only [Prod.mk.injEq] at hx
      have g0 : DataW.trod enc Tryz.prog w base spare held n 62 [c0] = some y0 := by simpa [Value.cells, cells23] using hg 0 _ rfl
      have g1 : DataW.trod enc Tryz.prog w base spare held n 62 [c1] = some y1 := by simpa [Value.cells, cells23] using hg 1 _ rfl
      have g2 : DataW.trod enc Tryz.prog w base spare held n 62 [c2] = some y2 := by simpa [Value.cells, cells23] using hg 2 _ rfl
      have g3 : DataW.trod enc Tryz.prog w base spare held n 62 [c3] = some y3 := by simpa [Value.cells, cells23] using hg 3 _ rfl
      have g4 : DataW.trod enc Tryz.prog w base spare held n 62 [c4] = some y4 := by simpa [Value.cells, cells23] using hg 4 _ rfl
      have g5 : DataW.trod enc Tryz.prog w base spare held n 4 [c5] = some y5 := by simpa [Value.cells, cells4] using hg 5 _ rfl
      have g6 : DataW.trod enc Tryz.prog w base spare held n 4 [c6] = some y6 := by simpa [Value.cells, cells4] using hg 6 _ rfl
      have g7 : DataW.trod enc Tryz.prog w base spare held n 3 [c7] = some y7 := by simpa [Value.cells, cells3] using hg 7 _ rfl
      obtain ⟨n0, e0, rfl, w0⟩ := DataW.trod_int Tryz.underlying62 g0
      obtain ⟨m0, rfl, l0⟩ := wf_u64 w0
      obtain ⟨n1, e1, rfl, w1⟩ := DataW.trod_int Tryz.underlying62 g1
      obtain ⟨m1, rfl, l1⟩ := wf_u64 w1
      obtain ⟨n2, e2, rfl, w2⟩ := DataW.trod_int Tryz.underlying62 g2
      obtain ⟨m2, rfl, l2⟩ := wf_u64 w2
      obtain ⟨n3, e3, rfl, w3⟩ := DataW.trod_int Tryz.underlying62 g3
      obtain ⟨m3, rfl, l3⟩ := wf_u64 w3
      obtain ⟨n4, e4, rfl, w4⟩ := DataW.trod_int Tryz.underlying62 g4
      obtain ⟨m4, rfl, l4⟩ := wf_u64 w4
      obtain ⟨b5, e5, rfl⟩ := DataW.trod_bool Tryz.underlying4 g5
      obtain ⟨b6, e6, rfl⟩ := DataW.trod_bool Tryz.underlying4 g6
      obtain ⟨n7, e7, rfl, w7⟩ := DataW.trod_int Tryz.underlying3 g7
      obtain ⟨a1, a2⟩ := wf_i64 w7
      obtain rfl := (List.cons.inj e0).1
      obtain rfl := (List.cons.inj e1).1
      obtain rfl := (List.cons.inj e2).1
      obtain rfl := (List.cons.inj e3).1
      obtain rfl := (List.cons.inj e4).1
      obtain rfl := (List.cons.inj e5).1
      obtain rfl := (List.cons.inj e6).1
      obtain rfl := (List.cons.inj e7).1
      exact ⟨⟨m0, m1, m2, m3, m4, b5, b6, n7⟩, rfl, by simpa [specD] using hx.1, by simpa using hx.2, ⟨l0, l1, l2, l3, l4, a1, a2⟩⟩
set_option maxRecDepth 100000 in
theorem shut_spec {x : SpecN} (hx : Fits x) : DataW.Trod enc Tryz.prog w base spare held 64 (specV x) (specD x) [] := by
  obtain ⟨n0, t0⟩ := field_of_Trod (shut_int (enc := enc) (w := w) (base := base) (spare := spare) (held := held) Tryz.underlying62 (u64_wf hx.min)) rfl
  obtain ⟨n1, t1⟩ := field_of_Trod (shut_int (enc := enc) (w := w) (base := base) (spare := spare) (held := held) Tryz.underlying62 (u64_wf hx.hour)) rfl
  obtain ⟨n2, t2⟩ := field_of_Trod (shut_int (enc := enc) (w := w) (base := base) (spare := spare) (held := held) Tryz.underlying62 (u64_wf hx.dom)) rfl
  obtain ⟨n3, t3⟩ := field_of_Trod (shut_int (enc := enc) (w := w) (base := base) (spare := spare) (held := held) Tryz.underlying62 (u64_wf hx.mon)) rfl
  obtain ⟨n4, t4⟩ := field_of_Trod (shut_int (enc := enc) (w := w) (base := base) (spare := spare) (held := held) Tryz.underlying62 (u64_wf hx.dow)) rfl
  obtain ⟨n5, t5⟩ := field_of_Trod (shut_bool (enc := enc) (w := w) (base := base) (spare := spare) (held := held) Tryz.underlying4 x.anyDom) rfl
  obtain ⟨n6, t6⟩ := field_of_Trod (shut_bool (enc := enc) (w := w) (base := base) (spare := spare) (held := held) Tryz.underlying4 x.anyDow) rfl
  obtain ⟨n7, t7⟩ := field_of_Trod (shut_int (enc := enc) (w := w) (base := base) (spare := spare) (held := held) Tryz.underlying3 (i64_wf hx.a1 hx.a2)) rfl
  replace t0 := DataW.trod_le (show n0 ≤ n0 + n1 + n2 + n3 + n4 + n5 + n6 + n7 by omega) t0
  replace t1 := DataW.trod_le (show n1 ≤ n0 + n1 + n2 + n3 + n4 + n5 + n6 + n7 by omega) t1
  replace t2 := DataW.trod_le (show n2 ≤ n0 + n1 + n2 + n3 + n4 + n5 + n6 + n7 by omega) t2
  replace t3 := DataW.trod_le (show n3 ≤ n0 + n1 + n2 + n3 + n4 + n5 + n6 + n7 by omega) t3
  replace t4 := DataW.trod_le (show n4 ≤ n0 + n1 + n2 + n3 + n4 + n5 + n6 + n7 by omega) t4
  replace t5 := DataW.trod_le (show n5 ≤ n0 + n1 + n2 + n3 + n4 + n5 + n6 + n7 by omega) t5
  replace t6 := DataW.trod_le (show n6 ≤ n0 + n1 + n2 + n3 + n4 + n5 + n6 + n7 by omega) t6
  replace t7 := DataW.trod_le (show n7 ≤ n0 + n1 + n2 + n3 + n4 + n5 + n6 + n7 by omega) t7
  have ts := trod_struct_mk (enc := enc) (w := w) (base := base) (spare := spare) (held := held) (n := n0 + n1 + n2 + n3 + n4 + n5 + n6 + n7) (cs := (cellsN x).toList) (xs := [(.lit (.int .u64 (x.min : Nat)), []), (.lit (.int .u64 (x.hour : Nat)), []), (.lit (.int .u64 (x.dom : Nat)), []), (.lit (.int .u64 (x.mon : Nat)), []), (.lit (.int .u64 (x.dow : Nat)), []), (.lit (.bool x.anyDom), []), (.lit (.bool x.anyDow), []), (.lit (.int .i64 x.ahead), [])]) Tryz.underlying64 (by rw [cells25]; rfl) (by
    simp [cellsN, cells23, cells4, cells3, t0, t1, t2, t3, t4, t5, t6, t7])
  exact ⟨_, by simpa [specV, Value.cells, specD] using ts⟩
end
end Go.Proofs.YtiidhcpflplpiaaGreatDoor

/-
  Layer 8: an operation that is handed in, opened and shut again.
-/
set_option linter.unusedVariables false
namespace Go.Proofs.YtiidhcpflplpiaaGreatDoor
open Go.ChangeShapes Go.WideShapes Go.ChangeAt Go.RowKit Go.Joins Go.Deep Crn Ste
theorem cells30 : Tryz.prog.cellsOf 30 = 10 := by kernel_rfl
theorem cells9s : Tryz.prog.cellsOf 9 = 1 := by kernel_rfl
/-- An operation's numbers are int's, and its text is no longer than a text may be in memory. -/
structure OpIs (o : OpN) : Prop where
  kind : i64 o.kind
  client : i64 o.client
  req : i64 o.req
  id : i64 o.id
  gen : i64 o.gen
  occ : i64 o.occ
  due : i64 o.due
  stamp : i64 o.stamp
  epoch : i64 o.epoch
  cron : o.cron.size ≤ maxLen
def opD {H : Type} (o : OpN) : DataW H := .agg [.lit (.int .i64 o.kind), .lit (.int .i64 o.client), .lit (.int .i64 o.req), .lit (.int .i64 o.id), .lit (.int .i64 o.gen), .lit (.int .i64 o.occ), .lit (.int .i64 o.due), .lit (.int .i64 o.stamp), .lit (.int .i64 o.epoch), .lit (.string o.cron.data.toList)]
section
variable {H : Type} {enc : TypeId × Value → H} {w : World} {base : Nat} {spare : Nat → Bool} {held : Bool}
set_option maxRecDepth 100000 in
theorem open_op {r : Reach} {b0 : Nat} {v : Value} {d : DataW H} {p : List MemPlace} (hv : Value.okWide Tryz.prog w r b0 30 v) (h : DataW.Trod enc Tryz.prog w base spare held 30 v d p) :
    ∃ o : OpN, v = opV o ∧ d = opD o ∧ p = [] ∧ OpIs o := by
  obtain ⟨cs, rfl, hsz⟩ := okWide_struct Tryz.underlying30 hv
  obtain ⟨l⟩ := cs
  match l, hsz.trans cells30 with
  | [c0, c1, c2, c3, c4, c5, c6, c7, c8, c9], _ =>
    obtain ⟨fuel, hf⟩ := h
    obtain ⟨xs, n, _, hx, _, hlen, hg⟩ := DataW.trod_struct Tryz.underlying30 hf
    match xs, hlen with
    | [y0, y1, y2, y3, y4, y5, y6, y7, y8, y9], _ =>
      simp only [Prod.mk.injEq] at hx
      have g0 : DataW.trod enc Tryz.prog w base spare held n 3 [c0] = some y0 := by simpa [Value.cells, cells3, cells9s] using hg 0 _ rfl
      have g1 : DataW.trod enc Tryz.prog w base spare held n 3 [c1] = some y1 := by simpa [Value.cells, cells3, cells9s] using hg 1 _ rfl
      have g2 : DataW.trod enc Tryz.prog w base spare held n 3 [c2] = some y2 := by simpa [Value.cells, cells3, cells9s] using hg 2 _ rfl
      have g3 : DataW.trod enc Tryz.prog w base spare held n 3 [c3] = some y3 := by simpa [Value.cells, cells3, cells9s] using hg 3 _ rfl
      have g4 : DataW.trod enc Tryz.prog w base spare held n 3 [c4] = some y4 := by simpa [Value.cells, cells3, cells9s] using hg 4 _ rfl
      have g5 : DataW.trod enc Tryz.prog w base spare held n 3 [c5] = some y5 := by simpa [Value.cells, cells3, cells9s] using hg 5 _ rfl
      have g6 : DataW.trod enc Tryz.prog w base spare held n 3 [c6] = some y6 := by simpa [Value.cells, cells3, cells9s] using hg 6 _ rfl
      have g7 : DataW.trod enc Tryz.prog w base spare held n 3 [c7] = some y7 := by simpa [Value.cells, cells3, cells9s] using hg 7 _ rfl
      have g8 : DataW.trod enc Tryz.prog w base spare held n 3 [c8] = some y8 := by simpa [Value.cells, cells3, cells9s] using hg 8 _ rfl
      have g9 : DataW.trod enc Tryz.prog w base spare held n 9 [c9] = some y9 := by simpa [Value.cells, cells3, cells9s] using hg 9 _ rfl
      obtain ⟨n0, e0, rfl, w0⟩ := DataW.trod_int Tryz.underlying3 g0
      obtain ⟨n1, e1, rfl, w1⟩ := DataW.trod_int Tryz.underlying3 g1
      obtain ⟨n2, e2, rfl, w2⟩ := DataW.trod_int Tryz.underlying3 g2
      obtain ⟨n3, e3, rfl, w3⟩ := DataW.trod_int Tryz.underlying3 g3
      obtain ⟨n4, e4, rfl, w4⟩ := DataW.trod_int Tryz.underlying3 g4
      obtain ⟨n5, e5, rfl, w5⟩ := DataW.trod_int Tryz.underlying3 g5
      obtain ⟨n6, e6, rfl, w6⟩ := DataW.trod_int Tryz.underlying3 g6
      obtain ⟨n7, e7, rfl, w7⟩ := DataW.trod_int Tryz.underlying3 g7
      obtain ⟨n8, e8, rfl, w8⟩ := DataW.trod_int Tryz.underlying3 g8
      obtain ⟨s9, e9, rfl, w9⟩ := DataW.trod_string Tryz.underlying9 g9
      obtain rfl := (List.cons.inj e0).1
      obtain rfl := (List.cons.inj e1).1
      obtain rfl := (List.cons.inj e2).1
      obtain rfl := (List.cons.inj e3).1
      obtain rfl := (List.cons.inj e4).1
      obtain rfl := (List.cons.inj e5).1
      obtain rfl := (List.cons.inj e6).1
      obtain rfl := (List.cons.inj e7).1
      obtain rfl := (List.cons.inj e8).1
      obtain rfl := (List.cons.inj e9).1
      exact ⟨⟨n0, n1, n2, n3, n4, n5, n6, n7, n8, s9⟩, rfl, by simpa [opD] using hx.1, by simpa using hx.2, ⟨wf_i64 w0, wf_i64 w1, wf_i64 w2, wf_i64 w3, wf_i64 w4, wf_i64 w5, wf_i64 w6, wf_i64 w7, wf_i64 w8, w9⟩⟩
set_option maxRecDepth 100000 in
theorem shut_op {o : OpN} (ho : OpIs o) : DataW.Trod enc Tryz.prog w base spare held 30 (opV o) (opD o) [] := by
  obtain ⟨n0, t0⟩ := field_of_Trod (shut_int (enc := enc) (w := w) (base := base) (spare := spare) (held := held) Tryz.underlying3 (i64_wf ho.kind.1 ho.kind.2)) rfl
  obtain ⟨n1, t1⟩ := field_of_Trod (shut_int (enc := enc) (w := w) (base := base) (spare := spare) (held := held) Tryz.underlying3 (i64_wf ho.client.1 ho.client.2)) rfl
  obtain ⟨n2, t2⟩ := field_of_Trod (shut_int (enc := enc) (w := w) (base := base) (spare := spare) (held := held) Tryz.underlying3 (i64_wf ho.req.1 ho.req.2)) rfl
  obtain ⟨n3, t3⟩ := field_of_Trod (shut_int (enc := enc) (w := w) (base := base) (spare := spare) (held := held) Tryz.underlying3 (i64_wf ho.id.1 ho.id.2)) rfl
  obtain ⟨n4, t4⟩ := field_of_Trod (shut_int (enc := enc) (w := w) (base := base) (spare := spare) (held := held) Tryz.underlying3 (i64_wf ho.gen.1 ho.gen.2)) rfl
  obtain ⟨n5, t5⟩ := field_of_Trod (shut_int (enc := enc) (w := w) (base := base) (spare := spare) (held := held) Tryz.underlying3 (i64_wf ho.occ.1 ho.occ.2)) rfl
  obtain ⟨n6, t6⟩ := field_of_Trod (shut_int (enc := enc) (w := w) (base := base) (spare := spare) (held := held) Tryz.underlying3 (i64_wf ho.due.1 ho.due.2)) rfl
  obtain ⟨n7, t7⟩ := field_of_Trod (shut_int (enc := enc) (w := w) (base := base) (spare := spare) (held := held) Tryz.underlying3 (i64_wf ho.stamp.1 ho.stamp.2)) rfl
  obtain ⟨n8, t8⟩ := field_of_Trod (shut_int (enc := enc) (w := w) (base := base) (spare := spare) (held := held) Tryz.underlying3 (i64_wf ho.epoch.1 ho.epoch.2)) rfl
  obtain ⟨n9, t9⟩ := shut_string_cell (enc := enc) (w := w) (base := base) (spare := spare) (held := held) Tryz.underlying9 ho.cron
  replace t0 := DataW.trod_le (show n0 ≤ n0 + n1 + n2 + n3 + n4 + n5 + n6 + n7 + n8 + n9 by omega) t0
  replace t1 := DataW.trod_le (show n1 ≤ n0 + n1 + n2 + n3 + n4 + n5 + n6 + n7 + n8 + n9 by omega) t1
  replace t2 := DataW.trod_le (show n2 ≤ n0 + n1 + n2 + n3 + n4 + n5 + n6 + n7 + n8 + n9 by omega) t2
  replace t3 := DataW.trod_le (show n3 ≤ n0 + n1 + n2 + n3 + n4 + n5 + n6 + n7 + n8 + n9 by omega) t3
  replace t4 := DataW.trod_le (show n4 ≤ n0 + n1 + n2 + n3 + n4 + n5 + n6 + n7 + n8 + n9 by omega) t4
  replace t5 := DataW.trod_le (show n5 ≤ n0 + n1 + n2 + n3 + n4 + n5 + n6 + n7 + n8 + n9 by omega) t5
  replace t6 := DataW.trod_le (show n6 ≤ n0 + n1 + n2 + n3 + n4 + n5 + n6 + n7 + n8 + n9 by omega) t6
  replace t7 := DataW.trod_le (show n7 ≤ n0 + n1 + n2 + n3 + n4 + n5 + n6 + n7 + n8 + n9 by omega) t7
  replace t8 := DataW.trod_le (show n8 ≤ n0 + n1 + n2 + n3 + n4 + n5 + n6 + n7 + n8 + n9 by omega) t8
  replace t9 := DataW.trod_le (show n9 ≤ n0 + n1 + n2 + n3 + n4 + n5 + n6 + n7 + n8 + n9 by omega) t9
  have ts := trod_struct_mk (enc := enc) (w := w) (base := base) (spare := spare) (held := held) (n := n0 + n1 + n2 + n3 + n4 + n5 + n6 + n7 + n8 + n9) (cs := (opC o).toList) (xs := [(.lit (.int .i64 o.kind), []), (.lit (.int .i64 o.client), []), (.lit (.int .i64 o.req), []), (.lit (.int .i64 o.id), []), (.lit (.int .i64 o.gen), []), (.lit (.int .i64 o.occ), []), (.lit (.int .i64 o.due), []), (.lit (.int .i64 o.stamp), []), (.lit (.int .i64 o.epoch), []), (.lit (.string o.cron.data.toList), [])]) Tryz.underlying30 (by rw [cells30]; rfl) (
    by simp [cells3, cells9s, t0, t1, t2, t3, t4, t5, t6, t7, t8, t9])
  exact ⟨_, by simpa [opV, Value.cells, opD] using ts⟩
end
end Go.Proofs.YtiidhcpflplpiaaGreatDoor

/-
  Layer 8: a row of operations that came in, opened; and whether all of them may be played (the document's Few).
-/
set_option linter.unusedVariables false
namespace Go.Proofs.YtiidhcpflplpiaaGreatDoor
open Go.ChangeShapes Go.WideShapes Go.ChangeAt Go.RowKit Go.Joins Go.Deep Crn Ste
set_option maxRecDepth 100000

theorem laidOut8 : laidOutB Tryz.prog = true := by kernel_rfl
section
variable {H : Type} {enc : TypeId × Value → H} {w : World} {base : Nat} {spare : Nat → Bool} {held : Bool}
theorem op_of_cells {m : Nat} {cs : List Value} {x : DataW H × List MemPlace} (hl : cs.length = 10) (hf : DataW.trod enc Tryz.prog w base spare held m 30 cs = some x) : ∃ o : OpN, cs = (opC o).toList ∧ OpIs o := by
  match cs, hl with
  | [c0, c1, c2, c3, c4, c5, c6, c7, c8, c9], _ =>
    obtain ⟨xs, n, _, _, _, hlen, hg⟩ := DataW.trod_struct Tryz.underlying30 hf
    match xs, hlen with
    | [y0, y1, y2, y3, y4, y5, y6, y7, y8, y9], _ =>
      have g0 : DataW.trod enc Tryz.prog w base spare held n 3 [c0] = some y0 := by simpa [cells3, cells9s] using hg 0 _ rfl
      have g1 : DataW.trod enc Tryz.prog w base spare held n 3 [c1] = some y1 := by simpa [cells3, cells9s] using hg 1 _ rfl
      have g2 : DataW.trod enc Tryz.prog w base spare held n 3 [c2] = some y2 := by simpa [cells3, cells9s] using hg 2 _ rfl
      have g3 : DataW.trod enc Tryz.prog w base spare held n 3 [c3] = some y3 := by simpa [cells3, cells9s] using hg 3 _ rfl
      have g4 : DataW.trod enc Tryz.prog w base spare held n 3 [c4] = some y4 := by simpa [cells3, cells9s] using hg 4 _ rfl
      have g5 : DataW.trod enc Tryz.prog w base spare held n 3 [c5] = some y5 := by simpa [cells3, cells9s] using hg 5 _ rfl
      have g6 : DataW.trod enc Tryz.prog w base spare held n 3 [c6] = some y6 := by simpa [cells3, cells9s] using hg 6 _ rfl
      have g7 : DataW.trod enc Tryz.prog w base spare held n 3 [c7] = some y7 := by simpa [cells3, cells9s] using hg 7 _ rfl
      have g8 : DataW.trod enc Tryz.prog w base spare held n 3 [c8] = some y8 := by simpa [cells3, cells9s] using hg 8 _ rfl
      have g9 : DataW.trod enc Tryz.prog w base spare held n 9 [c9] = some y9 := by simpa [cells3, cells9s] using hg 9 _ rfl
      obtain ⟨n0, e0, _, w0⟩ := DataW.trod_int Tryz.underlying3 g0
      obtain ⟨n1, e1, _, w1⟩ := DataW.trod_int Tryz.underlying3 g1
      obtain ⟨n2, e2, _, w2⟩ := DataW.trod_int Tryz.underlying3 g2
      obtain ⟨n3, e3, _, w3⟩ := DataW.trod_int Tryz.underlying3 g3
      obtain ⟨n4, e4, _, w4⟩ := DataW.trod_int Tryz.underlying3 g4
      obtain ⟨n5, e5, _, w5⟩ := DataW.trod_int Tryz.underlying3 g5
      obtain ⟨n6, e6, _, w6⟩ := DataW.trod_int Tryz.underlying3 g6
      obtain ⟨n7, e7, _, w7⟩ := DataW.trod_int Tryz.underlying3 g7
      obtain ⟨n8, e8, _, w8⟩ := DataW.trod_int Tryz.underlying3 g8
      obtain ⟨s9, e9, _, w9⟩ := DataW.trod_string Tryz.underlying9 g9
      obtain rfl := (List.cons.inj e0).1
      obtain rfl := (List.cons.inj e1).1
      obtain rfl := (List.cons.inj e2).1
      obtain rfl := (List.cons.inj e3).1
      obtain rfl := (List.cons.inj e4).1
      obtain rfl := (List.cons.inj e5).1
      obtain rfl := (List.cons.inj e6).1
      obtain rfl := (List.cons.inj e7).1
      obtain rfl := (List.cons.inj e8).1
      obtain rfl := (List.cons.inj e9).1
      exact ⟨⟨n0, n1, n2, n3, n4, n5, n6, n7, n8, s9⟩, rfl, ⟨wf_i64 w0, wf_i64 w1, wf_i64 w2, wf_i64 w3, wf_i64 w4, wf_i64 w5, wf_i64 w6, wf_i64 w7, wf_i64 w8, w9⟩⟩
end
instance opInh : Inhabited OpN := ⟨⟨0, 0, 0, 0, 0, 0, 0, 0, 0, ⟨#[]⟩⟩⟩
/-- A row of operations, as it is read. -/
def Ops (w : World) (a : Option Addr) (n : Nat) (f : Nat → OpN) : Prop := ∀ i, i < n → ∃ b off, a = some ⟨b, off, none⟩ ∧ (∀ j v, (opC (f i))[j]? = some v → w.cell? ⟨b, off + i * 10 + j, none⟩ = some v) ∧ OpIs (f i)
theorem Ops.keep {w w' : World} {a : Option Addr} {n : Nat} {f : Nat → OpN} (h : Ops w a n f) (k : Below w.heap.size w w') : Ops w' a n f := fun i hi => by
  obtain ⟨b, off, e, c, z⟩ := h i hi
  exact ⟨b, off, e, fun j v hj => (k.cell (p := ⟨b, off + i * 10 + j, none⟩) (World.block_lt_of_cell? w _ (c j v hj))).trans (c j v hj), z⟩
theorem Ops.at {w : World} {a : Option Addr} {n : Nat} {f : Nat → OpN} (h : Ops w a n f) (i : Nat) (hi : i < n) : ∃ b off, a = some ⟨b, off, none⟩ ∧ OpIs (f i) ∧
    w.cell? ⟨b, off + i * 10, none⟩ = some (.int .i64 (f i).kind) ∧ w.cell? ⟨b, off + i * 10 + 1, none⟩ = some (.int .i64 (f i).client) ∧ w.cell? ⟨b, off + i * 10 + 2, none⟩ = some (.int .i64 (f i).req) ∧ w.cell? ⟨b, off + i * 10 + 3, none⟩ = some (.int .i64 (f i).id) ∧ w.cell? ⟨b, off + i * 10 + 4, none⟩ = some (.int .i64 (f i).gen) ∧
    w.cell? ⟨b, off + i * 10 + 5, none⟩ = some (.int .i64 (f i).occ) ∧ w.cell? ⟨b, off + i * 10 + 6, none⟩ = some (.int .i64 (f i).due) ∧ w.cell? ⟨b, off + i * 10 + 7, none⟩ = some (.int .i64 (f i).stamp) ∧ w.cell? ⟨b, off + i * 10 + 8, none⟩ = some (.int .i64 (f i).epoch) ∧ w.cell? ⟨b, off + i * 10 + 9, none⟩ = some (.string (f i).cron) := by
  obtain ⟨b, off, e, c, z⟩ := h i hi
  exact ⟨b, off, e, z, c 0 _ rfl, c 1 _ rfl, c 2 _ rfl, c 3 _ rfl, c 4 _ rfl, c 5 _ rfl, c 6 _ rfl, c 7 _ rfl, c 8 _ rfl, c 9 _ rfl⟩
theorem ops_of {H : Type} {enc : TypeId × Value → H} {W : World} {fuel : Nat} {a : Option Addr} {len cap : Nat} {x : DataW H × List MemPlace}
    (h : DataW.trod enc Tryz.prog W 0 (fun _ => true) true fuel 22 (Value.cells (.slice a len cap)).toList = some x) : ∃ f, Ops W a len f ∧ len ≤ 9223372036854775807 := by
  rcases open_slice Tryz.underlying22 h with ⟨hcs, _⟩ | ⟨y, l, c, m, n, D, Pl, hcs, _, hl, hm, hmm, _, hx⟩
  · simp [Value.cells] at hcs
    obtain ⟨_, e, _⟩ := hcs
    exact ⟨fun _ => ⟨0, 0, 0, 0, 0, 0, 0, 0, 0, ⟨#[]⟩⟩, fun i hi => by omega, by omega⟩
  · simp [Value.cells] at hcs
    obtain ⟨rfl, rfl, rfl⟩ := hcs
    have hmm : m = cap := by simpa using hmm
    subst hmm
    have each : ∀ i, i < m → ∃ o : OpN, (∀ j v, (opC o)[j]? = some v → W.cell? (y.add (i * 10 + j)) = some v) ∧ OpIs o := by
      intro i hi
      obtain ⟨cs', h1, h2⟩ := hx i hi
      rw [cells30] at h1
      obtain ⟨_, hlen, hcell⟩ := World.cells?_some h1
      obtain ⟨o, rfl, ho⟩ := op_of_cells hlen h2
      refine ⟨o, fun j v hj => ?_, ho⟩
      have hj' : j < 10 := by
        rcases Nat.lt_or_ge j 10 with g | g
        · exact g
        · rw [Array.getElem?_eq_none (by simpa using g)] at hj; cases hj
      have := hcell j hj'
      rw [add_add] at this
      rw [this]
      rw [← Array.getElem?_toList] at hj
      exact hj
    obtain ⟨q, hq⟩ := choose_lt each
    refine ⟨q, fun i hi => ?_, by unfold maxLen at hm; omega⟩
    obtain ⟨c, z⟩ := hq i (by omega)
    obtain ⟨b, off, spot⟩ := y
    have hspot : spot = none := by
      have h0 := (hq 0 (by omega)).1 0 _ rfl
      exact by simpa [Addr.add] using World.cell?_spot h0
    subst hspot
    refine ⟨b, off, rfl, fun j v hj => ?_, z⟩
    have := c j v hj
    rw [Addr.add_lit] at this
    rw [Nat.add_assoc]
    exact this
/-- Operations that are few, and have short texts, may be played. -/
def FewP (n : Nat) (f : Nat → OpN) : Prop := n ≤ 300 ∧ ∀ i, i < n → (f i).cron.size ≤ 400
theorem FewP.ok {n : Nat} {f : Nat → OpN} (h : FewP n f) {i : Nat} (hi : i < n) (z : OpIs (f i)) : OpOk (f i) := ⟨z.kind, z.client, z.req, z.id, z.gen, z.occ, z.due, z.stamp, z.epoch, h.2 i hi⟩
end Go.Proofs.YtiidhcpflplpiaaGreatDoor

/-
  Layer 8: what the statements call besides: Few, Same, Last; a row of timers, looked at.
-/
set_option linter.unusedVariables false
namespace Go.Proofs.YtiidhcpflplpiaaGreatDoor
open Go.RowKit Crn Nxt Ste
set_option maxRecDepth 100000

def FewE (n : Nat) (f : Nat → OpN) (e : Ending) : Prop := ∃ r : Bool, e = .returned (.bool r) ∧ (r = true → FewP n f)
set_option maxHeartbeats 2000000 in
theorem few_any (w : World) (a : Option Addr) (n cap : Nat) (f : Nat → OpN) (h : Ops w a n f) (hn : n ≤ 9223372036854775807) :
    Calls Tryz.prog 10 #[.slice a n cap] w fun e w' => FewE n f e ∧ w' = w := by
  have ht := Lib.hid h.at
  replace hn := Lib.hid hn
  clear h
  go_enter Tryz.func10, Tryz.ntmps10
  go_wp2_with fail
  go_loopw [3] (fun v wr => ∃ k : Nat, v = .int .i64 k ∧ (k : Int) ≤ n ∧ Hid (∀ i, i < k → (f i).cron.size ≤ 400) ∧ wr = w) (fun v _ => ((n : Int) - intOf v).toNat)
  case atStart => exact ⟨0, rfl, by omega, fun i hi => by omega, rfl⟩
  case round =>
    obtain ⟨k, rfl, hk, hs, hw⟩ := hrel
    subst hw
    by_cases hlt : (k : Int) < n
    · obtain ⟨b, off, rfl, z, _, _, _, _, _, _, _, _, _, c9⟩ := ht.out k (by omega)
      have hw1 : IntKind.i64.wrap ((k : Int) + 1) = (k : Int) + 1 := IntWalk.i64_in _ (by have := hn.out; omega)
      have hs2 : Hid ((f k).cron.size ≤ 400 → ∀ i, i < k + 1 → (f i).cron.size ≤ 400) := fun e i hi => by
        by_cases g : i = k
        · subst g; exact e
        · exact hs.out i (by omega)
      clear z
      generalize (f k).cron = cr at *
      by_cases hc : cr.size ≤ 400
      · have hc2 : decide ((400 : Int) < (cr.size : Int)) = false := by simp; omega
        have hs3 := Lib.hid (hs2.out hc)
        clear hs2
        replace hc := Lib.hid hc
        go_wp2_with fail
        exact ⟨⟨k + 1, by go_num, by omega, hs3, by trivial⟩, by simp [intOf]; omega⟩
      · have hc2 : decide ((400 : Int) < (cr.size : Int)) = true := by simp; omega
        replace hc := Lib.hid hc
        clear hs2
        go_wp2_with fail
        go_ret
        exact ⟨⟨false, rfl, fun e => by simp at e⟩, by trivial⟩
    · have hall : Hid (n ≤ 300 → FewP n f) := fun e => ⟨e, fun i hi => hs.out i (by omega)⟩
      by_cases hl : (n : Int) ≤ 300
      · go_wp2_with fail
        go_ret
        exact ⟨⟨true, rfl, fun _ => hall.out (by omega)⟩, by trivial⟩
      · go_wp2_with fail
        go_ret
        exact ⟨⟨false, rfl, fun e => by simp at e⟩, by trivial⟩

section
variable {w w' : World} {base : Nat} {v : Value} {l : List Tm}
theorem Tms.keep (h : Tms base w v l) (k : Below w.heap.size w w') : Tms base w' v l := row_same h fun g hg => k.block g (World.ownsRow.lt h g hg).2
theorem Tms.same (h : Tms base w v l) (k : ∀ g, v.ownBlock = some g → w'.heap[g]? = w.heap[g]?) : Tms base w' v l := row_same h k
theorem Tms.form (h : Tms base w v l) : ∃ p cap, v = .slice p l.length cap ∧ (∀ i (hi : i < l.length), ∃ g, p = some ⟨g, 0, none⟩ ∧ base ≤ g ∧ g < w.heap.size ∧ w.cell? ⟨g, i * 5, none⟩ = some (.int .i64 l[i].id) ∧ w.cell? ⟨g, i * 5 + 1, none⟩ = some (.int .i64 l[i].client) ∧ w.cell? ⟨g, i * 5 + 2, none⟩ = some (.int .i64 l[i].gen) ∧ w.cell? ⟨g, i * 5 + 3, none⟩ = some (.int .i64 l[i].due) ∧ w.cell? ⟨g, i * 5 + 4, none⟩ = some (.string l[i].cron)) := by
  rcases h.2 with ⟨h1, h2⟩ | ⟨g, cap, cur, h1, hb, h3, _⟩
  · exact ⟨none, 0, by rw [h1, h2], fun i hi => by omega⟩
  · subst h1
    refine ⟨_, cap, rfl, fun i hi => ⟨g, rfl, hb, lt_in h3, ?_⟩⟩
    have hc : ∀ j u, (encT l[i])[j]? = some u → w.cell? ⟨g, i * 5 + j, none⟩ = some u := fun j u hu => by
      have hj : j < 5 := (List.getElem?_eq_some_iff.1 hu).1
      have hc := World.ownsRow.cells h (g := g) rfl (i * 5 + j) u (by rw [flatT_at l i j hi hj]; exact hu)
      rw [Addr.add_lit] at hc
      simpa using hc
    exact ⟨hc 0 _ rfl, hc 1 _ rfl, hc 2 _ rfl, hc 3 _ rfl, hc 4 _ rfl⟩
theorem tm_eq {t u : Tm} (h1 : t.id = u.id) (h2 : t.client = u.client) (h3 : t.gen = u.gen) (h4 : t.due = u.due) (h5 : t.cron = u.cron) : t = u := by
  cases t; cases u; simp_all
end
theorem take_moreT {l m : List Tm} {k : Nat} (h1 : k < l.length) (h2 : k < m.length) (h : l.take k = m.take k) (e : l[k] = m[k]) : l.take (k + 1) = m.take (k + 1) := by
  rw [← List.take_append_getElem h1, ← List.take_append_getElem h2, h, e]

set_option maxHeartbeats 4000000 in
/-- Two lists that are the same. -/
theorem same_any (w : World) (v1 v2 : Value) (l : List Tm) (b1 b2 : Nat) (h1 : Tms b1 w v1 l) (h2 : Tms b2 w v2 l) (hl : l.length ≤ 1000) :
    Calls Tryz.prog 19 #[v1, v2] w fun e w' => e = .returned (.bool true) ∧ Below w.heap.size w w' := by
  obtain ⟨p1, c1, rfl, _⟩ := h1.form
  obtain ⟨p2, c2, rfl, _⟩ := h2.form
  have hn1 : (l.length : Int) ≤ 1000000 := by omega
  replace h1 := Lib.hid h1
  replace h2 := Lib.hid h2
  have hb0 : Hid (Below w.heap.size w w) := Below.refl _ _
  go_enter Tryz.func19, Tryz.ntmps19
  go_wp2_with fail
  go_loopw [5] (fun v wr => ∃ k : Nat, v = .int .i64 k ∧ (k : Int) ≤ l.length ∧ Hid (Below w.heap.size w wr) ∧ Hid (Tms b1 wr (.slice p1 l.length c1) l) ∧ Hid (Tms b2 wr (.slice p2 l.length c2) l)) (fun v _ => ((l.length : Int) - intOf v).toNat)
  case atStart => exact ⟨0, rfl, by omega, hb0, h1, h2⟩
  case round =>
    obtain ⟨k, rfl, hk, hb, r1, r2⟩ := hrel
    clear h1 h2 hb0
    by_cases hlt : (k : Int) < l.length
    · obtain ⟨q1, d1, e1, f1⟩ := r1.out.form
      obtain ⟨q2, d2, e2, f2⟩ := r2.out.form
      injection e1 with e1 _ e3
      injection e2 with e2 _ e4
      subst e1; subst e2; subst e3; subst e4
      obtain ⟨g1, rfl, _, _, x0, x1, x2, x3, x4⟩ := f1 k (by omega)
      obtain ⟨g2, rfl, _, _, y0, y1, y2, y3, y4⟩ := f2 k (by omega)
      have hk0 : (0 : Int) ≤ (k : Int) := by omega
      clear f1 f2
      generalize l[k].id = t0 at *
      generalize l[k].client = t1 at *
      generalize l[k].gen = t2 at *
      generalize l[k].due = t3 at *
      generalize l[k].cron = t4 at *
      go_wp2_with fail
      go_quiet (fail)
      go_wp2_with fail
      exact ⟨⟨k + 1, by go_num, by omega, below_dN hb.out nq, r1.out.keep (below_dN (Below.refl _ _) nq), r2.out.keep (below_dN (Below.refl _ _) nq)⟩, by simp [intOf]; omega⟩
    · go_wp2_with fail
      go_ret
      exact ⟨rfl, hb.out⟩

set_option maxHeartbeats 2000000 in
/-- The last request of one. -/
theorem slast_any {w : World} {b : Nat} {s : St} {x : Px} {c : Nat} (h : SS w b s x c) (id : Int) (hid : i64 id) :
    Calls Tryz.prog 21 #[.pointer (some ⟨b, 0, none⟩), .int .i64 id] w fun e w' => e = .returned (.tuple #[.int .i64 (valK s.K id).req, rpV (valK s.K id).rp, .bool (hasK s.K id)]) ∧ Below w.heap.size w w' := by
  have kA : Below w.heap.size w (w.alloc (.cells #[.int .i64 0, .int .i64 0, .int .i64 0] 34)) := (Below.refl _ _).alloc (Nat.le_refl _) _
  have c4 := (h.sv.below kA).c4
  have hlk := h.sv.lookK h.kp hid (W := w.alloc (.cells #[.int .i64 0, .int .i64 0, .int .i64 0] 34)) (alloc_old (h.sv.lt x.lb (by simp [own])).1)
  clear h hid
  generalize valK s.K id = k at *
  generalize hasK s.K id = q at *
  have k2 : Hid (Below w.heap.size w ((w.alloc (.cells #[.int .i64 0, .int .i64 0, .int .i64 0] 34)).alloc (.cells #[.int .i64 k.req, .int .i64 k.rp.err, .int .i64 k.rp.gen, .int .i64 k.rp.due] 90))) := kA.alloc kA.size _
  go_enter Tryz.func21, Tryz.ntmps21
  go_wp2_with fail
  go_region
  go_wp2_with fail
  refine bodyPost_ret (v := .tuple #[.int .i64 k.req, rpV k.rp, .bool q]) ?_ rfl ?_
  · rw [results_tmp_cell_tmp rfl]
    go_simp
    try exact ⟨rfl, rfl, rfl⟩
  · exact ⟨rfl, (((Below.refl _ _).alloc (Nat.le_refl _) _).alloc (by simp) _).drew⟩
theorem Rn.last {w0 w : World} {b c : Nat} {s : St} {V : List (Nat × Obj)} (h : Rn w0 w b s c V) (id : Int) (hid : i64 id) : Calls Tryz.prog 21 #[.pointer (some ⟨b, 0, none⟩), .int .i64 id] w fun e w' => e = .returned (.tuple #[.int .i64 (valK s.K id).req, rpV (valK s.K id).rp, .bool (hasK s.K id)]) ∧ Below w.heap.size w w' := by
  obtain ⟨x, h1, h2, h3, h4⟩ := h
  exact slast_any h1 id hid
theorem Rn.gc {w0 w : World} {b c : Nat} {s : St} {V : List (Nat × Obj)} (h : Rn w0 w b s c V) : s.gens ≤ c := by
  obtain ⟨x, h1, h2, h3, h4⟩ := h
  exact h1.sv.gc
/-- A block that a call made is the caller's own from then on. -/
theorem Rn.gain {w0 w w' : World} {b c : Nat} {s : St} {V : List (Nat × Obj)} (h : Rn w0 w b s c V) (k : Below w.heap.size w w') {g : Nat} {o : Obj} (hg : w.heap.size ≤ g) (ho : w'.heap[g]? = some o) : Rn w0 w' b s c ((g, o) :: V) := by
  obtain ⟨x, h1, h2, h3, h4⟩ := h
  refine ⟨x, h1.below k, h2, h3.trans (k.mono h3.size), fun p hp => ?_⟩
  rcases List.mem_cons.1 hp with rfl | hp
  · exact ⟨ho, fun e => by have := (h1.sv.lt _ e).1; simp only at this; omega⟩
  · have h5 := (h4 p hp).1
    exact ⟨(k.block _ (Array.getElem?_eq_some_iff.1 h5).1).trans h5, (h4 p hp).2⟩
/-- .. and so is a row of timers. -/
theorem Rn.row {w0 w w' : World} {b c : Nat} {s : St} {V : List (Nat × Obj)} (h : Rn w0 w b s c V) (k : Below w.heap.size w w') {v : Value} {l : List Tm} (T : Tms w.heap.size w' v l) :
    ∃ R : List (Nat × Obj), Rn w0 w' b s c (R ++ V) ∧ ∀ W : World, (∀ p ∈ R, W.heap[p.1]? = some p.2) → Tms w.heap.size W v l := by
  cases hv : v.ownBlock with
  | none => exact ⟨[], h.below k, fun W _ => T.same fun g hg => by rw [hv] at hg; cases hg⟩
  | some g =>
    obtain ⟨cur, hc⟩ := row_at T hv
    refine ⟨[(g, .cells cur 37)], h.gain k (World.ownsRow.lt T g hv).1 hc, fun W hW => T.same fun g' hg => ?_⟩
    rw [hv] at hg
    injection hg with hg
    subst hg
    exact (hW _ (List.mem_singleton.2 rfl)).trans hc.symm
end Go.Proofs.YtiidhcpflplpiaaGreatDoor

/-
  Layer 8: the document's own service: Apply where nothing is remembered anew: refused, answered again, of another kind; and fire.
-/
set_option linter.unusedVariables false
namespace Go.Proofs.YtiidhcpflplpiaaGreatDoor
open Go.RowKit Crn Nxt Ste
set_option maxRecDepth 100000
theorem zero_fits : Fits Crn.zero := ⟨by decide, by decide, by decide, by decide, by decide, by decide, by decide⟩
theorem zero_right : right Crn.zero = false := by decide
set_option maxHeartbeats 2000000 in
/-- The first time of a text behind a second, of any text. -/
theorem rafter_all (str : ByteArray) (sec : Int) (hs : str.size ≤ 400) (h1 : i64 sec) (w : World) :
    Calls Tryz.prog 36 #[.string str, .int .i64 sec] w fun e w' => e = .returned (.int .i64 (afterN str sec)) ∧ Below w.heap.size w w' := by
  by_cases hb : badB str = false
  · exact rafter_any str sec hs h1 hb w
  have hpn : parse str.data.toList = none := by
    unfold badB at hb
    cases hp : parse str.data.toList with
    | none => rfl
    | some x => rw [hp] at hb; simp at hb
  have hA : afterN str sec = 0 := by rw [after_is, hpn]; rfl
  have cP := fun W => refParse_any str W (by omega)
  rw [hpn] at cP
  simp only [answerP, Option.getD_none, Option.isSome_none, specV, cellsN, Crn.zero] at cP
  have cX := fun W => refNext_any Crn.zero zero_fits sec h1.1 h1.2 W
  rw [nextN_bad zero_right] at cX
  simp only [specV, cellsN, answerX, Crn.zero, Option.getD_none, Option.isSome_none] at cX
  replace cP := Lib.hid cP
  replace cX := Lib.hid cX
  rw [hA]
  clear hA hb hpn hs h1
  go_enter Tryz.func36, Tryz.ntmps36
  go_wp2_with fail
  refine (cP.out _).mono ?_
  rintro e w1 ⟨rfl, k1⟩
  have k2 := Lib.hid (k1.alloc k1.size (.cells #[.int .u64 0, .int .u64 0, .int .u64 0, .int .u64 0, .int .u64 0, .bool false, .bool false, .int .i64 0] 64))
  clear k1 cP
  go_wp2_with fail
  refine (cX.out _).mono ?_
  rintro e w3 ⟨rfl, k3⟩
  have k4 := Lib.hid (k2.out.trans (k3.mono k2.out.size))
  clear k2 k3 cX
  go_wp2_with fail
  go_ret
  exact ⟨rfl, k4.out⟩
section
variable {base : Nat} {w : World} {r : Nat} {s : St} {p : Option Addr} {cap : Nat} {q : Option Addr} {cq : Nat}
set_option maxHeartbeats 8000000 in
theorem rask_old (h : Rf base w r s p cap q cq) (o : OpN) (hkind : o.kind = 1 ∨ o.kind = 2) (hp : plK o.client s.K < s.K.length) (hlt : o.req < s.K[plK o.client s.K].req) : Calls Tryz.prog 16 #[.pointer (some ⟨r, 0, none⟩), opV o] w fun e w' => e = .returned (rpV (askN s o).2) ∧ Rg base w r p q w' (askN s o).1 := by
  have k1 : Below w.heap.size w ((w.alloc (opO o)).alloc rp0) := ((Below.refl w.heap.size w).alloc (Nat.le_refl _) (opO o)).alloc (by simp) rp0
  have hbx : ((w.alloc (opO o)).alloc rp0).heap[w.heap.size]? = some (opO o) := (alloc_old (by simp)).trans (Go.heap_alloc_new w (opO o))
  have hbr : ((w.alloc (opO o)).alloc rp0).heap[w.heap.size + 1]? = some rp0 := by
    have := Go.heap_alloc_new (w.alloc (opO o)) rp0
    simpa using this
  have hlt1 : Hid (w.heap.size + 1 < ((w.alloc (opO o)).alloc rp0).heap.size) := by show _ < _; simp
  have hR1 := Lib.hid (h.below k1)
  have hlk := h.lk
  have hlT := h.lt
  have hrl := h.rlt
  have hlki : (s.K.length : Int) ≤ 1000 := by omega
  have hlTi : (s.T.length : Int) ≤ 1000 := by omega
  have ck := Lib.hid (rknown_any hR1.out o.client)
  have hA : askN s o = (s, ⟨11, 0, 0⟩) := by
    unfold askN
    rw [plK_known, List.getElem?_eq_getElem hp]
    simp only []
    rw [if_pos hlt]
  have hat : atN (plK o.client s.K) s.K.length = ((plK o.client s.K : Nat) : Int) := by unfold atN; rw [if_pos hp]
  rw [hat] at ck
  have hKat := Lib.hid (fun W (hR : Rf base W r s p cap q cq) => hR.atK (plK o.client s.K) hp)
  have hp2 : (plK o.client s.K : Int) < (s.K.length : Int) := by omega
  obtain ⟨gK, hqe⟩ : ∃ g, q = some ⟨g, 0, none⟩ := by obtain ⟨g, e, _⟩ := h.atK _ hp; exact ⟨g, e⟩
  subst hqe
  rw [hA]
  clear hA
  generalize s.K[plK o.client s.K] = kk at *
  generalize plK o.client s.K = k at *
  have hd0 : decide ((0 : Int) ≤ (k : Int)) = true := by simp
  have hd1 : decide (k < s.K.length) = true := by simpa using hp
  have hk0 : (0 : Int) ≤ (k : Int) := by omega
  obtain ⟨kc, kreq, ⟨kerr, kgen, kdue⟩⟩ := kk
  simp only [] at hlt hKat
  clear hat
  have hd3 : decide (o.req < kreq) = true := by simpa using hlt
  replace hlt := Lib.hid hlt
  have hkb : Hid ((o.kind == 1) = true ∨ ((o.kind == 1) = false ∧ (o.kind == 2) = true)) := by
    rcases hkind with e | e
    · exact .inl (by simp [e])
    · exact .inr ⟨by simp [e], by simp [e]⟩
  replace hkind := Lib.hid hkind
  obtain ⟨okind, oclient, oreq, oid, ogen, oocc, odue, ostamp, oepoch, ocron⟩ := o
  simp only [opV, opC, opO, rp0] at *
  clear k1
  have k1 : Hid (Below w.heap.size w ((w.alloc (.cells #[.int .i64 okind, .int .i64 oclient, .int .i64 oreq, .int .i64 oid, .int .i64 ogen, .int .i64 oocc, .int .i64 odue, .int .i64 ostamp, .int .i64 oepoch, .string ocron] 30)).alloc (.cells #[.int .i64 0, .int .i64 0, .int .i64 0] 34))) := ((Below.refl w.heap.size w).alloc (Nat.le_refl _) _).alloc (by simp) _
  generalize hw1 : (w.alloc (.cells #[.int .i64 okind, .int .i64 oclient, .int .i64 oreq, .int .i64 oid, .int .i64 ogen, .int .i64 oocc, .int .i64 odue, .int .i64 ostamp, .int .i64 oepoch, .string ocron] 30)).alloc (.cells #[.int .i64 0, .int .i64 0, .int .i64 0] 34) = w1 at *
  obtain ⟨z0, z1, z2, z3, z4, z5, z6, z7, z8, z9⟩ := op_cells (o := ⟨okind, oclient, oreq, oid, ogen, oocc, odue, ostamp, oepoch, ocron⟩) hbx
  simp only [] at z0 z1 z2 z3 z4 z5 z6 z7 z8 z9
  have hw1' := Lib.hid hw1
  go_enter Tryz.func16, Tryz.ntmps16
  have c3 := hR1.out.c3
  obtain ⟨_, e_, hgl, y0, y1, y2, y3, y4⟩ := hKat.out _ hR1.out
  obtain rfl : gK = _ := by injection e_ with e_; injection e_
  clear e_
  go_upto_region 1 with fail
  try rw [hw1]
  clear hw1
  rcases hkb.out with e1 | ⟨e1, e2⟩
  all_goals
    go_wp2_with fail
    refine ck.out.mono ?_
    rintro e w4 ⟨rfl, rfl⟩
    clear ck
    go_wp2_with fail
    go_quiet (fail)
    clear hw1' c3 y0 y1 y2 y3 y4 hgl
    have kA : Below w1.heap.size w1 (w1.drewN nq) := below_dN (Below.refl _ _) nq
    have hRA := Lib.hid (hR1.out.below kA)
    replace hbx := (kA.block w.heap.size (by have := hlt1.out; omega)).trans hbx
    replace hbr := (kA.block (w.heap.size + 1) hlt1.out).trans hbr
    replace k1 : Hid (Below w.heap.size w (w1.drewN nq)) := k1.out.trans (kA.mono k1.out.size)
    replace hlt1 : Hid (w.heap.size + 1 < (w1.drewN nq).heap.size) := Nat.lt_of_lt_of_le hlt1.out kA.size
    clear hR1 kA z0 z1 z2 z3 z4 z5 z6 z7 z8 z9
    generalize w1.drewN nq = w2 at *
    obtain ⟨z0, z1, z2, z3, z4, z5, z6, z7, z8, z9⟩ := op_cells (o := ⟨okind, oclient, oreq, oid, ogen, oocc, odue, ostamp, oepoch, ocron⟩) hbx
    simp only [] at z0 z1 z2 z3 z4 z5 z6 z7 z8 z9
    obtain ⟨y0', y1', y2', y3', y4', y5'⟩ := rp_cells hbr
    have hfin := Lib.hid (rg_end h (Kl.ofBelow k1.out) hRA.out (fun g hg => .inl hg) (fun g hg => .inl hg) (.int .i64 11) (.int .i64 0) (.int .i64 0))
    go_wp2_with fail
    refine bodyPost_ret (v := rpV ⟨11, 0, 0⟩) ?_ rfl ?_
    · rw [results_cellA rfl]
      go_simp
    · exact ⟨rfl, hfin.out⟩
set_option maxHeartbeats 8000000 in
theorem rask_again (h : Rf base w r s p cap q cq) (o : OpN) (hkind : o.kind = 1 ∨ o.kind = 2) (hp : plK o.client s.K < s.K.length) (hlt : s.K[plK o.client s.K].req = o.req) : Calls Tryz.prog 16 #[.pointer (some ⟨r, 0, none⟩), opV o] w fun e w' => e = .returned (rpV (askN s o).2) ∧ Rg base w r p q w' (askN s o).1 := by
  have k1 : Below w.heap.size w ((w.alloc (opO o)).alloc rp0) := ((Below.refl w.heap.size w).alloc (Nat.le_refl _) (opO o)).alloc (by simp) rp0
  have hbx : ((w.alloc (opO o)).alloc rp0).heap[w.heap.size]? = some (opO o) := (alloc_old (by simp)).trans (Go.heap_alloc_new w (opO o))
  have hbr : ((w.alloc (opO o)).alloc rp0).heap[w.heap.size + 1]? = some rp0 := by
    have := Go.heap_alloc_new (w.alloc (opO o)) rp0
    simpa using this
  have hlt1 : Hid (w.heap.size + 1 < ((w.alloc (opO o)).alloc rp0).heap.size) := by show _ < _; simp
  have hR1 := Lib.hid (h.below k1)
  have hlk := h.lk
  have hlT := h.lt
  have hrl := h.rlt
  have hlki : (s.K.length : Int) ≤ 1000 := by omega
  have hlTi : (s.T.length : Int) ≤ 1000 := by omega
  have ck := Lib.hid (rknown_any hR1.out o.client)
  have hA : askN s o = (s, s.K[plK o.client s.K].rp) := by
    unfold askN
    rw [plK_known, List.getElem?_eq_getElem hp]
    simp only []
    rw [if_neg (by omega), if_pos hlt]
  have hat : atN (plK o.client s.K) s.K.length = ((plK o.client s.K : Nat) : Int) := by unfold atN; rw [if_pos hp]
  rw [hat] at ck
  have hKat := Lib.hid (fun W (hR : Rf base W r s p cap q cq) => hR.atK (plK o.client s.K) hp)
  have hp2 : (plK o.client s.K : Int) < (s.K.length : Int) := by omega
  obtain ⟨gK, hqe⟩ : ∃ g, q = some ⟨g, 0, none⟩ := by obtain ⟨g, e, _⟩ := h.atK _ hp; exact ⟨g, e⟩
  subst hqe
  rw [hA]
  clear hA
  generalize s.K[plK o.client s.K] = kk at *
  generalize plK o.client s.K = k at *
  have hd0 : decide ((0 : Int) ≤ (k : Int)) = true := by simp
  have hd1 : decide (k < s.K.length) = true := by simpa using hp
  have hk0 : (0 : Int) ≤ (k : Int) := by omega
  obtain ⟨kc, kreq, ⟨kerr, kgen, kdue⟩⟩ := kk
  simp only [] at hlt hKat
  clear hat
  have hd3 : decide (o.req < kreq) = false := by simp; omega
  have hd4 : (kreq == o.req) = true := by simpa using hlt
  replace hlt := Lib.hid hlt
  have hkb : Hid ((o.kind == 1) = true ∨ ((o.kind == 1) = false ∧ (o.kind == 2) = true)) := by
    rcases hkind with e | e
    · exact .inl (by simp [e])
    · exact .inr ⟨by simp [e], by simp [e]⟩
  replace hkind := Lib.hid hkind
  obtain ⟨okind, oclient, oreq, oid, ogen, oocc, odue, ostamp, oepoch, ocron⟩ := o
  simp only [opV, opC, opO, rp0] at *
  clear k1
  have k1 : Hid (Below w.heap.size w ((w.alloc (.cells #[.int .i64 okind, .int .i64 oclient, .int .i64 oreq, .int .i64 oid, .int .i64 ogen, .int .i64 oocc, .int .i64 odue, .int .i64 ostamp, .int .i64 oepoch, .string ocron] 30)).alloc (.cells #[.int .i64 0, .int .i64 0, .int .i64 0] 34))) := ((Below.refl w.heap.size w).alloc (Nat.le_refl _) _).alloc (by simp) _
  generalize hw1 : (w.alloc (.cells #[.int .i64 okind, .int .i64 oclient, .int .i64 oreq, .int .i64 oid, .int .i64 ogen, .int .i64 oocc, .int .i64 odue, .int .i64 ostamp, .int .i64 oepoch, .string ocron] 30)).alloc (.cells #[.int .i64 0, .int .i64 0, .int .i64 0] 34) = w1 at *
  obtain ⟨z0, z1, z2, z3, z4, z5, z6, z7, z8, z9⟩ := op_cells (o := ⟨okind, oclient, oreq, oid, ogen, oocc, odue, ostamp, oepoch, ocron⟩) hbx
  simp only [] at z0 z1 z2 z3 z4 z5 z6 z7 z8 z9
  have hw1' := Lib.hid hw1
  go_enter Tryz.func16, Tryz.ntmps16
  have c3 := hR1.out.c3
  obtain ⟨_, e_, hgl, y0, y1, y2, y3, y4⟩ := hKat.out _ hR1.out
  obtain rfl : gK = _ := by injection e_ with e_; injection e_
  clear e_
  go_upto_region 1 with fail
  try rw [hw1]
  clear hw1
  rcases hkb.out with e1 | ⟨e1, e2⟩
  all_goals
    go_wp2_with fail
    refine ck.out.mono ?_
    rintro e w4 ⟨rfl, rfl⟩
    clear ck
    go_wp2_with fail
    go_quiet (fail)
    clear hw1' c3 y0 y1 y2 y3 y4 hgl
    have kA : Below w1.heap.size w1 (w1.drewN nq) := below_dN (Below.refl _ _) nq
    have hRA := Lib.hid (hR1.out.below kA)
    replace hbx := (kA.block w.heap.size (by have := hlt1.out; omega)).trans hbx
    replace hbr := (kA.block (w.heap.size + 1) hlt1.out).trans hbr
    replace k1 : Hid (Below w.heap.size w (w1.drewN nq)) := k1.out.trans (kA.mono k1.out.size)
    replace hlt1 : Hid (w.heap.size + 1 < (w1.drewN nq).heap.size) := Nat.lt_of_lt_of_le hlt1.out kA.size
    clear hR1 kA z0 z1 z2 z3 z4 z5 z6 z7 z8 z9
    generalize w1.drewN nq = w2 at *
    obtain ⟨z0, z1, z2, z3, z4, z5, z6, z7, z8, z9⟩ := op_cells (o := ⟨okind, oclient, oreq, oid, ogen, oocc, odue, ostamp, oepoch, ocron⟩) hbx
    simp only [] at z0 z1 z2 z3 z4 z5 z6 z7 z8 z9
    have c3 := hRA.out.c3
    obtain ⟨_, e_, hgl, y0, y1, y2, y3, y4⟩ := hKat.out _ hRA.out
    obtain rfl : gK = _ := by injection e_ with e_; injection e_
    clear e_
    go_wp2_with fail
    go_quiet (fail)
    clear c3 y0 y1 y2 y3 y4 hgl
    have kA : Below w2.heap.size w2 (w2.drewN nq) := below_dN (Below.refl _ _) nq
    have hRB := Lib.hid (hRA.out.below kA)
    replace hbx := (kA.block w.heap.size (by have := hlt1.out; omega)).trans hbx
    replace hbr := (kA.block (w.heap.size + 1) hlt1.out).trans hbr
    replace k1 : Hid (Below w.heap.size w (w2.drewN nq)) := k1.out.trans (kA.mono k1.out.size)
    replace hlt1 : Hid (w.heap.size + 1 < (w2.drewN nq).heap.size) := Nat.lt_of_lt_of_le hlt1.out kA.size
    clear hRA kA z0 z1 z2 z3 z4 z5 z6 z7 z8 z9
    generalize w2.drewN nq = w3 at *
    obtain ⟨z0, z1, z2, z3, z4, z5, z6, z7, z8, z9⟩ := op_cells (o := ⟨okind, oclient, oreq, oid, ogen, oocc, odue, ostamp, oepoch, ocron⟩) hbx
    simp only [] at z0 z1 z2 z3 z4 z5 z6 z7 z8 z9
    have c3 := hRB.out.c3
    obtain ⟨_, e_, hgl, y0, y1, y2, y3, y4⟩ := hKat.out _ hRB.out
    obtain rfl : gK = _ := by injection e_ with e_; injection e_
    clear e_
    obtain ⟨y0', y1', y2', y3', y4', y5'⟩ := rp_cells hbr
    have hfin := Lib.hid (rg_end h (Kl.ofBelow k1.out) hRB.out (fun g hg => .inl hg) (fun g hg => .inl hg) (.int .i64 kerr) (.int .i64 kgen) (.int .i64 kdue))
    go_wp2_with fail
    refine bodyPost_ret (v := rpV ⟨kerr, kgen, kdue⟩) ?_ rfl ?_
    · rw [results_cellA rfl]
      go_simp
    · exact ⟨rfl, hfin.out⟩
set_option maxHeartbeats 8000000 in
theorem rask_full (h : Rf base w r s p cap q cq) (o : OpN) (hkind : o.kind = 1 ∨ o.kind = 2) (hp : ¬ plK o.client s.K < s.K.length) (hfew : 3 ≤ s.K.length) : Calls Tryz.prog 16 #[.pointer (some ⟨r, 0, none⟩), opV o] w fun e w' => e = .returned (rpV (askN s o).2) ∧ Rg base w r p q w' (askN s o).1 := by
  have k1 : Below w.heap.size w ((w.alloc (opO o)).alloc rp0) := ((Below.refl w.heap.size w).alloc (Nat.le_refl _) (opO o)).alloc (by simp) rp0
  have hbx : ((w.alloc (opO o)).alloc rp0).heap[w.heap.size]? = some (opO o) := (alloc_old (by simp)).trans (Go.heap_alloc_new w (opO o))
  have hbr : ((w.alloc (opO o)).alloc rp0).heap[w.heap.size + 1]? = some rp0 := by
    have := Go.heap_alloc_new (w.alloc (opO o)) rp0
    simpa using this
  have hlt1 : Hid (w.heap.size + 1 < ((w.alloc (opO o)).alloc rp0).heap.size) := by show _ < _; simp
  have hR1 := Lib.hid (h.below k1)
  have hlk := h.lk
  have hlT := h.lt
  have hrl := h.rlt
  have hlki : (s.K.length : Int) ≤ 1000 := by omega
  have hlTi : (s.T.length : Int) ≤ 1000 := by omega
  have ck := Lib.hid (rknown_any hR1.out o.client)
  have hA : askN s o = (s, ⟨8, 0, 0⟩) := by
    unfold askN
    rw [plK_known, List.getElem?_eq_none (by omega)]
    simp only []
    rw [if_pos hfew]
  have hat : atN (plK o.client s.K) s.K.length = -1 := by unfold atN; rw [if_neg hp]
  rw [hat] at ck
  have hd0 : decide ((0 : Int) ≤ (-1 : Int)) = false := by simp
  have hd1 : decide (3 ≤ s.K.length) = true := by simp; omega
  have hd2 : decide ((3 : Int) ≤ (s.K.length : Int)) = true := by simp; omega
  rw [hA]
  clear hat hp hA
  replace hfew := Lib.hid hfew
  have hkb : Hid ((o.kind == 1) = true ∨ ((o.kind == 1) = false ∧ (o.kind == 2) = true)) := by
    rcases hkind with e | e
    · exact .inl (by simp [e])
    · exact .inr ⟨by simp [e], by simp [e]⟩
  replace hkind := Lib.hid hkind
  obtain ⟨okind, oclient, oreq, oid, ogen, oocc, odue, ostamp, oepoch, ocron⟩ := o
  simp only [opV, opC, opO, rp0] at *
  clear k1
  have k1 : Hid (Below w.heap.size w ((w.alloc (.cells #[.int .i64 okind, .int .i64 oclient, .int .i64 oreq, .int .i64 oid, .int .i64 ogen, .int .i64 oocc, .int .i64 odue, .int .i64 ostamp, .int .i64 oepoch, .string ocron] 30)).alloc (.cells #[.int .i64 0, .int .i64 0, .int .i64 0] 34))) := ((Below.refl w.heap.size w).alloc (Nat.le_refl _) _).alloc (by simp) _
  generalize hw1 : (w.alloc (.cells #[.int .i64 okind, .int .i64 oclient, .int .i64 oreq, .int .i64 oid, .int .i64 ogen, .int .i64 oocc, .int .i64 odue, .int .i64 ostamp, .int .i64 oepoch, .string ocron] 30)).alloc (.cells #[.int .i64 0, .int .i64 0, .int .i64 0] 34) = w1 at *
  obtain ⟨z0, z1, z2, z3, z4, z5, z6, z7, z8, z9⟩ := op_cells (o := ⟨okind, oclient, oreq, oid, ogen, oocc, odue, ostamp, oepoch, ocron⟩) hbx
  simp only [] at z0 z1 z2 z3 z4 z5 z6 z7 z8 z9
  have hw1' := Lib.hid hw1
  go_enter Tryz.func16, Tryz.ntmps16
  have c3 := hR1.out.c3
  go_upto_region 1 with fail
  try rw [hw1]
  clear hw1
  rcases hkb.out with e1 | ⟨e1, e2⟩
  all_goals
    go_wp2_with fail
    refine ck.out.mono ?_
    rintro e w4 ⟨rfl, rfl⟩
    clear ck
    go_wp2_with fail
    go_quiet (fail)
    clear hw1' c3 
    have kA : Below w1.heap.size w1 (w1.drewN nq) := below_dN (Below.refl _ _) nq
    have hRA := Lib.hid (hR1.out.below kA)
    replace hbx := (kA.block w.heap.size (by have := hlt1.out; omega)).trans hbx
    replace hbr := (kA.block (w.heap.size + 1) hlt1.out).trans hbr
    replace k1 : Hid (Below w.heap.size w (w1.drewN nq)) := k1.out.trans (kA.mono k1.out.size)
    replace hlt1 : Hid (w.heap.size + 1 < (w1.drewN nq).heap.size) := Nat.lt_of_lt_of_le hlt1.out kA.size
    clear hR1 kA z0 z1 z2 z3 z4 z5 z6 z7 z8 z9
    generalize w1.drewN nq = w2 at *
    obtain ⟨z0, z1, z2, z3, z4, z5, z6, z7, z8, z9⟩ := op_cells (o := ⟨okind, oclient, oreq, oid, ogen, oocc, odue, ostamp, oepoch, ocron⟩) hbx
    simp only [] at z0 z1 z2 z3 z4 z5 z6 z7 z8 z9
    have c3 := hRA.out.c3
    go_wp2_with fail
    go_quiet (fail)
    clear c3 
    have kA : Below w2.heap.size w2 (w2.drewN nq) := below_dN (Below.refl _ _) nq
    have hRB := Lib.hid (hRA.out.below kA)
    replace hbx := (kA.block w.heap.size (by have := hlt1.out; omega)).trans hbx
    replace hbr := (kA.block (w.heap.size + 1) hlt1.out).trans hbr
    replace k1 : Hid (Below w.heap.size w (w2.drewN nq)) := k1.out.trans (kA.mono k1.out.size)
    replace hlt1 : Hid (w.heap.size + 1 < (w2.drewN nq).heap.size) := Nat.lt_of_lt_of_le hlt1.out kA.size
    clear hRA kA z0 z1 z2 z3 z4 z5 z6 z7 z8 z9
    generalize w2.drewN nq = w3 at *
    obtain ⟨z0, z1, z2, z3, z4, z5, z6, z7, z8, z9⟩ := op_cells (o := ⟨okind, oclient, oreq, oid, ogen, oocc, odue, ostamp, oepoch, ocron⟩) hbx
    simp only [] at z0 z1 z2 z3 z4 z5 z6 z7 z8 z9
    have c3 := hRB.out.c3
    obtain ⟨y0', y1', y2', y3', y4', y5'⟩ := rp_cells hbr
    have hfin := Lib.hid (rg_end h (Kl.ofBelow k1.out) hRB.out (fun g hg => .inl hg) (fun g hg => .inl hg) (.int .i64 8) (.int .i64 0) (.int .i64 0))
    go_wp2_with fail
    refine bodyPost_ret (v := rpV ⟨8, 0, 0⟩) ?_ rfl ?_
    · rw [results_cellA rfl]
      go_simp
    · exact ⟨rfl, hfin.out⟩
set_option maxHeartbeats 8000000 in
theorem rother (h : Rf base w r s p cap q cq) (o : OpN) (h1 : o.kind ≠ 1) (h2 : o.kind ≠ 2) (h3 : o.kind ≠ 3) : Calls Tryz.prog 16 #[.pointer (some ⟨r, 0, none⟩), opV o] w fun e w' => e = .returned (rpV ⟨1, 0, 0⟩) ∧ Rg base w r p q w' s := by
  have k1 : Below w.heap.size w ((w.alloc (opO o)).alloc rp0) := ((Below.refl w.heap.size w).alloc (Nat.le_refl _) (opO o)).alloc (by simp) rp0
  have hbx : ((w.alloc (opO o)).alloc rp0).heap[w.heap.size]? = some (opO o) := (alloc_old (by simp)).trans (Go.heap_alloc_new w (opO o))
  have hbr : ((w.alloc (opO o)).alloc rp0).heap[w.heap.size + 1]? = some rp0 := by
    have := Go.heap_alloc_new (w.alloc (opO o)) rp0
    simpa using this
  have hlt1 : Hid (w.heap.size + 1 < ((w.alloc (opO o)).alloc rp0).heap.size) := by show _ < _; simp
  have hR1 := Lib.hid (h.below k1)
  have hlk := h.lk
  have hlT := h.lt
  have hrl := h.rlt
  have hlki : (s.K.length : Int) ≤ 1000 := by omega
  have hlTi : (s.T.length : Int) ≤ 1000 := by omega
  have e1 : (o.kind == 1) = false := by simpa using h1
  have e2 : (o.kind == 2) = false := by simpa using h2
  have e3 : (o.kind == 3) = false := by simpa using h3
  replace h1 := Lib.hid h1
  replace h2 := Lib.hid h2
  replace h3 := Lib.hid h3
  obtain ⟨okind, oclient, oreq, oid, ogen, oocc, odue, ostamp, oepoch, ocron⟩ := o
  simp only [opV, opC, opO, rp0] at *
  clear k1
  have k1 : Hid (Below w.heap.size w ((w.alloc (.cells #[.int .i64 okind, .int .i64 oclient, .int .i64 oreq, .int .i64 oid, .int .i64 ogen, .int .i64 oocc, .int .i64 odue, .int .i64 ostamp, .int .i64 oepoch, .string ocron] 30)).alloc (.cells #[.int .i64 0, .int .i64 0, .int .i64 0] 34))) := ((Below.refl w.heap.size w).alloc (Nat.le_refl _) _).alloc (by simp) _
  generalize hw1 : (w.alloc (.cells #[.int .i64 okind, .int .i64 oclient, .int .i64 oreq, .int .i64 oid, .int .i64 ogen, .int .i64 oocc, .int .i64 odue, .int .i64 ostamp, .int .i64 oepoch, .string ocron] 30)).alloc (.cells #[.int .i64 0, .int .i64 0, .int .i64 0] 34) = w1 at *
  obtain ⟨z0, z1, z2, z3, z4, z5, z6, z7, z8, z9⟩ := op_cells (o := ⟨okind, oclient, oreq, oid, ogen, oocc, odue, ostamp, oepoch, ocron⟩) hbx
  simp only [] at z0 z1 z2 z3 z4 z5 z6 z7 z8 z9
  have hw1' := Lib.hid hw1
  go_enter Tryz.func16, Tryz.ntmps16
  go_upto_region 1 with fail
  try rw [hw1]
  clear hw1 hw1'
  have hRB := hR1
  obtain ⟨y0', y1', y2', y3', y4', y5'⟩ := rp_cells hbr
  have hfin := Lib.hid (rg_end h (Kl.ofBelow k1.out) hRB.out (fun g hg => .inl hg) (fun g hg => .inl hg) (.int .i64 1) (.int .i64 0) (.int .i64 0))
  go_wp2_with fail
  refine bodyPost_ret (v := rpV ⟨1, 0, 0⟩) ?_ rfl ?_
  · rw [results_cellA rfl]
    go_simp
  · exact ⟨rfl, hfin.out⟩
set_option maxHeartbeats 8000000 in
theorem rfire_no (h : Rf base w r s p cap q cq) (o : OpN) (hkind : o.kind = 3) (hf : firesB s o = false) : Calls Tryz.prog 16 #[.pointer (some ⟨r, 0, none⟩), opV o] w fun e w' => e = .returned (rpV (fireN s o).2) ∧ Rg base w r p q w' (fireN s o).1 := by
  have k1 : Below w.heap.size w ((w.alloc (opO o)).alloc rp0) := ((Below.refl w.heap.size w).alloc (Nat.le_refl _) (opO o)).alloc (by simp) rp0
  have hbx : ((w.alloc (opO o)).alloc rp0).heap[w.heap.size]? = some (opO o) := (alloc_old (by simp)).trans (Go.heap_alloc_new w (opO o))
  have hbr : ((w.alloc (opO o)).alloc rp0).heap[w.heap.size + 1]? = some rp0 := by
    have := Go.heap_alloc_new (w.alloc (opO o)) rp0
    simpa using this
  have hlt1 : Hid (w.heap.size + 1 < ((w.alloc (opO o)).alloc rp0).heap.size) := by show _ < _; simp
  have hR1 := Lib.hid (h.below k1)
  have hlk := h.lk
  have hlT := h.lt
  have hrl := h.rlt
  have hlki : (s.K.length : Int) ≤ 1000 := by omega
  have hlTi : (s.T.length : Int) ≤ 1000 := by omega
  rw [fire_no hf]
  have cf := Lib.hid (rfires_any hR1.out o)
  rw [hf] at cf
  replace hf := Lib.hid hf
  obtain ⟨okind, oclient, oreq, oid, ogen, oocc, odue, ostamp, oepoch, ocron⟩ := o
  simp only [opV, opC, opO, rp0] at *
  subst hkind
  clear k1
  have k1 : Hid (Below w.heap.size w ((w.alloc (.cells #[.int .i64 3, .int .i64 oclient, .int .i64 oreq, .int .i64 oid, .int .i64 ogen, .int .i64 oocc, .int .i64 odue, .int .i64 ostamp, .int .i64 oepoch, .string ocron] 30)).alloc (.cells #[.int .i64 0, .int .i64 0, .int .i64 0] 34))) := ((Below.refl w.heap.size w).alloc (Nat.le_refl _) _).alloc (by simp) _
  generalize hw1 : (w.alloc (.cells #[.int .i64 3, .int .i64 oclient, .int .i64 oreq, .int .i64 oid, .int .i64 ogen, .int .i64 oocc, .int .i64 odue, .int .i64 ostamp, .int .i64 oepoch, .string ocron] 30)).alloc (.cells #[.int .i64 0, .int .i64 0, .int .i64 0] 34) = w1 at *
  obtain ⟨z0, z1, z2, z3, z4, z5, z6, z7, z8, z9⟩ := op_cells (o := ⟨3, oclient, oreq, oid, ogen, oocc, odue, ostamp, oepoch, ocron⟩) hbx
  simp only [] at z0 z1 z2 z3 z4 z5 z6 z7 z8 z9
  have hw1' := Lib.hid hw1
  go_enter Tryz.func16, Tryz.ntmps16
  go_upto_region 24 with fail
  try rw [hw1]
  clear hw1 hw1'
  go_wp2_with fail
  refine cf.out.mono ?_
  rintro e w2 ⟨rfl, kA⟩
  have hRB := Lib.hid (hR1.out.below kA)
  replace hbr := (kA.block (w.heap.size + 1) hlt1.out).trans hbr
  replace k1 : Hid (Below w.heap.size w w2) := k1.out.trans (kA.mono k1.out.size)
  clear hR1 kA z0 z1 z2 z3 z4 z5 z6 z7 z8 z9 cf
  obtain ⟨y0', y1', y2', y3', y4', y5'⟩ := rp_cells hbr
  have hfin := Lib.hid (rg_end h (Kl.ofBelow k1.out) hRB.out (fun g hg => .inl hg) (fun g hg => .inl hg) (.int .i64 6) (.int .i64 0) (.int .i64 0))
  go_wp2_with fail
  refine bodyPost_ret (v := rpV ⟨6, 0, 0⟩) ?_ rfl ?_
  · rw [results_cellA rfl]
    go_simp
  · exact ⟨rfl, hfin.out⟩
set_option maxHeartbeats 8000000 in
theorem rfire_yes (h : Rf base w r s p cap q cq) (ok : Ok s) (o : OpN) (ho : OpOk o) (hkind : o.kind = 3) (hf : firesB s o = true) : Calls Tryz.prog 16 #[.pointer (some ⟨r, 0, none⟩), opV o] w fun e w' => e = .returned (rpV (fireN s o).2) ∧ Rg base w r p q w' (fireN s o).1 := by
  have k1 : Below w.heap.size w ((w.alloc (opO o)).alloc rp0) := ((Below.refl w.heap.size w).alloc (Nat.le_refl _) (opO o)).alloc (by simp) rp0
  have hbx : ((w.alloc (opO o)).alloc rp0).heap[w.heap.size]? = some (opO o) := (alloc_old (by simp)).trans (Go.heap_alloc_new w (opO o))
  have hbr : ((w.alloc (opO o)).alloc rp0).heap[w.heap.size + 1]? = some rp0 := by
    have := Go.heap_alloc_new (w.alloc (opO o)) rp0
    simpa using this
  have hlt1 : Hid (w.heap.size + 1 < ((w.alloc (opO o)).alloc rp0).heap.size) := by show _ < _; simp
  have hR1 := Lib.hid (h.below k1)
  have hlk := h.lk
  have hlT := h.lt
  have hrl := h.rlt
  have hlki : (s.K.length : Int) ≤ 1000 := by omega
  have hlTi : (s.T.length : Int) ≤ 1000 := by omega
  have hhas := fires_has hf
  have ht : plT o.id s.T < s.T.length := by
    refine Classical.byContradiction fun g => ?_
    have := (place_none g).2
    rw [this] at hhas
    cases hhas
  have hv := (place_val ht).1
  have hF : Hid (fireN s o = ({ s with T := if s.T[plT o.id s.T].cron.size = 0 then away o.id s.T else put { s.T[plT o.id s.T] with due := afterN s.T[plT o.id s.T].cron (max o.occ o.stamp) } (away o.id s.T) }, ⟨0, o.gen, o.occ⟩)) := by
    show _ = _
    by_cases hz : s.T[plT o.id s.T].cron.size = 0
    · rw [fire_once hf (by rw [hv]; exact hz), if_pos hz]
    · rw [fire_again hf (by rw [hv]; exact hz), hv, if_neg hz]
  have hcr := (ok.tm _ (List.getElem_mem ht)).cron
  have hid0 : Hid (s.T[plT o.id s.T].id = o.id) := plT_is ht
  have hmx : i64 (max o.occ o.stamp) := ⟨by have := ho.occ.1; have := ho.stamp.1; omega, by have := ho.occ.2; have := ho.stamp.2; omega⟩
  have cf := Lib.hid (rfires_any hR1.out o)
  rw [hf] at cf
  have cA := Lib.hid (fun W => rafter_all s.T[plT o.id s.T].cron (max o.occ o.stamp) hcr hmx W)
  have cF := Lib.hid (fun W (hR : Rf base W r s p cap q cq) => rfind_any hR o.id)
  have hatt : atN (plT o.id s.T) s.T.length = ((plT o.id s.T : Nat) : Int) := by unfold atN; rw [if_pos ht]
  rw [hatt] at cF
  have hTat := Lib.hid (fun W (hR : Rf base W r s p cap q cq) => hR.at (plT o.id s.T) ht)
  have haw : s.T.take (plT o.id s.T) ++ s.T.drop (plT o.id s.T + 1) = away o.id s.T := by
    have := away_at ok.up ht
    rw [plT_is ht] at this
    exact this
  have cR := Lib.hid (fun W (hR : Rf base W r s p cap q cq) => raway_any hR (plT o.id s.T) ht)
  rw [haw] at cR
  obtain ⟨gT, hpe⟩ : ∃ g, p = some ⟨g, 0, none⟩ := by obtain ⟨g, e, _⟩ := h.at _ ht; exact ⟨g, e⟩
  subst hpe
  have hgTl := (h.tow.lt (g := gT) (own_row (n := 0) (cap := 0).1 rfl)).2
  have hn6 : Hid (∀ u ∈ away o.id s.T, u.id ≠ o.id) := fun u hu => (mem_away.1 hu).2
  have hup6 : Hid (Up (away o.id s.T)) := away_up ok.up
  have hl6 : Hid ((away o.id s.T).length < 1000) := by have h3 := List.length_filter_le (fun t => decide (t.id ≠ o.id)) s.T; have := ok.full; have := ok.room1; show (List.filter _ _).length < 1000; omega
  have ht2 : (plT o.id s.T : Int) < (s.T.length : Int) := by omega
  generalize s.T[plT o.id s.T] = tt at *
  generalize plT o.id s.T = kt at *
  have ht0' : (0 : Int) ≤ (kt : Int) := by omega
  obtain ⟨tid, tc, tg, td, tcr⟩ := tt
  simp only [] at hF hTat cA hid0
  generalize fireN s o = PS at *
  clear hatt haw hv hhas hcr hmx
  replace hf := Lib.hid hf
  obtain rfl : tid = o.id := hid0.out
  clear hid0
  have cPt := Lib.hid (fun W (u : Int) (p' : Option Addr) (cap' : Nat) (hR : Rf base W r { s with T := away o.id s.T } p' cap' q cq) => rput_any hR ⟨o.id, tc, tg, u, tcr⟩ hup6.out hn6.out hl6.out)
  clear hn6 hup6 hl6 ho ok
  obtain ⟨okind, oclient, oreq, oid, ogen, oocc, odue, ostamp, oepoch, ocron⟩ := o
  simp only [opV, opC, opO, rp0] at *
  subst hkind
  clear k1
  have k1 : Hid (Below w.heap.size w ((w.alloc (.cells #[.int .i64 3, .int .i64 oclient, .int .i64 oreq, .int .i64 oid, .int .i64 ogen, .int .i64 oocc, .int .i64 odue, .int .i64 ostamp, .int .i64 oepoch, .string ocron] 30)).alloc (.cells #[.int .i64 0, .int .i64 0, .int .i64 0] 34))) := ((Below.refl w.heap.size w).alloc (Nat.le_refl _) _).alloc (by simp) _
  generalize hw1 : (w.alloc (.cells #[.int .i64 3, .int .i64 oclient, .int .i64 oreq, .int .i64 oid, .int .i64 ogen, .int .i64 oocc, .int .i64 odue, .int .i64 ostamp, .int .i64 oepoch, .string ocron] 30)).alloc (.cells #[.int .i64 0, .int .i64 0, .int .i64 0] 34) = w1 at *
  obtain ⟨z0, z1, z2, z3, z4, z5, z6, z7, z8, z9⟩ := op_cells (o := ⟨3, oclient, oreq, oid, ogen, oocc, odue, ostamp, oepoch, ocron⟩) hbx
  simp only [] at z0 z1 z2 z3 z4 z5 z6 z7 z8 z9
  have hw1' := Lib.hid hw1
  go_enter Tryz.func16, Tryz.ntmps16
  go_upto_region 24 with fail
  try rw [hw1]
  clear hw1 hw1'
  go_wp2_with fail
  refine cf.out.mono ?_
  rintro e w2 ⟨rfl, kA⟩
  have hRB := Lib.hid (hR1.out.below kA)
  replace hbx := (kA.block w.heap.size (by have := hlt1.out; omega)).trans hbx
  replace hbr := (kA.block (w.heap.size + 1) hlt1.out).trans hbr
  replace k1 : Hid (Below w.heap.size w w2) := k1.out.trans (kA.mono k1.out.size)
  replace hlt1 : Hid (w.heap.size + 1 < w2.heap.size) := Nat.lt_of_lt_of_le hlt1.out kA.size
  clear hR1 kA z0 z1 z2 z3 z4 z5 z6 z7 z8 z9 cf
  obtain ⟨z0, z1, z2, z3, z4, z5, z6, z7, z8, z9⟩ := op_cells (o := ⟨3, oclient, oreq, oid, ogen, oocc, odue, ostamp, oepoch, ocron⟩) hbx
  simp only [] at z0 z1 z2 z3 z4 z5 z6 z7 z8 z9
  go_wp2_with fail
  refine (cF.out _ hRB.out).mono ?_
  rintro e w3 ⟨rfl, rfl⟩
  clear cF
  have c2 := hRB.out.c2
  obtain ⟨_, e_, hgl2, x0, x1, x2, x3, x4⟩ := hTat.out _ hRB.out
  obtain rfl : gT = _ := by injection e_ with e_; injection e_
  clear e_
  go_upto_region 28 with fail
  have kB : Below w2.heap.size w2 (w2.alloc (.cells #[.int .i64 oid, .int .i64 tc, .int .i64 tg, .int .i64 td, .string tcr] 37)) := (Below.refl _ _).alloc (Nat.le_refl _) _
  have hRC := Lib.hid (hRB.out.below kB)
  replace hbx := (kB.block w.heap.size (by have := hlt1.out; omega)).trans hbx
  replace hbr := (kB.block (w.heap.size + 1) hlt1.out).trans hbr
  replace k1 : Hid (Below w.heap.size w (w2.alloc (.cells #[.int .i64 oid, .int .i64 tc, .int .i64 tg, .int .i64 td, .string tcr] 37))) := k1.out.trans (kB.mono k1.out.size)
  have hb9 : (w2.alloc (.cells #[.int .i64 oid, .int .i64 tc, .int .i64 tg, .int .i64 td, .string tcr] 37)).heap[w2.heap.size]? = some (.cells #[.int .i64 oid, .int .i64 tc, .int .i64 tg, .int .i64 td, .string tcr] 37) := Go.heap_alloc_new w2 _
  have hl9 : Hid (w.heap.size + 1 < w2.heap.size ∧ w2.heap.size < (w2.alloc (.cells #[.int .i64 oid, .int .i64 tc, .int .i64 tg, .int .i64 td, .string tcr] 37)).heap.size) := ⟨hlt1.out, by simp⟩
  clear hRB kB z0 z1 z2 z3 z4 z5 z6 z7 z8 z9 c2 x0 x1 x2 x3 x4 hgl2 hTat hlt1
  generalize w2.alloc (.cells #[.int .i64 oid, .int .i64 tc, .int .i64 tg, .int .i64 td, .string tcr] 37) = w4 at *
  generalize w2.heap.size = b9 at *
  go_wp2_with fail
  refine (cR.out _ hRC.out).mono ?_
  rintro e w5 ⟨rfl, ⟨p5, cap5, R5, fr5⟩, kl5⟩
  replace hbx := (kl5.block w.heap.size (by have := hl9.out; omega) (by simp; omega)).trans hbx
  replace hbr := (kl5.block (w.heap.size + 1) (by have := hl9.out; omega) (by simp; omega)).trans hbr
  replace hb9 := (kl5.block b9 hl9.out.2 (by have := hl9.out; simp; omega)).trans hb9
  have kz : Hid (Kl [r] w w5) := (Kl.ofBelow k1.out).trans kl5
  replace fr5 : Hid (∀ g, g ∈ rowOf p5 → b9 < g) := fun g hg => by have := fr5 g hg; have := hl9.out; omega
  replace hl9 : Hid (w.heap.size + 1 < b9 ∧ b9 < w5.heap.size) := ⟨hl9.out.1, Nat.lt_of_lt_of_le hl9.out.2 kl5.size⟩
  replace R5 := Lib.hid R5
  clear cR hRC kl5 k1
  obtain ⟨z0, z1, z2, z3, z4, z5, z6, z7, z8, z9⟩ := op_cells (o := ⟨3, oclient, oreq, oid, ogen, oocc, odue, ostamp, oepoch, ocron⟩) hbx
  simp only [] at z0 z1 z2 z3 z4 z5 z6 z7 z8 z9
  obtain ⟨x0, x1, x2, x3, x4, x5⟩ := tm_cells hb9
  by_cases hz : tcr.size = 0
  · have hF2 : Hid (PS = ({ s with T := away oid s.T }, ⟨0, ogen, oocc⟩)) := by have := hF.out; rw [if_pos hz] at this; exact this
    obtain rfl := size_no hz
    clear hF
    clear cPt cA hz
    obtain ⟨y0', y1', y2', y3', y4', y5'⟩ := rp_cells hbr
    have hfin := Lib.hid (rg_end h kz.out R5.out (fun g hg => .inr (by have := fr5.out g hg; have := hl9.out; omega)) (fun g hg => .inl hg) (.int .i64 0) (.int .i64 ogen) (.int .i64 oocc))
    go_wp2_with fail
    refine bodyPost_ret (v := rpV ⟨0, ogen, oocc⟩) ?_ rfl ?_
    · rw [results_cellA rfl]
      go_simp
    · rw [hF2.out]
      exact ⟨rfl, hfin.out⟩
  · have hF2 : Hid (PS = ({ s with T := put ⟨oid, tc, tg, afterN tcr (max oocc ostamp), tcr⟩ (away oid s.T) }, ⟨0, ogen, oocc⟩)) := by have := hF.out; rw [if_neg hz] at this; exact this
    have hq := empty_no hz
    clear hF
    replace hz := Lib.hid hz
    generalize afterN tcr (max oocc ostamp) = AF at *
    go_wp2_with fail
    refine (cA.out _).mono ?_
    rintro e w6 ⟨rfl, kC⟩
    clear cA
    have R6 := Lib.hid (R5.out.below kC)
    replace hbx := (kC.block w.heap.size (by have := hl9.out; omega)).trans hbx
    replace hbr := (kC.block (w.heap.size + 1) (by have := hl9.out; omega)).trans hbr
    replace hb9 := (kC.block b9 hl9.out.2).trans hb9
    replace kz : Hid (Kl [r] w w6) := kz.out.trans (Kl.ofBelow kC)
    replace hl9 : Hid (w.heap.size + 1 < b9 ∧ b9 < w6.heap.size) := ⟨hl9.out.1, Nat.lt_of_lt_of_le hl9.out.2 kC.size⟩
    clear R5 kC z0 z1 z2 z3 z4 z5 z6 z7 z8 z9 x0 x1 x2 x3 x4 x5
    obtain ⟨x0, x1, x2, x3, x4, x5⟩ := tm_cells hb9
    have R7 : Hid (Rf base (w6.setCell ⟨b9, 3, none⟩ (.int .i64 AF)) r { s with T := away oid s.T } p5 cap5 q cq) := R6.out.same fun g hg => Below.heap_setCell _ _ _ _ (by
      rcases hg with rfl | hg | hg
      · show g ≠ b9; have := hl9.out; omega
      · show g ≠ b9; have := fr5.out g hg; omega
      · show g ≠ b9; have := (h.kow.lt hg).2; have := hl9.out; omega)
    have hbx7 := (Below.heap_setCell w6 ⟨b9, 3, none⟩ (.int .i64 AF) w.heap.size (by show w.heap.size ≠ b9; have := hl9.out; omega)).trans hbx
    have hbr7 := (Below.heap_setCell w6 ⟨b9, 3, none⟩ (.int .i64 AF) (w.heap.size + 1) (by show w.heap.size + 1 ≠ b9; have := hl9.out; omega)).trans hbr
    have hb97 : (w6.setCell ⟨b9, 3, none⟩ (.int .i64 AF)).heap[b9]? = some (.cells #[.int .i64 oid, .int .i64 tc, .int .i64 tg, .int .i64 AF, .string tcr] 37) := by rw [heap_setCell_same _ _ _ _ _ _ hb9]; rfl
    have kz7 : Hid (Kl [r] w (w6.setCell ⟨b9, 3, none⟩ (.int .i64 AF))) := ((kz.out.mono (M := [r, b9]) (fun k hk => by simp only [List.mem_singleton] at hk; subst hk; simp)).setCell (by simp) _ _).mono (fun k hk => by
      simp only [List.mem_cons, List.not_mem_nil, or_false] at hk
      rcases hk with rfl | rfl
      · simp
      · exact .inr (by have := hl9.out; omega))
    have hl97 : Hid (w.heap.size + 1 < b9 ∧ b9 < (w6.setCell ⟨b9, 3, none⟩ (.int .i64 AF)).heap.size) := ⟨hl9.out.1, by simp; exact hl9.out.2⟩
    go_upto_region 31 with fail
    clear R6 hbx hbr hb9 kz hl9 x0 x1 x2 x3 x4 x5
    generalize w6.setCell ⟨b9, 3, none⟩ (.int .i64 AF) = w7 at *
    obtain ⟨x0, x1, x2, x3, x4, x5⟩ := tm_cells hb97
    go_wp2_with fail
    refine (cPt.out _ AF _ _ R7.out).mono ?_
    rintro e w8 ⟨rfl, ⟨p8, cap8, R8, fr8⟩, kl8⟩
    have hbx8 := (kl8.block w.heap.size (by have := hl97.out; omega) (by simp; omega)).trans hbx7
    have hbr8 := (kl8.block (w.heap.size + 1) (by have := hl97.out; omega) (by simp; omega)).trans hbr7
    have kz8 : Hid (Kl [r] w w8) := kz7.out.trans kl8
    have fr9 : Hid (∀ g, g ∈ rowOf p8 → b9 < g) := fun g hg => by have := fr8 g hg; have := hl97.out; omega
    replace R8 := Lib.hid R8
    clear cPt R7 hbx7 hbr7 hb97 kz7 x0 x1 x2 x3 x4 x5 fr8 kl8
    obtain ⟨z0, z1, z2, z3, z4, z5, z6, z7, z8, z9⟩ := op_cells (o := ⟨3, oclient, oreq, oid, ogen, oocc, odue, ostamp, oepoch, ocron⟩) hbx8
    simp only [] at z0 z1 z2 z3 z4 z5 z6 z7 z8 z9
    obtain ⟨y0', y1', y2', y3', y4', y5'⟩ := rp_cells hbr8
    have hfin := Lib.hid (rg_end h kz8.out R8.out (fun g hg => .inr (by have := fr9.out g hg; have := hl97.out; omega)) (fun g hg => .inl hg) (.int .i64 0) (.int .i64 ogen) (.int .i64 oocc))
    go_wp2_with fail
    refine bodyPost_ret (v := rpV ⟨0, ogen, oocc⟩) ?_ rfl ?_
    · rw [results_cellA rfl]
      go_simp
    · rw [hF2.out]
      exact ⟨rfl, hfin.out⟩
/-- Apply is applyN. -/
theorem rapply_any (h : Rf base w r s p cap q cq) (ok : Ok s) (hg : s.gens < 1000000) (o : OpN) (ho : OpOk o) : Calls Tryz.prog 16 #[.pointer (some ⟨r, 0, none⟩), opV o] w fun e w' => e = .returned (rpV (applyN s o).2) ∧ Rg base w r p q w' (applyN s o).1 := by
  have cS : ∀ W, Rf base W r s p cap q cq → Calls Tryz.prog 34 #[.pointer (some ⟨r, 0, none⟩), opV o] W fun e w' => e = .returned (rpV (setN s o).2) ∧ Rg base W r p q w' (setN s o).1 := fun W hW => by
    by_cases hb : settableB o = true
    · exact rset_ok hW ok hg o ho hb
    · exact rset_bad hW o (by simpa using hb)
  by_cases h1 : o.kind = 1
  · have e : applyN s o = askN s o := by unfold applyN; rw [if_pos (.inl h1)]
    rw [e]
    by_cases hp : plK o.client s.K < s.K.length
    · rcases Int.lt_trichotomy o.req s.K[plK o.client s.K].req with g | g | g
      · exact rask_old h o (.inl h1) hp g
      · exact rask_again h o (.inl h1) hp g.symm
      · exact rask_old_set h ok o h1 hp g cS
    · by_cases hf : 3 ≤ s.K.length
      · exact rask_full h o (.inl h1) hp hf
      · exact rask_new_set h ok o h1 hp (by omega) cS
  by_cases h2 : o.kind = 2
  · have e : applyN s o = askN s o := by unfold applyN; rw [if_pos (.inr h2)]
    rw [e]
    by_cases ht : plT o.id s.T < s.T.length
    · by_cases hp : plK o.client s.K < s.K.length
      · rcases Int.lt_trichotomy o.req s.K[plK o.client s.K].req with g | g | g
        · exact rask_old h o (.inr h2) hp g
        · exact rask_again h o (.inr h2) hp g.symm
        · exact rask_old_cs h ok o h2 hp g ht
      · by_cases hf : 3 ≤ s.K.length
        · exact rask_full h o (.inr h2) hp hf
        · exact rask_new_cs h ok o h2 hp (by omega) ht
    · by_cases hp : plK o.client s.K < s.K.length
      · rcases Int.lt_trichotomy o.req s.K[plK o.client s.K].req with g | g | g
        · exact rask_old h o (.inr h2) hp g
        · exact rask_again h o (.inr h2) hp g.symm
        · exact rask_old_cn h ok o h2 hp g ht
      · by_cases hf : 3 ≤ s.K.length
        · exact rask_full h o (.inr h2) hp hf
        · exact rask_new_cn h ok o h2 hp (by omega) ht
  by_cases h3 : o.kind = 3
  · have e : applyN s o = fireN s o := by unfold applyN; rw [if_neg (by omega), if_pos h3]
    rw [e]
    by_cases hf : firesB s o = true
    · exact rfire_yes h ok o ho h3 hf
    · exact rfire_no h o h3 (by simpa using hf)
  · have e : applyN s o = (s, ⟨1, 0, 0⟩) := by unfold applyN; rw [if_neg (by omega), if_neg h3]
    rw [e]
    exact rother h o h1 h2 h3
end
end Go.Proofs.YtiidhcpflplpiaaGreatDoor

/-
  Layer 8: the program's service and the document's beside one another; and a service that was copied beside both.
-/
set_option linter.unusedVariables false
namespace Go.Proofs.YtiidhcpflplpiaaGreatDoor
open Go.RowKit Crn Nxt Ste
set_option maxRecDepth 100000
theorem Sv.noown {w : World} {b : Nat} {s : St} {cl : List Int} {x : Px} {c : Nat} (h : Sv w b s cl x c) {g : Nat} {C : Array Value} {t : TypeId} (hg : w.heap[g]? = some (.cells C t (0, 0))) (h1 : t ≠ 76) (h2 : t ≠ 3) (h3 : t ≠ 122) (h4 : t ≠ 143) : g ∉ own x b := by
  intro hk
  simp only [own, List.mem_cons, List.mem_append] at hk
  rcases hk with rfl | rfl | rfl | hk | hk
  · exact type_no hg h.blk h1 rfl
  · exact map_no hg h.tm rfl
  · exact map_no hg h.km rfl
  · obtain ⟨cur, e⟩ := row_at h.row (own_row.2 hk)
    exact type_no hg e h2 rfl
  · simp only [owned, List.mem_cons, List.mem_append, List.mem_map, Option.mem_toList] at hk
    rcases hk with rfl | hk | ⟨q, hq, rfl⟩
    · exact type_no hg h.ca.blk h3 rfl
    · obtain ⟨⟨es, clock, e, _⟩, _⟩ := h.ca.map g hk
      rw [e] at hg; cases hg
    · exact type_no hg (h.ca.rd q hq).1 h4 rfl
structure Du (w0 w : World) (b r : Nat) (s t : St) (c : Nat) (V : List (Nat × Obj)) (x : Px) (p : Option Addr) (cap : Nat) (q : Option Addr) (cq : Nat) : Prop where
  ss : SS w b s x c
  lo : ∀ k, k ∈ own x b → w0.heap.size ≤ k
  bel : Below w0.heap.size w0 w
  rf : Rf w0.heap.size w r t p cap q cq
  vs : ∀ v, v ∈ V → w.heap[v.1]? = some v.2 ∧ v.1 ∉ own x b ∧ v.1 ≠ r ∧ v.1 ∉ rowOf p ∧ v.1 ∉ rowOf q
/-- Both services, and the caller's own blocks. -/
def Duo (w0 w : World) (b r : Nat) (s t : St) (c : Nat) (V : List (Nat × Obj)) : Prop := ∃ x p cap q cq, Du w0 w b r s t c V x p cap q cq
section
variable {w0 w w' : World} {b r : Nat} {s t : St} {c : Nat} {V : List (Nat × Obj)}
theorem Rf.lts {base : Nat} {p : Option Addr} {cap : Nat} {q : Option Addr} {cq : Nat} (h : Rf base w r t p cap q cq) {g : Nat} (hg : g = r ∨ g ∈ rowOf p ∨ g ∈ rowOf q) : base ≤ g ∧ g < w.heap.size := by
  rcases hg with rfl | hg | hg
  · exact ⟨h.hb, h.rlt⟩
  · exact h.tow.lt hg
  · exact h.kow.lt hg
theorem Rf.noown {base : Nat} {p : Option Addr} {cap : Nat} {q : Option Addr} {cq : Nat} (h : Rf base w r t p cap q cq) {x : Px} {bo : Nat} {so : St} {co : Nat} (S : SS w bo so x co) {g : Nat} (hg : g = r ∨ g ∈ rowOf p ∨ g ∈ rowOf q) : g ∉ own x bo := by
  rcases hg with rfl | hg | hg
  · exact S.sv.noown h.blk (by decide) (by decide) (by decide) (by decide)
  · obtain ⟨cur, e⟩ := h.tow.obj hg
    exact S.sv.noown e (by decide) (by decide) (by decide) (by decide)
  · obtain ⟨cur, e⟩ := h.kow.obj hg
    exact S.sv.noown e (by decide) (by decide) (by decide) (by decide)
theorem Duo.bel (h : Duo w0 w b r s t c V) : Below w0.heap.size w0 w := by obtain ⟨x, p, cap, q, cq, D⟩ := h; exact D.bel
theorem Duo.ok (h : Duo w0 w b r s t c V) : Ok s := by obtain ⟨x, p, cap, q, cq, D⟩ := h; exact D.ss.sv.ok
theorem Duo.gc (h : Duo w0 w b r s t c V) : s.gens ≤ c := by obtain ⟨x, p, cap, q, cq, D⟩ := h; exact D.ss.sv.gc
theorem Duo.at (h : Duo w0 w b r s t c V) {k : Nat} {o : Obj} (hk : (k, o) ∈ V) : w.heap[k]? = some o := by obtain ⟨x, p, cap, q, cq, D⟩ := h; exact (D.vs _ hk).1
theorem Duo.lt (h : Duo w0 w b r s t c V) {k : Nat} {o : Obj} (hk : (k, o) ∈ V) : k < w.heap.size := (Array.getElem?_eq_some_iff.1 (h.at hk)).1
theorem Du.below {x : Px} {p : Option Addr} {cap : Nat} {q : Option Addr} {cq : Nat} (h : Du w0 w b r s t c V x p cap q cq) (k : Below w.heap.size w w') : Du w0 w' b r s t c V x p cap q cq :=
  ⟨⟨h.ss.sv.below k, h.ss.kp⟩, h.lo, h.bel.trans (k.mono h.bel.size), h.rf.below k, fun v hv => by
    have g := (h.vs v hv).1
    exact ⟨(k.block _ (Array.getElem?_eq_some_iff.1 g).1).trans g, (h.vs v hv).2⟩⟩
theorem Duo.below (h : Duo w0 w b r s t c V) (k : Below w.heap.size w w') : Duo w0 w' b r s t c V := by obtain ⟨x, p, cap, q, cq, D⟩ := h; exact ⟨x, p, cap, q, cq, D.below k⟩
theorem Duo.alloc (h : Duo w0 w b r s t c V) (o : Obj) : Duo w0 (w.alloc o) b r s t c ((w.heap.size, o) :: V) := by
  obtain ⟨x, p, cap, q, cq, D⟩ := h
  have D' := D.below ((Below.refl w.heap.size w).alloc (Nat.le_refl _) o)
  refine ⟨x, p, cap, q, cq, D'.ss, D'.lo, D'.bel, D'.rf, fun v hv => ?_⟩
  rcases List.mem_cons.1 hv with rfl | hv
  · refine ⟨Go.heap_alloc_new w o, fun e => ?_, fun e => ?_, fun e => ?_, fun e => ?_⟩
    · have := (D.ss.sv.lt _ e).1; simp only at this; omega
    · have := (D.rf.lts (g := w.heap.size) (.inl e)).2; omega
    · have := (D.rf.lts (g := w.heap.size) (.inr (.inl e))).2; omega
    · have := (D.rf.lts (g := w.heap.size) (.inr (.inr e))).2; omega
  · exact D'.vs v hv
theorem Duo.alloc' (h : Duo w0 w b r s t c V) (o : Obj) {k : Nat} (hk : w.heap.size = k) : Duo w0 (w.alloc o) b r s t c ((k, o) :: V) := by
  subst hk
  exact h.alloc o
theorem Duo.less (h : Duo w0 w b r s t c V) {U : List (Nat × Obj)} (hU : ∀ p, p ∈ U → p ∈ V) : Duo w0 w b r s t c U := by
  obtain ⟨x, p, cap, q, cq, D⟩ := h
  exact ⟨x, p, cap, q, cq, D.ss, D.lo, D.bel, D.rf, fun v hv => D.vs v (hU v hv)⟩
theorem Duo.drewN (h : Duo w0 w b r s t c V) (n : Nat) : Duo w0 (w.drewN n) b r s t c V := h.below (below_dN (Below.refl _ _) n)
theorem kl_bel {x y : World} {L : List Nat} (hx : Below w0.heap.size w0 x) (k : Kl L x y) (hL : ∀ i, i ∈ L → w0.heap.size ≤ i) : Below w0.heap.size w0 y := hx.trans (k.below hL hx.size)
theorem Duo.apply (h : Duo w0 w b r s t c V) (tb : Tab w0) (nt : NTab w0) (hc : c ≤ 900000) (o : OpN) (ho : OpOk o) :
    Calls Tryz.prog 15 #[.pointer (some ⟨b, 0, none⟩), opV o] w fun e w' => e = .returned (rpV (applyN s o).2) ∧ Duo w0 w' b r (applyN s o).1 t (c + 1) V := by
  obtain ⟨x, p, cap, q, cq, D⟩ := h
  refine (apply_any D.ss (tb.below D.bel) (nt.below D.bel) hc o ho).mono ?_
  rintro e w' ⟨he, x', A⟩
  refine ⟨he, x', p, cap, q, cq, A.ss, fun k hk => ?_, kl_bel D.bel A.kept D.lo, D.rf.same fun g hg => A.kept.block g (D.rf.lts hg).2 (D.rf.noown D.ss hg), fun v hv => ?_⟩
  · rcases A.own k hk with g | g
    · exact D.lo k g
    · exact Nat.le_trans D.bel.size g
  · obtain ⟨g1, g2, g3⟩ := D.vs v hv
    have hlt := (Array.getElem?_eq_some_iff.1 g1).1
    refine ⟨(A.kept.block _ hlt g2).trans g1, fun e => ?_, g3⟩
    rcases A.own _ e with g | g
    · exact g2 g
    · omega
theorem Duo.rapply (h : Duo w0 w b r s t c V) (ok : Ok t) (hg : t.gens < 1000000) (o : OpN) (ho : OpOk o) :
    Calls Tryz.prog 16 #[.pointer (some ⟨r, 0, none⟩), opV o] w fun e w' => e = .returned (rpV (applyN t o).2) ∧ Duo w0 w' b r s (applyN t o).1 c V := by
  obtain ⟨x, p, cap, q, cq, D⟩ := h
  refine (rapply_any D.rf ok hg o ho).mono ?_
  rintro e w' ⟨he, ⟨p', cap', q', cq', R, fp, fq⟩, kl⟩
  refine ⟨he, x, p', cap', q', cq', D.ss.kept kl (fun i hi => ?_), D.lo, kl_bel D.bel kl (fun i hi => ?_), R, fun v hv => ?_⟩
  · simp only [List.mem_singleton] at hi
    subst hi
    exact D.rf.noown D.ss (.inl rfl)
  · simp only [List.mem_singleton] at hi
    subst hi
    exact D.rf.hb
  · obtain ⟨g1, g2, g3, g4, g5⟩ := D.vs v hv
    have hlt := (Array.getElem?_eq_some_iff.1 g1).1
    refine ⟨(kl.block _ hlt (by simpa using g3)).trans g1, g2, g3, fun e => ?_, fun e => ?_⟩
    · rcases fp _ e with g | g
      · exact g4 g
      · omega
    · rcases fq _ e with g | g
      · exact g5 g
      · omega
theorem Duo.fires (h : Duo w0 w b r s t c V) (o : OpN) (ho : OpOk o) : Calls Tryz.prog 13 #[.pointer (some ⟨b, 0, none⟩), opV o] w fun e w' => e = .returned (.bool (firesB s o)) ∧ Duo w0 w' b r s t c V := by
  obtain ⟨x, p, cap, q, cq, D⟩ := h
  refine (fires_any D.ss.sv o ho).mono ?_
  rintro e w' ⟨he, k⟩
  exact ⟨he, x, p, cap, q, cq, D.below k⟩
theorem Duo.rfires (h : Duo w0 w b r s t c V) (o : OpN) : Calls Tryz.prog 14 #[.pointer (some ⟨r, 0, none⟩), opV o] w fun e w' => e = .returned (.bool (firesB t o)) ∧ Duo w0 w' b r s t c V := by
  obtain ⟨x, p, cap, q, cq, D⟩ := h
  refine (rfires_any D.rf o).mono ?_
  rintro e w' ⟨he, k⟩
  exact ⟨he, x, p, cap, q, cq, D.below k⟩
theorem Duo.get (h : Duo w0 w b r s t c V) (id : Int) (hid : i64 id) : Calls Tryz.prog 17 #[.pointer (some ⟨b, 0, none⟩), .int .i64 id] w fun e w' => e = .returned (.tuple #[tmV (valT s.T id), .int .i64 (getE s.T id)]) ∧ Duo w0 w' b r s t c V := by
  obtain ⟨x, p, cap, q, cq, D⟩ := h
  refine (get_any D.ss.sv id hid).mono ?_
  rintro e w' ⟨he, k⟩
  exact ⟨he, x, p, cap, q, cq, D.below k⟩
theorem Duo.rget (h : Duo w0 w b r s t c V) (id : Int) : Calls Tryz.prog 18 #[.pointer (some ⟨r, 0, none⟩), .int .i64 id] w fun e w' => e = .returned (.tuple #[tmV (valT t.T id), .int .i64 (getE t.T id)]) ∧ Duo w0 w' b r s t c V := by
  obtain ⟨x, p, cap, q, cq, D⟩ := h
  refine (rget_any D.rf id).mono ?_
  rintro e w' ⟨he, k⟩
  exact ⟨he, x, p, cap, q, cq, D.below k⟩
theorem flatT_row {base : Nat} {p : Option Addr} {cap : Nat} {l : List Tm} (h : Ro encT 37 base w p cap l) : Tms base w (.slice p l.length cap) l := by
  unfold Ro at h
  rw [← flatT_eq] at h
  exact h
/-- List. -/
theorem Duo.list (h : Duo w0 w b r s s c V) : Calls Tryz.prog 20 #[.pointer (some ⟨b, 0, none⟩)] w fun e w' => ∃ (p : Option Addr) (cap : Nat), e = .returned (.slice p s.T.length cap) ∧ Below w.heap.size w w' ∧ Tms w.heap.size w' (.slice p s.T.length cap) s.T ∧ s.T.length ≤ 1000 := by
  obtain ⟨x, p, cap, q, cq, D⟩ := h
  have h1 := D.ss.sv.ok.full
  have h2 := D.ss.sv.ok.room1
  refine (list_any D.ss.sv (by rw [D.ss.sv.tp.length_eq]; omega)).mono ?_
  rintro e w' ⟨v, he, T, k⟩
  obtain ⟨p', cap', rfl⟩ := own_sliceC T
  exact ⟨p', cap', he, k, T, by omega⟩
/-- The document's row of timers. -/
theorem Duo.rrow (h : Duo w0 w b r s t c V) : ∃ p cap, w.cell? ⟨r, 2, none⟩ = some (.slice p t.T.length cap) ∧ Tms w0.heap.size w (.slice p t.T.length cap) t.T ∧ ∀ w', Below w.heap.size w w' → w'.cell? ⟨r, 2, none⟩ = some (.slice p t.T.length cap) ∧ Tms w0.heap.size w' (.slice p t.T.length cap) t.T := by
  obtain ⟨x, p, cap, q, cq, D⟩ := h
  exact ⟨p, cap, D.rf.c2, flatT_row D.rf.tow, fun w' k => ⟨(D.rf.below k).c2, flatT_row (D.rf.below k).tow⟩⟩
/-- The document's row of clients. -/
theorem Duo.krow (h : Duo w0 w b r s t c V) : ∃ q cq, (∀ w', Below w.heap.size w w' → w'.cell? ⟨r, 3, none⟩ = some (.slice q t.K.length cq)) ∧ ∀ i (hi : i < t.K.length), ∃ g, q = some ⟨g, 0, none⟩ ∧ ∀ w', Below w.heap.size w w' → w'.cell? ⟨g, i * 5, none⟩ = some (.int .i64 t.K[i].client) ∧ w'.cell? ⟨g, i * 5 + 1, none⟩ = some (.int .i64 t.K[i].req) ∧ w'.cell? ⟨g, i * 5 + 2, none⟩ = some (.int .i64 t.K[i].rp.err) ∧ w'.cell? ⟨g, i * 5 + 3, none⟩ = some (.int .i64 t.K[i].rp.gen) ∧ w'.cell? ⟨g, i * 5 + 4, none⟩ = some (.int .i64 t.K[i].rp.due) := by
  obtain ⟨x, p, cap, q, cq, D⟩ := h
  refine ⟨q, cq, fun w' k => (D.rf.below k).c3, fun i hi => ?_⟩
  obtain ⟨g, rfl, _⟩ := D.rf.atK i hi
  refine ⟨g, rfl, fun w' k => ?_⟩
  obtain ⟨g', e, _, y⟩ := (D.rf.below k).atK i hi
  injection e with e
  injection e with e
  subst e
  exact y
theorem Duo.clients (h : Duo w0 w b r s t c V) : Calls Tryz.prog 23 #[.pointer (some ⟨b, 0, none⟩)] w fun e w' => ∃ v', e = .returned v' ∧ Nums w.heap.size w' v' (clOf s) ∧ Below w.heap.size w w' ∧ (clOf s).length ≤ 3 := by
  obtain ⟨x, p, cap, q, cq, D⟩ := h
  have h1 := D.ss.sv.ok.few
  have h2 : (clOf s).length ≤ 3 := by unfold clOf; simpa using h1
  refine (clients_any D.ss.sv h2).mono ?_
  rintro e w' ⟨v, he, N, k⟩
  exact ⟨v, he, N, k, h2⟩
theorem Duo.last (h : Duo w0 w b r s t c V) (id : Int) (hid : i64 id) : Calls Tryz.prog 21 #[.pointer (some ⟨b, 0, none⟩), .int .i64 id] w fun e w' => e = .returned (.tuple #[.int .i64 (valK s.K id).req, rpV (valK s.K id).rp, .bool (hasK s.K id)]) ∧ Below w.heap.size w w' := by
  obtain ⟨x, p, cap, q, cq, D⟩ := h
  exact slast_any D.ss id hid
theorem duo_start {w1 w2 : World} (R : Rn w0 w1 b s c []) (k : Below w1.heap.size w1 w2) (F : Rf w0.heap.size w2 r s none 0 none 0) : Duo w0 w2 b r s s c [] := by
  obtain ⟨x, h1, h2, h3, h4⟩ := R
  exact ⟨x, none, 0, none, 0, h1.below k, h2, h3.trans (k.mono h3.size), F, fun v hv => by cases hv⟩
/-- Beside both: a service from which the first was copied. -/
def Trio (w0 w : World) (b bo r : Nat) (s t : St) (c : Nat) (so : St) (co : Nat) (V : List (Nat × Obj)) : Prop :=
  ∃ x p cap q cq xo, Du w0 w b r s t c V x p cap q cq ∧ SS w bo so xo co ∧ ∀ k, k ∈ own xo bo → w0.heap.size ≤ k ∧ k ∉ own x b ∧ ∀ v, v ∈ V → v.1 ≠ k
theorem Trio.duo {bo : Nat} {so : St} {co : Nat} (h : Trio w0 w b bo r s t c so co V) : Duo w0 w b r s t c V := by
  obtain ⟨x, p, cap, q, cq, xo, D, _⟩ := h
  exact ⟨x, p, cap, q, cq, D⟩
theorem Duo.copy (h : Duo w0 w b r s t c V) : Calls Tryz.prog 24 #[.pointer (some ⟨b, 0, none⟩)] w fun e w' => ∃ b2, e = .returned (.pointer (some ⟨b2, 0, none⟩)) ∧ Trio w0 w' b2 b r s t c s c V := by
  obtain ⟨x, p, cap, q, cq, D⟩ := h
  have hlt := D.ss.sv.lt
  refine (copy_any D.ss (Nat.lt_trans D.ss.sv.hb (hlt b (by simp [own])).1)).mono ?_
  rintro e w' ⟨b2, x2, he, S2, o2, k⟩
  have D' := D.below k
  refine ⟨b2, he, x2, p, cap, q, cq, x, ⟨S2, fun i hi => Nat.le_trans D.bel.size (o2 i hi), D'.bel, D'.rf, fun v hv => ?_⟩, D'.ss, fun i hi => ⟨D.lo i hi, fun e => ?_, fun v hv e => ?_⟩⟩
  · obtain ⟨g1, g2, g3⟩ := D'.vs v hv
    exact ⟨g1, fun e => by have := o2 _ e; have := (Array.getElem?_eq_some_iff.1 (D.vs v hv).1).1; omega, g3⟩
  · have := o2 i e
    have := (hlt i hi).1
    omega
  · exact (D.vs v hv).2.1 (by rw [e]; exact hi)
theorem Trio.apply {bo : Nat} {so : St} {co : Nat} (h : Trio w0 w b bo r s t c so co V) (tb : Tab w0) (nt : NTab w0) (hc : co ≤ 900000) (o : OpN) (ho : OpOk o) :
    Calls Tryz.prog 15 #[.pointer (some ⟨bo, 0, none⟩), opV o] w fun e w' => e = .returned (rpV (applyN so o).2) ∧ Trio w0 w' b bo r s t c (applyN so o).1 (co + 1) V := by
  obtain ⟨x, p, cap, q, cq, xo, D, S, hx⟩ := h
  refine (apply_any S (tb.below D.bel) (nt.below D.bel) hc o ho).mono ?_
  rintro e w' ⟨he, x', A⟩
  have hlt := D.ss.sv.lt
  refine ⟨he, x, p, cap, q, cq, x', ⟨D.ss.kept A.kept (fun i hi => (hx i hi).2.1), D.lo, kl_bel D.bel A.kept (fun i hi => (hx i hi).1), D.rf.same fun g hg => A.kept.block g (D.rf.lts hg).2 (D.rf.noown S hg), fun v hv => ?_⟩, A.ss, fun k hk => ?_⟩
  · obtain ⟨g1, g2⟩ := D.vs v hv
    exact ⟨(A.kept.block _ (Array.getElem?_eq_some_iff.1 g1).1 (fun e => (hx _ e).2.2 v hv rfl)).trans g1, g2⟩
  · rcases A.own k hk with g | g
    · exact hx k g
    · refine ⟨Nat.le_trans D.bel.size g, fun e => by have := (hlt k e).1; omega, fun v hv e => ?_⟩
      have := (Array.getElem?_eq_some_iff.1 (D.vs v hv).1).1
      omega
end
end Go.Proofs.YtiidhcpflplpiaaGreatDoor

set_option linter.unusedVariables false
namespace Go.Proofs.YtiidhcpflplpiaaGreatDoor.statePlays
open Go.ChangeShapes Go.WideShapes Go.ChangeAt Go.RowKit Crn Nxt Ste
open Go.ChangeMaps (open_string shut_string)

theorem top_lt8 {w : World} (tb : Tab w) (nt : NTab w) : topTab < w.heap.size := by
  have h1 := tb.size
  have h2 := nt.size
  unfold topTab
  omega
theorem fcT {W : World} {k : Nat} {t : Tm} (h : W.heap[k]? = some (tmO t)) : W.cell? ⟨k, 0, none⟩ = some (.int .i64 t.id) ∧ W.cell? ⟨k, 1, none⟩ = some (.int .i64 t.client) ∧ W.cell? ⟨k, 2, none⟩ = some (.int .i64 t.gen) ∧ W.cell? ⟨k, 3, none⟩ = some (.int .i64 t.due) ∧ W.cell? ⟨k, 4, none⟩ = some (.string t.cron) :=
  ⟨cell_in h 0, cell_in h 1, cell_in h 2, cell_in h 3, cell_in h 4⟩
theorem i640 : i64 0 := by unfold i64; omega
theorem i649 : i64 9 := by unfold i64; omega
theorem ok9 (k rq i d : Int) (h1 : i64 k) (h2 : i64 rq) (h3 : i64 i) (h4 : i64 d) : OpOk ⟨k, 9, rq, i, 0, 0, d, 0, 0, ⟨#[]⟩⟩ :=
  ⟨h1, i649, h2, h3, i640, i640, h4, i640, i640, by simp [ByteArray.size]⟩
set_option maxRecDepth 100000 in
set_option maxHeartbeats 16000000 in
theorem walk (timers : Int) (ht : i64 timers) (a : Option Addr) (n cap : Nat) (f : Nat → OpN) (ask : Int) (hask : i64 ask) (w : World) (tb : Tab w) (nt : NTab w) (hf : Ops w a n f) (hn : n ≤ 9223372036854775807) :
    Calls Tryz.prog 3 #[.int .i64 timers, .slice a n cap, .int .i64 ask] w fun e w' => e = .returned (.bool true) ∧ Below w.heap.size w w' := by
  have cw := Lib.hid (fun W (h : Below w.heap.size w W) => awake_any W (tb.below h) (nt.below h))
  have cf := Lib.hid (fun W (h : Below w.heap.size w W) => few_any W a n cap f (hf.keep h) hn)
  have hpos : topTab < w.heap.size := top_lt8 tb nt
  have cN := Lib.hid (fun W (h : Below w.heap.size w W) => new_run h hpos timers ht)
  have cA := Lib.hid (fun W b r s t c V (h : Duo w W b r s t c V) (hc : c ≤ 900000) o (ho : OpOk o) => h.apply tb nt hc o ho)
  have cT := Lib.hid (fun W b bo r s t c so co V (h : Trio w W b bo r s t c so co V) (hc : co ≤ 900000) o (ho : OpOk o) => h.apply tb nt hc o ho)
  have o9a := Lib.hid (ok9 1 1073741824 3 5 (by unfold i64; omega) (by unfold i64; omega) (by unfold i64; omega) (by unfold i64; omega))
  have o9b := Lib.hid (ok9 2 2147483648 7 0 (by unfold i64; omega) (by unfold i64; omega) (by unfold i64; omega) (by unfold i64; omega))
  replace hf := Lib.hid hf
  replace hask := Lib.hid hask
  clear tb nt hn hpos
  go_enter Tryz.func3, Tryz.ntmps3
  go_wp2_with fail
  refine (cw.out _ (Below.refl _ _)).mono ?_
  rintro e w1 ⟨rfl, k1⟩
  replace k1 := Lib.hid k1
  go_wp2_with fail
  refine (cf.out _ k1.out).mono ?_
  rintro e w2 ⟨⟨r, rfl, hr⟩, hw2⟩
  subst hw2
  cases r
  · clear hr
    go_wp2_with fail
    refine (cw.out _ k1.out).mono ?_
    rintro e w3 ⟨rfl, k3⟩
    go_wp2_with fail
    go_ret
    exact ⟨rfl, k1.out.trans (k3.mono k1.out.size)⟩
  · have hF := Lib.hid (hr rfl)
    clear hr cf cw
    go_wp2_with fail
    refine (cN.out _ k1.out).mono ?_
    rintro e w3 ⟨rfl, R3, k3⟩
    have cR := Lib.hid (rnew_any w.heap.size timers w3 R3.bel.size)
    replace R3 := Lib.hid R3
    clear cN k3
    generalize w2.heap.size + 3 = b at *
    go_wp2_with fail
    refine cR.out.mono ?_
    rintro e w4 ⟨rfl, F4, k4⟩
    have D4 := Lib.hid (duo_start R3.out k4 F4)
    generalize w3.heap.size = r at *
    clear cR R3 F4 k4 k1
    go_wp2_with fail
    go_loopw [7, 36] (fun v7 v36 wr => ∃ (k b : Nat), v7 = .pointer (some ⟨b, 0, none⟩) ∧ v36 = .int .i64 k ∧ (k : Int) ≤ n ∧ Hid (∃ s, Duo w wr b r s s k [])) (fun v7 v36 _ => ((n : Int) - intOf v36).toNat)
    case atStart => exact ⟨0, b, rfl, rfl, by omega, ⟨_, D4.out⟩⟩
    case round =>
      obtain ⟨k, b, rfl, rfl, hk, hI⟩ := hrel
      obtain ⟨s, R⟩ := hI.out
      clear D4 hI
      by_cases hlt : (k : Int) < n
      · obtain ⟨bo, off, rfl, z, c0, c1, c2, c3, c4, c5, c6, c7, c8, c9⟩ := (hf.out.keep R.bel).at k (by omega)
        have hok := Lib.hid (hF.out.ok (i := k) (by omega) z)
        have hk3 : Hid (k ≤ 300 ∧ n ≤ 300) := ⟨by have := hF.out.1; omega, hF.out.1⟩
        have hwk : IntKind.i64.wrap ((k : Int) + 1) = (k : Int) + 1 := IntWalk.i64_in _ (by have := hk3.out; omega)
        have hOk := Lib.hid R.ok
        have hgc := Lib.hid R.gc
        clear z
        generalize f k = o at *
        have R1 := Lib.hid (R.alloc (opO o))
        obtain ⟨w5, hw5⟩ : ∃ w5, wr.alloc (opO o) = w5 := ⟨_, rfl⟩
        go_upto_region 7 with fail
        rw [hw5] at R1
        try rw [hw5]
        clear R hw5
        generalize wr.heap.size = q at *
        have R1d := Lib.hid (R1.out.drewN 1)
        change Hid (Duo w w5.drew b r s s k _) at R1d
        have g1 : FC w5.drew q o := ⟨R1d.out.at (.head _)⟩
        have cF1 : Hid (∀ W V, Duo w W b r s s k V → Calls Tryz.prog 13 #[.pointer (some ⟨b, 0, none⟩), opV o] W fun e w' => e = .returned (.bool (firesB s o)) ∧ Duo w w' b r s s k V) := fun W V h => h.fires o hok.out
        have cF2 : Hid (∀ W V, Duo w W b r s s k V → Calls Tryz.prog 14 #[.pointer (some ⟨r, 0, none⟩), opV o] W fun e w' => e = .returned (.bool (firesB s o)) ∧ Duo w w' b r s s k V) := fun W V h => h.rfires o
        generalize firesB s o = fb at *
        clear R1 c0 c1 c2 c3 c4 c5 c6 c7 c8 c9
        go_region_held3 (fun w' => FC w' q o ∧ w'.cell? ⟨q, 0, none⟩ = some (.int .i64 o.kind) ∧ w'.cell? ⟨q, 1, none⟩ = some (.int .i64 o.client) ∧ w'.cell? ⟨q, 2, none⟩ = some (.int .i64 o.req) ∧ w'.cell? ⟨q, 3, none⟩ = some (.int .i64 o.id) ∧ w'.cell? ⟨q, 4, none⟩ = some (.int .i64 o.gen) ∧ w'.cell? ⟨q, 5, none⟩ = some (.int .i64 o.occ) ∧ w'.cell? ⟨q, 6, none⟩ = some (.int .i64 o.due) ∧ w'.cell? ⟨q, 7, none⟩ = some (.int .i64 o.stamp) ∧ w'.cell? ⟨q, 8, none⟩ = some (.int .i64 o.epoch) ∧ w'.cell? ⟨q, 9, none⟩ = some (.string o.cron))
          ((refine fcS ?_; (with_reducible first | exact g3 | exact g2 | exact g1)))
          (first
            | (go_at_call 13; refine (cF1.out _ _ R1d.out).mono ?_; rintro e w6 ⟨rfl, R2⟩; have g2 : FC w6 q o := ⟨R2.at (.head _)⟩; replace R2 := Lib.hid R2)
            | (go_at_call 14; refine (cF2.out _ _ R2.out).mono ?_; rintro e w7 ⟨rfl, R3⟩; have g3 : FC w7 q o := ⟨R3.at (.head _)⟩; replace R3 := Lib.hid R3))
        clear g1 g2 g3 R1d R2 cF1 cF2
        have cA1 : Hid (∀ W V, Duo w W b r s s k V → Calls Tryz.prog 15 #[.pointer (some ⟨b, 0, none⟩), opV o] W fun e w' => e = .returned (rpV (applyN s o).2) ∧ Duo w w' b r (applyN s o).1 s (k + 1) V) := fun W V h => cA.out W b r s s k V h (by have := hk3.out; omega) o hok.out
        have cA2 : Hid (∀ W V, Duo w W b r (applyN s o).1 s (k + 1) V → Calls Tryz.prog 16 #[.pointer (some ⟨r, 0, none⟩), opV o] W fun e w' => e = .returned (rpV (applyN s o).2) ∧ Duo w w' b r (applyN s o).1 (applyN s o).1 (k + 1) V) := fun W V h => h.rapply hOk.out (by have := hgc.out; have := hk3.out; omega) o hok.out
        generalize applyN s o = AS at *
        obtain ⟨s2, re, rg, rd⟩ := AS
        simp only [rpV] at cA1 cA2
        go_upto_region 9 with fail
        have R3d := Lib.hid (R3.out.drewN 1)
        change Hid (Duo w w7.drew b r s s k _) at R3d
        have g1 : FC w7.drew q o := ⟨R3d.out.at (.head _)⟩
        go_region_held3 (fun w' => FC w' q o ∧ w'.cell? ⟨q, 0, none⟩ = some (.int .i64 o.kind) ∧ w'.cell? ⟨q, 1, none⟩ = some (.int .i64 o.client) ∧ w'.cell? ⟨q, 2, none⟩ = some (.int .i64 o.req) ∧ w'.cell? ⟨q, 3, none⟩ = some (.int .i64 o.id) ∧ w'.cell? ⟨q, 4, none⟩ = some (.int .i64 o.gen) ∧ w'.cell? ⟨q, 5, none⟩ = some (.int .i64 o.occ) ∧ w'.cell? ⟨q, 6, none⟩ = some (.int .i64 o.due) ∧ w'.cell? ⟨q, 7, none⟩ = some (.int .i64 o.stamp) ∧ w'.cell? ⟨q, 8, none⟩ = some (.int .i64 o.epoch) ∧ w'.cell? ⟨q, 9, none⟩ = some (.string o.cron))
          ((refine fcS ?_; (with_reducible first | exact g3 | exact g2 | exact g1)))
          (first
            | (go_at_call 15; refine (cA1.out _ _ R3d.out).mono ?_; rintro e w8 ⟨rfl, R4⟩; have g2 : FC w8 q o := ⟨R4.at (.head _)⟩; replace R4 := Lib.hid R4)
            | (go_at_call 16; refine (cA2.out _ _ R4.out).mono ?_; rintro e w9 ⟨rfl, R5⟩; have g3 : FC w9 q o := ⟨R5.at (.head _)⟩; replace R5 := Lib.hid R5))
        clear g1 g2 g3 R3 R3d R4 cA1 cA2
        have hOk2 := Lib.hid R5.out.ok
        have cg := Lib.hid (R5.out.get ask hask.out)
        have cg2 : Hid (∀ W V, Duo w W b r s2 s2 (k + 1) V → Calls Tryz.prog 18 #[.pointer (some ⟨r, 0, none⟩), .int .i64 ask] W fun e w' => e = .returned (.tuple #[tmV (valT s2.T ask), .int .i64 (getE s2.T ask)]) ∧ Duo w w' b r s2 s2 (k + 1) V) := fun W V h => h.rget ask
        generalize valT s2.T ask = tv at *
        generalize getE s2.T ask = ge at *
        obtain ⟨tid, tc, tg, td, tcr⟩ := tv
        simp only [tmV] at cg cg2
        go_wp2_with fail
        refine cg.out.mono ?_
        rintro e w10 ⟨rfl, R6⟩
        have R7 := Lib.hid (R6.alloc (tmO ⟨tid, tc, tg, td, tcr⟩))
        clear cg R6 R5
        go_wp2_with fail
        refine (cg2.out _ _ R7.out).mono ?_
        rintro e w11 ⟨rfl, R8⟩
        have R9 := Lib.hid (R8.alloc (tmO ⟨tid, tc, tg, td, tcr⟩))
        obtain ⟨w12, hw12⟩ : ∃ w12, w11.alloc (tmO ⟨tid, tc, tg, td, tcr⟩) = w12 := ⟨_, rfl⟩
        clear cg2 R8 R7
        go_upto_region 13 with fail
        rw [hw12] at R9
        try rw [hw12]
        clear hw12
        generalize w11.heap.size = q3 at *
        generalize w10.heap.size = q2 at *
        have RD := Lib.hid (R9.out.drewN 1)
        change Hid (Duo w w12.drew b r s2 s2 (k + 1) _) at RD
        obtain ⟨pr, capr, _, _, hrow⟩ := RD.out.rrow
        replace hrow := Lib.hid hrow
        have sc : ∀ W, Below w12.drew.heap.size w12.drew W → W.cell? ⟨r, 2, none⟩ = some (.slice pr s2.T.length capr) ∧ W.cell? ⟨q2, 0, none⟩ = some (.int .i64 tid) ∧ W.cell? ⟨q2, 1, none⟩ = some (.int .i64 tc) ∧ W.cell? ⟨q2, 2, none⟩ = some (.int .i64 tg) ∧ W.cell? ⟨q2, 3, none⟩ = some (.int .i64 td) ∧ W.cell? ⟨q2, 4, none⟩ = some (.string tcr) ∧ W.cell? ⟨q3, 0, none⟩ = some (.int .i64 tid) ∧ W.cell? ⟨q3, 1, none⟩ = some (.int .i64 tc) ∧ W.cell? ⟨q3, 2, none⟩ = some (.int .i64 tg) ∧ W.cell? ⟨q3, 3, none⟩ = some (.int .i64 td) ∧ W.cell? ⟨q3, 4, none⟩ = some (.string tcr) := fun W hW => by
          have D := RD.out.below hW
          obtain ⟨a0, a1, a2, a3, a4⟩ := fcT (t := ⟨tid, tc, tg, td, tcr⟩) (D.at (k := q2) (.tail _ (.head _)))
          obtain ⟨b0, b1, b2, b3, b4⟩ := fcT (t := ⟨tid, tc, tg, td, tcr⟩) (D.at (k := q3) (.head _))
          exact ⟨(hrow.out W hW).1, a0, a1, a2, a3, a4, b0, b1, b2, b3, b4⟩
        have d0 := Below.refl w12.drew.heap.size w12.drew
        have cL := Lib.hid RD.out.list
        go_region_held3 (fun w' => w'.cell? ⟨r, 2, none⟩ = some (.slice pr s2.T.length capr) ∧ w'.cell? ⟨q2, 0, none⟩ = some (.int .i64 tid) ∧ w'.cell? ⟨q2, 1, none⟩ = some (.int .i64 tc) ∧ w'.cell? ⟨q2, 2, none⟩ = some (.int .i64 tg) ∧ w'.cell? ⟨q2, 3, none⟩ = some (.int .i64 td) ∧ w'.cell? ⟨q2, 4, none⟩ = some (.string tcr) ∧ w'.cell? ⟨q3, 0, none⟩ = some (.int .i64 tid) ∧ w'.cell? ⟨q3, 1, none⟩ = some (.int .i64 tc) ∧ w'.cell? ⟨q3, 2, none⟩ = some (.int .i64 tg) ∧ w'.cell? ⟨q3, 3, none⟩ = some (.int .i64 td) ∧ w'.cell? ⟨q3, 4, none⟩ = some (.string tcr))
          (exact sc _ (by with_reducible first | exact d0 | exact k13 | exact b14))
          (first
            | (go_at_call 20; refine cL.out.mono ?_; rintro e w13 ⟨pl, capl, rfl, k13, T13, hl13⟩)
            | (go_at_call 19; refine (same_any _ _ _ s2.T _ _ T13 (hrow.out _ k13).2 hl13).mono ?_; rintro e w14 ⟨rfl, k14⟩; have b14 := k13.trans (k14.mono k13.size)))
        have R14 := Lib.hid ((RD.out.below b14).less (U := []) (fun p hp => by cases hp))
        clear d0 cL k13 T13 hl13 b14 k14 RD sc hrow R9
        obtain ⟨qk, cqk, hk3c, hkat⟩ := R14.out.krow
        have hKl : Hid (s2.K.length ≤ 3) := hOk2.out.few
        have e3 := hk3c w14 (Below.refl _ _)
        replace hk3c := True.intro
        replace hkat := Lib.hid hkat
        go_wp2_with fail
        clear e3
        go_loopw [15, 90] (fun v15 v90 wi => ∃ (j : Nat), v90 = .int .i64 j ∧ (j : Int) ≤ s2.K.length ∧ Hid (Below w14.heap.size w14 wi) ∧ Hid (Nums w14.heap.size wi v15 ((clOf s2).take j))) (fun _ v90 _ => ((s2.K.length : Int) - intOf v90).toNat)
        case atStart => exact ⟨0, rfl, by omega, Below.refl _ _, World.ownsRow_nil _ _ _ _⟩
        case round =>
          obtain ⟨j, rfl, hj, hb, hN⟩ := hrel
          by_cases hjl : (j : Int) < s2.K.length
          · as_aux_lemma =>
            have hjn : j < s2.K.length := by omega
            obtain ⟨gk, rfl, hcell⟩ := hkat.out j hjn
            obtain ⟨y0, y1, y2, y3, y4⟩ := hcell wr hb.out
            have hkn := hOk2.out.kn _ (List.getElem_mem hjn)
            have hval : valK s2.K s2.K[j].client = s2.K[j] ∧ hasK s2.K s2.K[j].client = true := by
              unfold valK hasK
              rw [known_of hOk2.out.apart (List.getElem_mem hjn)]
              exact ⟨rfl, rfl⟩
            have htk : (clOf s2).take (j + 1) = (clOf s2).take j ++ [s2.K[j].client] := by
              unfold clOf
              rw [← List.map_take, List.take_succ_eq_append_getElem hjn, List.map_append, List.map_take]
              rfl
            have hcl : i64 s2.K[j].client := hkn.client
            have cLast : Hid (∀ W, Below w14.heap.size w14 W → Calls Tryz.prog 21 #[.pointer (some ⟨b, 0, none⟩), .int .i64 s2.K[j].client] W fun e w' => e = .returned (.tuple #[.int .i64 s2.K[j].req, rpV s2.K[j].rp, .bool true]) ∧ Below W.heap.size W w') := fun W hW => by
              have := (R14.out.below hW).last s2.K[j].client hcl
              rw [hval.1, hval.2] at this
              exact this
            have hvq : Hid (∀ g, u15.ownBlock = some g → g < wr.heap.size) := fun g hg => (World.ownsRow.lt hN.out g hg).2
            have htk2 : Hid ((clOf s2).take (j + 1) = (clOf s2).take j ++ [s2.K[j].client]) := htk
            clear hval hcl hkn hcell htk
            generalize s2.K[j] = kk at *
            obtain ⟨kc, kreq, ke, kg, kd⟩ := kk
            simp only [rpV] at htk2 cLast y0 y1 y2 y3 y4
            have hj0 : (0 : Int) ≤ (j : Int) := by omega
            have hwj : IntKind.i64.wrap ((j : Int) + 1) = (j : Int) + 1 := IntWalk.i64_in _ (by have := hKl.out; omega)
            have bA : Below wr.heap.size wr (wr.alloc (.cells #[.int .i64 kc, .int .i64 kreq, .int .i64 ke, .int .i64 kg, .int .i64 kd] 50)) := (Below.refl _ _).alloc (Nat.le_refl _) _
            have hA := Go.heap_alloc_new wr (.cells #[.int .i64 kc, .int .i64 kreq, .int .i64 ke, .int .i64 kg, .int .i64 kd] 50)
            have NA : Hid (Nums w14.heap.size (wr.alloc (.cells #[.int .i64 kc, .int .i64 kreq, .int .i64 ke, .int .i64 kg, .int .i64 kd] 50)) u15 ((clOf s2).take j)) := nums_below hN.out bA
            have hbA : Hid (Below w14.heap.size w14 (wr.alloc (.cells #[.int .i64 kc, .int .i64 kreq, .int .i64 ke, .int .i64 kg, .int .i64 kd] 50))) := hb.out.trans (bA.mono hb.out.size)
            have hlA : Hid (wr.heap.size < (wr.alloc (.cells #[.int .i64 kc, .int .i64 kreq, .int .i64 ke, .int .i64 kg, .int .i64 kd] 50)).heap.size) := by show _ < _; simp
            go_upto_region 19 with fail
            clear y0 y1 y2 y3 y4 bA hb hN
            generalize wr.alloc (.cells #[.int .i64 kc, .int .i64 kreq, .int .i64 ke, .int .i64 kg, .int .i64 kd] 50) = wa at *
            generalize wr.heap.size = qa at *
            obtain ⟨i0, hi0, hz0, hzs, hzb⟩ := info_parts Tryz.info3c
            have bB : Below wa.heap.size wa (wa.alloc (.cells #[.int .i64 kc] 3)) := (Below.refl _ _).alloc (Nat.le_refl _) _
            have NB := nums_below NA.out bB
            have hcB : ∀ j u, ([Value.int .i64 kc])[j]? = some u → (wa.alloc (.cells #[.int .i64 kc] 3)).cell? ((⟨wa.heap.size, 0, none⟩ : Addr).add j) = some u := fun j u hu => by
              rw [Addr.add_lit]
              match j, hu with
              | 0, hu => simp at hu; subst hu; simp
            have hl3 : ((clOf s2).take j).length ≤ 3 := by
              have := hKl.out
              unfold clOf
              rw [List.length_take, List.length_map]
              omega
            obtain ⟨pv, cv, rfl⟩ := own_sliceC NB
            obtain ⟨v', wb, rB, oB, gB, -⟩ := run_append_own (P := Tryz.prog) (wa.alloc (.cells #[.int .i64 kc] 3)) w14.heap.size 48 48 3 i0 _ 1 8 Tryz.underlying48 hi0 hz0 hzs hzb rfl (by omega) _ _ _ NB ⟨wa.heap.size, 0, none⟩ 1 1 [.int .i64 kc] rfl hcB (fun u hu => by simp at hu; subst hu; rfl) (by unfold maxLen; omega) (by omega) (Nat.le_trans hbA.out.size bB.size)
            have hbB : Hid (Below w14.heap.size w14 wb) := by
              have h1 := hbA.out.trans (bB.mono hbA.out.size)
              exact h1.grown gB h1.size (fun k hk => (World.ownsRow.lt NB k hk).1)
            have NB2 : Hid (Nums w14.heap.size wb v' ((clOf s2).take (j + 1))) := by
              show World.ownsRow _ _ _ _ _ _ _
              rw [htk2.out, List.length_append, List.map_append]
              exact oB
            have hAb := (gB.block qa (Nat.lt_of_lt_of_le hlA.out bB.size) (fun e => by have := hvq.out qa e.symm; omega)).trans ((bB.block qa hlA.out).trans hA)
            have x0 := cell_in hAb 0
            have xa := cell_in hA 0
            replace rB := Lib.hid rB
            clear gB oB NB bB hcB NA hbA hA
            go_wp2_with (at_builtin; refine Lib.wpList_append_run _ rfl _ _ _ _ rfl _ _ rfl rfl _ _ rB.out ?_)
            refine (cLast.out _ hbB.out).mono ?_
            rintro e wc ⟨rfl, kc2⟩
            have hAc := (kc2.block qa (lt_in hAb)).trans hAb
            have bD : Below wc.heap.size wc (wc.alloc (.cells #[.int .i64 ke, .int .i64 kg, .int .i64 kd] 34)) := (Below.refl _ _).alloc (Nat.le_refl _) _
            have hAd := (bD.block qa (lt_in hAc)).trans hAc
            have x1 := cell_in hAd 1
            have x2 := cell_in hAd 2
            have x3 := cell_in hAd 3
            have x4 := cell_in hAd 4
            have NE : Hid (Nums w14.heap.size (wc.alloc (.cells #[.int .i64 ke, .int .i64 kg, .int .i64 kd] 34)) v' ((clOf s2).take (j + 1))) := nums_below (nums_below NB2.out kc2) bD
            have hbE : Hid (Below w14.heap.size w14 (wc.alloc (.cells #[.int .i64 ke, .int .i64 kg, .int .i64 kd] 34))) := by
              have h1 := hbB.out.trans (kc2.mono hbB.out.size)
              exact h1.trans (bD.mono h1.size)
            clear x0 xa rB hAb hAc hAd kc2 bD NB2 hbB cLast
            go_wp2_with fail
            exact ⟨⟨j + 1, by go_num, by omega, hbE, NE⟩, by simp [intOf]; omega⟩
          · as_aux_lemma =>
            have hje : (clOf s2).take j = clOf s2 := List.take_of_length_le (by unfold clOf; simp; omega)
            rw [hje] at hN
            have Ri := Lib.hid (R14.out.below hb.out)
            have cC := Lib.hid Ri.out.clients
            clear hje hkat hb R14
            go_wp2_with fail
            refine cC.out.mono ?_
            rintro e wc ⟨v1, rfl, N1, kc2, hl3⟩
            have N2 := nums_below hN.out kc2
            have Rc := Lib.hid (Ri.out.below kc2)
            clear cC Ri kc2 hN
            go_wp2_with fail
            refine (nums_same _ v1 _ _ _ _ _ N1 N2 (by omega) (by omega) true (by simp)).mono ?_
            rintro e wd ⟨rfl, kd2⟩
            have Rd := Lib.hid (Rc.out.below kd2)
            clear Rc N1 N2 kd2 hl3
            by_cases h5 : k % 5 = 2
            · have e5 : ((k : Int) % 5 == 2) = true := by simp; omega
              replace h5 := Lib.hid h5
              go_wp2_with fail
              refine (Rd.out.copy).mono ?_
              rintro e we ⟨b2, rfl, X⟩
              replace X := Lib.hid X
              clear Rd
              go_wp2_with fail
              refine (cT.out _ _ _ _ _ _ _ _ _ _ X.out (by have := hk3.out; omega) _ o9a.out).mono ?_
              rintro e wg ⟨rfl, X2⟩
              replace X2 := Lib.hid X2
              clear X
              go_wp2_with fail
              refine (cT.out _ _ _ _ _ _ _ _ _ _ X2.out (by have := hk3.out; omega) _ o9b.out).mono ?_
              rintro e wh ⟨rfl, X3⟩
              have X4 := Lib.hid X3.duo
              clear X2 X3
              go_wp2_with fail
              exact ⟨⟨k + 1, b2, rfl, by go_num, by omega, ⟨_, X4.out⟩⟩, by simp [intOf]; omega⟩
            · have e5 : ((k : Int) % 5 == 2) = false := by simp; omega
              replace h5 := Lib.hid h5
              go_wp2_with fail
              exact ⟨⟨k + 1, b, rfl, by go_num, by omega, ⟨_, Rd.out⟩⟩, by simp [intOf]; omega⟩
      · go_wp2_with fail
        go_ret
        exact ⟨rfl, R.bel⟩


set_option maxRecDepth 100000 in
theorem contract (H : Type) (enc : TypeId × Value → H) (W : World) (base : Nat) (args : Array Value) (ds gs : List (DataW H)) (before : List MemPlace)
    (hval : ∀ (j : Nat) t v, Tryz.f3.params[j]? = some t → args[j]? = some v → Value.okWide Tryz.prog W .any base t v)
    (hW : DataW.Whole enc Tryz.prog Tryz.f3.params.toList Rows.statePlaysSpec.vars false W args.toList ds gs before) (hL : laidMetH Tryz.prog Rows.statePlaysRow.laid W) (hS : W.ShapedOpen Tryz.prog) :
    Calls Tryz.prog 3 args W fun e W' => ∃ v, e = .returned v ∧ Rows.statePlaysSpec.post enc Tryz.prog Tryz.f3 false true false false W args v W' := by
  have hW' := hW
  obtain ⟨p, q, hA0, hV, rfl, hfz, hnd⟩ := hW
  have hA : DataW.TrodAll enc Tryz.prog W 0 (fun _ => true) true Tryz.f3.params.toList args.toList ds p := hA0
  rw [Tryz.params3] at hA hval
  obtain ⟨v0, vs0, d0, ds0, p0, q0, hargs, rfl, rfl, h0, r0⟩ := trodAll_cons hA
  obtain ⟨v1, vs1, d1, ds1, p1, q1, rfl, rfl, rfl, h1, r1⟩ := trodAll_cons r0
  obtain ⟨v2, vs2, d2, ds2, p2, q2, rfl, rfl, rfl, h2, r2⟩ := trodAll_cons r1
  obtain ⟨rfl, rfl, rfl⟩ := trodAll_nil r2
  obtain rfl : args = #[v0, v1, v2] := by clear hL hS hW' hval; cases args; simp_all
  obtain ⟨rfl, rfl⟩ := trodVars_none hV
  obtain ⟨a0, rfl, rfl, rfl, w0⟩ := open_int Tryz.underlying3 (hval 0 3 v0 rfl rfl) h0
  obtain ⟨b1, len1, cap1, rfl⟩ := okWide_slice Tryz.underlying22 (hval 1 22 v1 rfl rfl)
  have k1 := h1
  have lt1 : ∀ x ∈ p1, x.block < W.heap.size := by obtain ⟨m, hm⟩ := k1; exact DataW.trod_lt m _ _ _ hm
  obtain ⟨f1, tx1, ln1⟩ : ∃ f, Ops W b1 len1 f ∧ len1 ≤ 9223372036854775807 := by
    obtain ⟨fuel, hf⟩ := h1
    exact ops_of hf
  obtain ⟨a2, rfl, rfl, rfl, w2⟩ := open_int Tryz.underlying3 (hval 2 3 v2 rfl rfl) h2
  clear hA0
  simp only [List.append_nil] at hW'
  refine (walk a0 (wf_i64 w0) b1 len1 cap1 f1 a2 (wf_i64 w2) W (table hL hS) (tables hL hS) tx1 ln1).mono fun e W' ⟨he, hg⟩ => ?_
  subst he
  exact ⟨_, rfl, _, _, _, [], _, [], hW', trodAll_cons_mk (shut_bool Tryz.underlying4 _) trodAll_mk0, trodAll_cons_mk (shut_int Tryz.underlying3 w0) (trodAll_cons_mk (Below.trod laidOut8 (by kernel_rfl) (of_decide_eq_true (by kernel_rfl)) k1 hg lt1) (trodAll_cons_mk (shut_int Tryz.underlying3 w2) trodAll_mk0)), rfl, hg.frame _, fun h => by cases h⟩

theorem reads (os : Os) {H : Type} (enc : TypeId × Value → H) : ∃ places, DataW.whole enc Tryz.prog ((laidWorld os).forCall (fun _ _ => 0) ⟨#[], #[.int .i64 0, .slice none 0 0, .int .i64 0], []⟩).memory Tryz.f3.params.toList Rows.statePlaysSpec.vars false (#[.int .i64 0, .slice none 0 0, .int .i64 0] : Array Value).toList 8 = some ([.lit (.int .i64 0), .nil, .lit (.int .i64 0)], [], places) :=
  ⟨[], by kernel_rfl⟩

set_option maxRecDepth 100000 in
theorem lifted (os : Os) (started : os.Started) (H : Type) (enc : TypeId × Value → H) (F : Stop.Interp) :
    ReturnsInHanded {} Tryz.checked os 3 .any ((OpenSpec.ofChange Rows.statePlaysSpec).preRow enc Tryz.prog Tryz.f3 Rows.statePlaysRow.domain false Rows.statePlaysRow.laid) (((OpenSpec.ofChange Rows.statePlaysSpec).at F).post enc Tryz.prog Tryz.f3 false true false false) := by
  obtain ⟨places, hx⟩ := reads os enc
  refine returnsInHanded_of_row (C := Tryz.checked) (s := OpenSpec.ofChange Rows.statePlaysSpec) ownKb started (by kernel_rfl) Tryz.func3
    (witness_row_at (enc := enc) (C := Tryz.checked) false (laidWorld os) #[.int .i64 0, .slice none 0 0, .int .i64 0] (World.laidAll_os _ _ _) (by kernel_rfl) (by kernel_rfl) (by kernel_rfl)
      (OpenSpec.preRow_of_cond 8 hx (by kernel_rfl) (fun k hk => by cases hk) (by kernel_rfl) (laid_met os _))) ?_
  intro W base args ds gs before hval hW _ _ _ hL hS _
  exact contract H enc W base args ds gs before hval hW hL hS

theorem said : Rows.StatePlaysSaid :=
  OpenClaim.holds_of_cond 3 Tryz.f3 rfl rfl rfl rfl rfl rfl rfl ⟨rfl, rfl, rfl, rfl, rfl⟩ rfl rfl rfl rfl rfl (by kernel_rfl) Tryz.func3 (by kernel_rfl)
    (of_decide_eq_true (by kernel_rfl)) (by unfold Func.isWrapper; first | (rw [if_pos (by decide +kernel)]; kernel_rfl) | (rw [if_neg (by decide +kernel)]; exact ⟨rfl, rfl⟩))
    (fun os started H enc _ F => by rw [OpenClaim.pre_eq_preRow]; exact lifted os started H enc F)

theorem plain (f : FuncId) (fn : Func) (hf : Tryz.pinned.checked.prog.funcNamed "tompion/tompionlaw08.StatePlays" = some f) (hfn : Tryz.pinned.checked.prog.funcs[f]? = some fn) :
    true = Tryz.pinned.checked.prog.looks [] ∧ ∀ (j : Nat) t, fn.params[j]? = some t → Tryz.pinned.checked.prog.wantsStandIn t = false := by
  obtain rfl : f = 3 := Option.some.inj ((show Tryz.prog.funcNamed "tompion/tompionlaw08.StatePlays" = some 3 by kernel_rfl).symm.trans hf) |>.symm
  obtain rfl : fn = Tryz.f3 := (Option.some.inj (Tryz.func3.symm.trans hfn)).symm
  refine ⟨by kernel_rfl, fun j t ht => ?_⟩
  rw [Tryz.params3] at ht
  have hm := Array.mem_of_getElem? ht
  simp at hm
  replace hm : t = 3 ∨ t = 22 := by first | (rcases hm with e | e | e <;> simp [e]) | (rcases hm with e | e <;> simp [e])
  rcases hm with rfl | rfl
  · exact (show Tryz.prog.wantsStandIn 3 = false by kernel_rfl)
  · exact (show Tryz.prog.wantsStandIn 22 = false by kernel_rfl)

/-- The statement: the card, its tables tied to the program's text. -/
theorem proved : Rows.StatePlaysCardSaid :=
  Claim7.holds_tied_plain_at .later [] _ _ _ _ said (fun _ h => by cases h) (by kernel_rfl) (fun _ h => by cases h) statePlays_row_tie rfl ⟨rfl, rfl⟩ (by kernel_rfl) rfl plain (by kernel_rfl)
#print axioms proved
end Go.Proofs.YtiidhcpflplpiaaGreatDoor.statePlays
