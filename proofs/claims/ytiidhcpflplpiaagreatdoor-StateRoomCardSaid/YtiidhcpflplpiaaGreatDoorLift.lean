/-
  What every statement of layer 5 shares: from what the row lists to the tables' cells, a world that holds all that it lists (the witness), and a spec that is handed in.
-/
import Derived.Test.YtiidhcpflplpiaaGreatDoorNAwake
import Derived.Test.YtiidhcpflplpiaaGreatDoorNRNext
import Derived.Test.YtiidhcpflplpiaaGreatDoorCards
import Derived.Test.YtiidhcpflplpiaaGreatDoorTie
import Derived.Deep.DeepHandedRow
import Derived.Lib.LaidU8
import Derived.Lib.SmallJoins
import Derived.Shelf.Vars
import Derived.Lay
import Derived.MakeChecks
import Derived.WalkKit
import Derived.ProofKit
import Derived.OpenShut
import Derived.ShutString
set_option linter.unusedVariables false
namespace Go.Proofs.YtiidhcpflplpiaaGreatDoor
open Go.ChangeShapes Go.WideShapes Go.ChangeAt Go.RowKit Go.Joins Go.Deep Crn

theorem ownKb : ownKnob Tryz.prog.godebug = none := by kernel_rfl
theorem gTab : Tryz.prog.globalNamed "tompion/cron.spans" = some 0 := by kernel_rfl
theorem gTabType : (Tryz.prog.globals[0]?).map (·.type) = some 188 := by kernel_rfl
theorem cells3 : Tryz.prog.cellsOf 3 = 1 := by kernel_rfl
theorem cells52 : Tryz.prog.cellsOf 179 = 2 := by kernel_rfl
theorem cells23 : Tryz.prog.cellsOf 62 = 1 := by kernel_rfl
theorem cells4 : Tryz.prog.cellsOf 4 = 1 := by kernel_rfl
theorem cells25 : Tryz.prog.cellsOf 64 = 8 := by kernel_rfl

theorem spans_data : ∀ i, i < 5 → ([.agg [.lit (.int .i64 0), .lit (.int .i64 59)], .agg [.lit (.int .i64 0), .lit (.int .i64 23)], .agg [.lit (.int .i64 1), .lit (.int .i64 31)], .agg [.lit (.int .i64 1), .lit (.int .i64 12)], .agg [.lit (.int .i64 0), .lit (.int .i64 6)]] : List (DataW Unit))[i]? = some (.agg (([(low i : Int), (top i : Int)] : List Int).map fun z => .lit (.int .i64 z))) := by
  intro i hi
  match i, hi with
  | 0, _ => rfl
  | 1, _ => rfl
  | 2, _ => rfl
  | 3, _ => rfl
  | 4, _ => rfl

/-- What the rows list gives the cells of the table; what the form says of every variable gives the library's number. -/
theorem table {W : World} (h : laidMetH Tryz.prog Rows.statePlaysRow.laid W) (hs : W.ShapedOpen Tryz.prog) : Tab W := by
  rw [MakeChecks.laidMetH_plain _ _ _ (by kernel_rfl)] at h
  obtain ⟨g, t, cs, fuel, p, hg, hty, hvar, hd⟩ := Lib.laidMet.reads h (n := "tompion/cron.spans") (d := Rows.laid_tompion_cron_spans) (by
    unfold Rows.statePlaysRow
    exact .tail _ (.tail _ (.tail _ (.head _))))
  obtain rfl := Option.some.inj (gTab.symm.trans hg)
  obtain rfl := Option.some.inj (gTabType.symm.trans hty)
  obtain ⟨m, hm⟩ := Go.Proofs.cell_of_shapedOpen_int (g := 3) (t := 3) (zero := #[.int .i64 0]) (k := .i64) hs (of_decide_eq_true (by kernel_rfl)) (by kernel_rfl) rfl (by kernel_rfl) (by kernel_rfl) Tryz.underlying3
  refine ⟨fun i hi => ?_, ⟨m, hm⟩, ?_⟩
  · obtain ⟨fuel', d, q, hdi, he⟩ := Lib.array_elem Tryz.underlying188 hd i hi
    obtain rfl := Option.some.inj ((spans_data i hi).symm.trans hdi)
    rw [cells52] at he
    have hcs := Lib.ints_of_struct Tryz.underlying179 (fun j f hj => by
      match j, hj with
      | 0, hj => simp at hj; subst hj; exact ⟨Tryz.underlying3, rfl, cells3⟩
      | 1, hj => simp at hj; subst hj; exact ⟨Tryz.underlying3, rfl, cells3⟩
      | j + 2, hj => simp at hj) (by rw [cells52]; rfl) he
    have e0 := congrArg (·[0]?) hcs
    have e1 := congrArg (·[1]?) hcs
    simp only [List.getElem?_take, List.getElem?_drop] at e0 e1
    constructor
    · rw [World.var?_cell hg hvar (2 * i), ← Array.getElem?_toList]
      simpa [Nat.mul_comm] using e0
    · rw [World.var?_cell hg hvar (2 * i + 1), ← Array.getElem?_toList]
      simpa [Nat.mul_comm] using e1
  · have hm1 : 3 < W.heap.size := World.block_lt_of_cell? W _ hm
    omega
theorem gCiv : Tryz.prog.globalNamed "tompion/civil.ahead" = some 2 := by kernel_rfl
theorem gCivType : (Tryz.prog.globals[2]?).map (·.type) = some 228 := by kernel_rfl
theorem gBru : Tryz.prog.globalNamed "math/bits.deBruijn64tab" = some 1 := by kernel_rfl
theorem gBruType : (Tryz.prog.globals[1]?).map (·.type) = some 227 := by kernel_rfl
theorem cellsU8 : Tryz.prog.cellsOf 5 = 1 := by kernel_rfl
theorem civ_data : ∀ i, i < 13 → ([.lit (.int .i64 0), .lit (.int .i64 31), .lit (.int .i64 59), .lit (.int .i64 90), .lit (.int .i64 120), .lit (.int .i64 151), .lit (.int .i64 181), .lit (.int .i64 212), .lit (.int .i64 243), .lit (.int .i64 273), .lit (.int .i64 304), .lit (.int .i64 334), .lit (.int .i64 365)] : List (DataW Unit))[i]? = some (.lit (.int .i64 (Civ.tab.getD i 0 : Nat))) := by
  intro i hi
  have h : i = 0 ∨ i = 1 ∨ i = 2 ∨ i = 3 ∨ i = 4 ∨ i = 5 ∨ i = 6 ∨ i = 7 ∨ i = 8 ∨ i = 9 ∨ i = 10 ∨ i = 11 ∨ i = 12 := by omega
  rcases h with rfl | rfl | rfl | rfl | rfl | rfl | rfl | rfl | rfl | rfl | rfl | rfl | rfl <;> rfl
def bruD : List (DataW Unit) := Lib.deBruijn64tab.map fun n => .lit (.int .u8 (n : Nat))
theorem bru_agg : (Rows.laid_math_bits_deBruijn64tab : DataW Unit) = .agg bruD := by rfl
theorem bru_data (i : Nat) (hi : i < 64) : bruD[i]? = some (.lit (.int .u8 (Lib.deBruijn64tab.getD i 0 : Nat))) := by
  have hl : Lib.deBruijn64tab.length = 64 := by decide
  unfold bruD
  rw [List.getElem?_map, List.getElem?_eq_getElem (by omega), List.getD_eq_getElem?_getD, List.getElem?_eq_getElem (by omega)]
  rfl
/-- .. and those of civil and math/bits. -/
theorem tables {W : World} (h : laidMetH Tryz.prog Rows.statePlaysRow.laid W) (hs : W.ShapedOpen Tryz.prog) : NTab W := by
  rw [MakeChecks.laidMetH_plain _ _ _ (by kernel_rfl)] at h
  have hciv : V.Tab W := by
    obtain ⟨g, t, cs, fuel, p, hg, hty, hvar, hd⟩ := Lib.laidMet.reads h (n := "tompion/civil.ahead") (d := Rows.laid_tompion_civil_ahead) (by
      unfold Rows.statePlaysRow
      exact .tail _ (.head _))
    obtain rfl := Option.some.inj (gCiv.symm.trans hg)
    obtain rfl := Option.some.inj (gCivType.symm.trans hty)
    intro i hi
    obtain ⟨fuel', d, q, hdi, he⟩ := Lib.array_elem Tryz.underlying228 hd i hi
    obtain rfl := Option.some.inj ((civ_data i hi).symm.trans hdi)
    rw [cells3] at he
    obtain ⟨n, e0, e1, _⟩ := DataW.trod_int Tryz.underlying3 he
    rw [World.var?_cell hg hvar i, ← Array.getElem?_toList]
    have e2 := congrArg (·[0]?) e0
    simp only [List.getElem?_take, List.getElem?_drop] at e2
    have e3 : n = ((Civ.tab.getD i 0 : Nat) : Int) := by
      have g := e1.symm
      simp at g
      simpa using g.1
    subst e3
    simpa using e2
  have hbru : Bru W := by
    obtain ⟨g, t, cs, fuel, p, hg, hty, hvar, hd⟩ := Lib.laidMet.reads h (n := "math/bits.deBruijn64tab") (d := Rows.laid_math_bits_deBruijn64tab) (by
      unfold Rows.statePlaysRow
      exact .head _)
    obtain rfl := Option.some.inj (gBru.symm.trans hg)
    obtain rfl := Option.some.inj (gBruType.symm.trans hty)
    rw [bru_agg] at hd
    intro i hi
    obtain ⟨fuel', d, q, hdi, he⟩ := Lib.array_elem Tryz.underlying227 hd i hi
    obtain rfl := Option.some.inj ((bru_data i hi).symm.trans hdi)
    rw [cellsU8] at he
    obtain ⟨n, e0, e1, _⟩ := DataW.trod_int Tryz.underlying5 he
    rw [World.var?_cell hg hvar i, ← Array.getElem?_toList]
    have e2 := congrArg (·[0]?) e0
    simp only [List.getElem?_take, List.getElem?_drop] at e2
    have e3 : n = ((Lib.deBruijn64tab.getD i 0 : Nat) : Int) := by
      have g := e1.symm
      simp at g
      simpa using g.1
    subst e3
    simpa using e2
  refine ⟨hciv, hbru, ?_⟩
  have h1 := World.block_lt_of_cell? W _ (hciv 0 (by omega))
  have h2 := World.block_lt_of_cell? W _ (hbru 0 (by omega))
  have h1' : 2 < W.heap.size := h1
  have h2' : 1 < W.heap.size := h2
  omega

/-- The settled world, each listed variable holding what the row lists. -/
noncomputable def laidWorld (os : Os) : World := World.laidAll Tryz.prog os Rows.statePlaysRow.laid
theorem laid_met (os : Os) (args : Array Value) : laidMet Tryz.prog Rows.statePlaysRow.laid ((laidWorld os).forCall (fun _ _ => 0) ⟨#[], args, []⟩).memory :=
  laidMet_laidAll _ (by kernel_rfl) (by kernel_rfl)

/-- A spec as it is read. -/
def specD {H : Type} (x : SpecN) : DataW H := .agg [.lit (.int .u64 (x.min : Nat)), .lit (.int .u64 (x.hour : Nat)), .lit (.int .u64 (x.dom : Nat)), .lit (.int .u64 (x.mon : Nat)), .lit (.int .u64 (x.dow : Nat)), .lit (.bool x.anyDom), .lit (.bool x.anyDow), .lit (.int .i64 x.ahead)]

theorem wf_u64 {n : Int} (h : (Lit.int .u64 n).wf = true) : ∃ m : Nat, n = (m : Int) ∧ m < 18446744073709551616 := by
  have : 0 ≤ n ∧ n ≤ 18446744073709551615 := by simpa [Lit.wf, IntKind.min, IntKind.max, IntKind.signed, IntKind.bits] using h
  exact ⟨n.toNat, by omega, by omega⟩
theorem u64_wf {m : Nat} (h : m < 18446744073709551616) : (Lit.int .u64 (m : Int)).wf = true := by
  simp [Lit.wf, IntKind.min, IntKind.max, IntKind.signed, IntKind.bits]
  omega
theorem wf_i64 {n : Int} (h : (Lit.int .i64 n).wf = true) : -9223372036854775808 ≤ n ∧ n ≤ 9223372036854775807 := by
  simpa [Lit.wf, IntKind.min, IntKind.max, IntKind.signed, IntKind.bits] using h
theorem i64_wf {n : Int} (h1 : -9223372036854775808 ≤ n) (h2 : n ≤ 9223372036854775807) : (Lit.int .i64 n).wf = true := by
  simp [Lit.wf, IntKind.min, IntKind.max, IntKind.signed, IntKind.bits]
  omega

section
variable {H : Type} {enc : TypeId × Value → H} {w : World} {base : Nat} {spare : Nat → Bool} {held : Bool}
set_option maxRecDepth 100000 in
theorem open_spec {r : Reach} {b0 : Nat} {v : Value} {d : DataW H} {p : List MemPlace} (hv : Value.okWide Tryz.prog w r b0 64 v) (h : DataW.Trod enc Tryz.prog w base spare held 64 v d p) :
    ∃ x : SpecN, v = specV x ∧ d = specD x ∧ p = [] ∧ Fits x := by
  obtain ⟨cs, rfl, hsz⟩ := okWide_struct Tryz.underlying64 hv
  obtain ⟨l⟩ := cs
  match l, hsz.trans cells25 with
  | [c0, c1, c2, c3, c4, c5, c6, c7], _ =>
    obtain ⟨fuel, hf⟩ := h
    obtain ⟨xs, n, _, hx, _, hlen, hg⟩ := DataW.trod_struct Tryz.underlying64 hf
    match xs, hlen with
    | [y0, y1, y2, y3, y4, y5, y6, y7], _ =>
      simp only [Prod.mk.injEq] at hx
      have g0 : DataW.trod enc Tryz.prog w base spare held n 62 [c0] = some y0 := by simpa [Value.cells, cells23] using hg 0 _ rfl
      have g1 : DataW.trod enc Tryz.prog w base spare held n 62 [c1] = some y1 := by simpa [Value.cells, cells23] using hg 1 _ rfl
      have g2 : DataW.trod enc Tryz.prog w base spare held n 62 [c2] = some y2 := by simpa [Value.cells, cells23] using hg 2 _ rfl
      have g3 : DataW.trod enc Tryz.prog w base spare held n 62 [c3] = some y3 := by simpa [Value.cells, cells23] using hg 3 _ rfl
      have g4 : DataW.trod enc Tryz.prog w base spare held n 62 [c4] = some y4 := by simpa [Value.cells, cells23] using hg 4 _ rfl
      have g5 : DataW.trod enc Tryz.prog w base spare held n 4 [c5] = some y5 := by simpa [Value.cells, cells4] using hg 5 _ rfl
      have g6 : DataW.trod enc Tryz.prog w base spare held n 4 [c6] = some y6 := by simpa [Value.cells, cells4] using hg 6 _ rfl
      have g7 : DataW.trod enc Tryz.prog w base spare held n 3 [c7] = some y7 := by simpa [Value.cells, cells3] using hg 7 _ rfl
      obtain ⟨n0, e0, rfl, w0⟩ := DataW.trod_int Tryz.underlying62 g0
      obtain ⟨m0, rfl, l0⟩ := wf_u64 w0
      obtain ⟨n1, e1, rfl, w1⟩ := DataW.trod_int Tryz.underlying62 g1
      obtain ⟨m1, rfl, l1⟩ := wf_u64 w1
      obtain ⟨n2, e2, rfl, w2⟩ := DataW.trod_int Tryz.underlying62 g2
      obtain ⟨m2, rfl, l2⟩ := wf_u64 w2
      obtain ⟨n3, e3, rfl, w3⟩ := DataW.trod_int Tryz.underlying62 g3
      obtain ⟨m3, rfl, l3⟩ := wf_u64 w3
      obtain ⟨n4, e4, rfl, w4⟩ := DataW.trod_int Tryz.underlying62 g4
      obtain ⟨m4, rfl, l4⟩ := wf_u64 w4
      obtain ⟨b5, e5, rfl⟩ := DataW.trod_bool Tryz.underlying4 g5
      obtain ⟨b6, e6, rfl⟩ := DataW.trod_bool Tryz.underlying4 g6
      obtain ⟨n7, e7, rfl, w7⟩ := DataW.trod_int Tryz.underlying3 g7
      obtain ⟨a1, a2⟩ := wf_i64 w7
      obtain rfl := (List.cons.inj e0).1
      obtain rfl := (List.cons.inj e1).1
      obtain rfl := (List.cons.inj e2).1
      obtain rfl := (List.cons.inj e3).1
      obtain rfl := (List.cons.inj e4).1
      obtain rfl := (List.cons.inj e5).1
      obtain rfl := (List.cons.inj e6).1
      obtain rfl := (List.cons.inj e7).1
      exact ⟨⟨m0, m1, m2, m3, m4, b5, b6, n7⟩, rfl, by simpa [specD] using hx.1, by simpa using hx.2, ⟨l0, l1, l2, l3, l4, a1, a2⟩⟩
set_option maxRecDepth 100000 in
theorem shut_spec {x : SpecN} (hx : Fits x) : DataW.Trod enc Tryz.prog w base spare held 64 (specV x) (specD x) [] := by
  obtain ⟨n0, t0⟩ := field_of_Trod (shut_int (enc := enc) (w := w) (base := base) (spare := spare) (held := held) Tryz.underlying62 (u64_wf hx.min)) rfl
  obtain ⟨n1, t1⟩ := field_of_Trod (shut_int (enc := enc) (w := w) (base := base) (spare := spare) (held := held) Tryz.underlying62 (u64_wf hx.hour)) rfl
  obtain ⟨n2, t2⟩ := field_of_Trod (shut_int (enc := enc) (w := w) (base := base) (spare := spare) (held := held) Tryz.underlying62 (u64_wf hx.dom)) rfl
  obtain ⟨n3, t3⟩ := field_of_Trod (shut_int (enc := enc) (w := w) (base := base) (spare := spare) (held := held) Tryz.underlying62 (u64_wf hx.mon)) rfl
  obtain ⟨n4, t4⟩ := field_of_Trod (shut_int (enc := enc) (w := w) (base := base) (spare := spare) (held := held) Tryz.underlying62 (u64_wf hx.dow)) rfl
  obtain ⟨n5, t5⟩ := field_of_Trod (shut_bool (enc := enc) (w := w) (base := base) (spare := spare) (held := held) Tryz.underlying4 x.anyDom) rfl
  obtain ⟨n6, t6⟩ := field_of_Trod (shut_bool (enc := enc) (w := w) (base := base) (spare := spare) (held := held) Tryz.underlying4 x.anyDow) rfl
  obtain ⟨n7, t7⟩ := field_of_Trod (shut_int (enc := enc) (w := w) (base := base) (spare := spare) (held := held) Tryz.underlying3 (i64_wf hx.a1 hx.a2)) rfl
  replace t0 := DataW.trod_le (show n0 ≤ n0 + n1 + n2 + n3 + n4 + n5 + n6 + n7 by omega) t0
  replace t1 := DataW.trod_le (show n1 ≤ n0 + n1 + n2 + n3 + n4 + n5 + n6 + n7 by omega) t1
  replace t2 := DataW.trod_le (show n2 ≤ n0 + n1 + n2 + n3 + n4 + n5 + n6 + n7 by omega) t2
  replace t3 := DataW.trod_le (show n3 ≤ n0 + n1 + n2 + n3 + n4 + n5 + n6 + n7 by omega) t3
  replace t4 := DataW.trod_le (show n4 ≤ n0 + n1 + n2 + n3 + n4 + n5 + n6 + n7 by omega) t4
  replace t5 := DataW.trod_le (show n5 ≤ n0 + n1 + n2 + n3 + n4 + n5 + n6 + n7 by omega) t5
  replace t6 := DataW.trod_le (show n6 ≤ n0 + n1 + n2 + n3 + n4 + n5 + n6 + n7 by omega) t6
  replace t7 := DataW.trod_le (show n7 ≤ n0 + n1 + n2 + n3 + n4 + n5 + n6 + n7 by omega) t7
  have ts := trod_struct_mk (enc := enc) (w := w) (base := base) (spare := spare) (held := held) (n := n0 + n1 + n2 + n3 + n4 + n5 + n6 + n7) (cs := (cellsN x).toList) (xs := [(.lit (.int .u64 (x.min : Nat)), []), (.lit (.int .u64 (x.hour : Nat)), []), (.lit (.int .u64 (x.dom : Nat)), []), (.lit (.int .u64 (x.mon : Nat)), []), (.lit (.int .u64 (x.dow : Nat)), []), (.lit (.bool x.anyDom), []), (.lit (.bool x.anyDow), []), (.lit (.int .i64 x.ahead), [])]) Tryz.underlying64 (by rw [cells25]; rfl) (by
    simp [cellsN, cells23, cells4, cells3, t0, t1, t2, t3, t4, t5, t6, t7])
  exact ⟨_, by simpa [specV, Value.cells, specD] using ts⟩
end
end Go.Proofs.YtiidhcpflplpiaaGreatDoor
