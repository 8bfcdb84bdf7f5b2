/-
  Texts laid into one (a claim has 60 files at most): NRNext, Lift.
-/
import Derived.Test.YtoihekgmomjhpaaGreatDoorKC2
import Derived.Test.YtoihekgmomjhpaaGreatDoorKN2
import Derived.Test.YtoihekgmomjhpaaGreatDoorKC6
import Derived.Test.YtoihekgmomjhpaaGreatDoorKN3
import Derived.Deep.DeepCutAuto
import Derived.Deep.CutRange
import Derived.Test.YtoihekgmomjhpaaGreatDoorKN4
import Derived.Test.YtoihekgmomjhpaaGreatDoorCards
import Derived.Test.YtoihekgmomjhpaaGreatDoorTie
import Derived.Deep.DeepHandedRow
import Derived.Lib.LaidU8
import Derived.Lib.SmallJoins
import Derived.Shelf.Vars
import Derived.Lay
import Derived.MakeChecks
import Derived.WalkKit
import Derived.ProofKit
import Derived.OpenShut
import Derived.ShutString
/-
  Layer 5: the program's Between: a slice of the times.
  Date of the document: the one date of a day, or that there is none.
  Layer 5: the document's last, Is and times.
  Layer 5: the document's Next.
-/
set_option linter.unusedVariables false
namespace Go.Proofs.YtoihekgmomjhpaaGreatDoor
open Go.RowKit Crn Nxt Civ
def intsOf (l : List Int) : List Value := l.map fun n => .int .i64 n
theorem intsOf_snoc (l : List Int) (n : Int) : intsOf (l ++ [n]) = intsOf l ++ [.int .i64 n] := by simp [intsOf]
theorem Tryz.info3 : (Tryz.prog.info? 3).map (fun i => (i.zero, i.size, i.bytes)) = some (some (.int .i64 0), 1, 8) := by kernel_rfl
/-- The times so far. -/
structure Btw (w wr : World) (x : SpecN) (a m b : Int) (k : Nat) (l : List Int) (v : Value) : Prop where
  eq : l = allN x a m
  am : a ≤ m + 1
  mb : m = a - 1 ∨ m ≤ b
  k : l.length ≤ k
  own : wr.ownsRow (w.heap.size + 1) 3 1 v l.length (intsOf l)
  below : Below w.heap.size w wr
  lt : w.heap.size + 1 ≤ wr.heap.size
theorem take_full {α : Type} {l : List α} {k : Nat} (h : l.length ≤ k) : l.take k = l := List.take_of_length_le h
theorem Btw.over {w wr : World} {x : SpecN} {a m b : Int} {k : Nat} {l : List Int} {v : Value} (h : Btw w wr x a m b k l v) (hn : ∀ s, nextN x m = some s → b < s) : (allN x a b).take k = l := by
  have e : allN x a b = l := by
    rcases h.mb with e | e
    · rw [h.eq]
      by_cases hab : a ≤ b + 1
      · exact allN_end h.am (by omega) hn
      · rw [allN_empty x (by omega), allN_empty x (by omega)]
    · rw [h.eq]
      exact allN_end h.am e hn
  rw [e]
  exact take_full h.k
theorem Btw.full {w wr : World} {x : SpecN} {a m b : Int} {k : Nat} {l : List Int} {v : Value} (h : Btw w wr x a m b k l v) (hk : k ≤ l.length) : (allN x a b).take k = l := by
  have hk2 := h.k
  rcases h.mb with e | e
  · have hl : l = [] := by rw [h.eq]; exact allN_empty x (by omega)
    rw [hl] at hk
    simp at hk
    rw [hk, hl]
    rfl
  · rw [allN_split x h.am e, ← h.eq, List.take_append_of_le_length hk]
    exact take_full h.k
theorem Btw.next {w wr w2 : World} {x : SpecN} {a m b s : Int} {k : Nat} {l : List Int} {v v2 : Value} (h : Btw w wr x a m b k l v) (hs : nextN x m = some s) (hb : s ≤ b) (hk : l.length < k)
    (o : Obj) (ho : w2.ownsRow (w.heap.size + 1) 3 1 v2 (l.length + 1) (intsOf l ++ [.int .i64 s])) (hg : (wr.alloc o).grownBy w2 v.ownBlock) : Btw w w2 x a s b k (l ++ [s]) v2 := by
  have hr := nextN_range hs
  have ham := h.am
  have hsz := h.lt
  refine ⟨?_, by omega, Or.inr hb, by simp; omega, ?_, ?_, ?_⟩
  · rw [h.eq, allN_next h.am hs]
  · rw [intsOf_snoc, List.length_append]; exact ho
  · exact (h.below.alloc h.below.size o).grown hg (by simp; omega) (fun k hk => by have := (h.own.lt k hk).1; omega)
  · have := hg.size
    simp at this
    omega
theorem Box.keep {g B : Nat} {wr w' : World} {x0 x1 x2 x3 x4 : Nat} {x5 x6 : Bool} {x7 : Int} (h : Box g wr x0 x1 x2 x3 x4 x5 x6 x7) (k : Below B wr w') (h1 : g < B) : Box g w' x0 x1 x2 x3 x4 x5 x6 x7 :=
  ⟨(k.cell (p := ⟨g, 0, none⟩) h1).trans h.c0, (k.cell (p := ⟨g, 1, none⟩) h1).trans h.c1, (k.cell (p := ⟨g, 2, none⟩) h1).trans h.c2, (k.cell (p := ⟨g, 3, none⟩) h1).trans h.c3, (k.cell (p := ⟨g, 4, none⟩) h1).trans h.c4, (k.cell (p := ⟨g, 5, none⟩) h1).trans h.c5, (k.cell (p := ⟨g, 6, none⟩) h1).trans h.c6, (k.cell (p := ⟨g, 7, none⟩) h1).trans h.c7⟩
theorem Btw.step {w wr w2 : World} {x : SpecN} {a m b : Int} {k : Nat} {l : List Int} {v : Value} (h : Btw w wr x a m b k l v) (g : Below wr.heap.size wr w2) : Btw w w2 x a m b k l v := by
  refine ⟨h.eq, h.am, h.mb, h.k, ?_, h.below.trans (g.mono h.below.size), Nat.le_trans h.lt g.size⟩
  refine ⟨h.own.1, ?_⟩
  rcases h.own.2 with hn | ⟨q, cap, cur, e, hq, hgq, rest⟩
  · exact Or.inl hn
  · exact Or.inr ⟨q, cap, cur, e, hq, (g.block q (Array.getElem?_eq_some_iff.1 hgq).1).trans hgq, rest⟩
/-- A slice of numbers of one's own. -/
def Ints (base : Nat) (w : World) (v : Value) (l : List Int) : Prop := w.ownsRow base 3 1 v l.length (intsOf l)
end Go.Proofs.YtoihekgmomjhpaaGreatDoor
namespace Go.Proofs.YtoihekgmomjhpaaGreatDoor.V
open Go.RowKit Civ
end Go.Proofs.YtoihekgmomjhpaaGreatDoor.V
namespace Go.Proofs.YtoihekgmomjhpaaGreatDoor
open Go.RowKit Crn Nxt Civ
/-! The times of a day. -/
def tsec (x : SpecN) (n i : Nat) : Int := (n : Int) * 86400 + 60 * (i : Int) - 60 * x.ahead
def tok (x : SpecN) (n i : Nat) : Bool := minute x ((i / 60 : Nat) : Int) ((i % 60 : Nat) : Int) && decide (0 ≤ tsec x n i) && decide (tsec x n i ≤ 253402300799)
end Go.Proofs.YtoihekgmomjhpaaGreatDoor
namespace Go.Proofs.YtoihekgmomjhpaaGreatDoor
open Go.RowKit Crn Nxt Civ
end Go.Proofs.YtoihekgmomjhpaaGreatDoor

/-
  What every statement of layer 5 shares: from what the row lists to the tables' cells, a world that holds all that it lists (the witness), and a spec that is handed in.
-/
set_option linter.unusedVariables false
namespace Go.Proofs.YtoihekgmomjhpaaGreatDoor
open Go.ChangeShapes Go.WideShapes Go.ChangeAt Go.RowKit Go.Joins Go.Deep Crn
theorem ownKb : ownKnob Tryz.prog.godebug = none := by kernel_rfl
theorem gTab : Tryz.prog.globalNamed "tompion/cron.spans" = some 1 := by kernel_rfl
theorem gTabType : (Tryz.prog.globals[1]?).map (·.type) = some 249 := by kernel_rfl
theorem cells3 : Tryz.prog.cellsOf 3 = 1 := by kernel_rfl
theorem cells52 : Tryz.prog.cellsOf 240 = 2 := by kernel_rfl
theorem spans_data : ∀ i, i < 5 → ([.agg [.lit (.int .i64 0), .lit (.int .i64 59)], .agg [.lit (.int .i64 0), .lit (.int .i64 23)], .agg [.lit (.int .i64 1), .lit (.int .i64 31)], .agg [.lit (.int .i64 1), .lit (.int .i64 12)], .agg [.lit (.int .i64 0), .lit (.int .i64 6)]] : List (DataW Unit))[i]? = some (.agg (([(low i : Int), (top i : Int)] : List Int).map fun z => .lit (.int .i64 z))) := by
  intro i hi
  match i, hi with
  | 0, _ => rfl
  | 1, _ => rfl
  | 2, _ => rfl
  | 3, _ => rfl
  | 4, _ => rfl
/-- What the rows list gives the cells of the table; what the form says of every variable gives the library's number. -/
theorem table {W : World} (h : laidMetH Tryz.prog Rows.oplogPlaysRow.laid W) (hs : W.ShapedOpen Tryz.prog) : Tab W := by
  rw [MakeChecks.laidMetH_plain _ _ _ (by kernel_rfl)] at h
  obtain ⟨g, t, cs, fuel, p, hg, hty, hvar, hd⟩ := Lib.laidMet.reads h (n := "tompion/cron.spans") (d := Rows.laid_tompion_cron_spans) (by
    unfold Rows.oplogPlaysRow
    exact .tail _ (.tail _ (.tail _ (.head _))))
  obtain rfl := Option.some.inj (gTab.symm.trans hg)
  obtain rfl := Option.some.inj (gTabType.symm.trans hty)
  obtain ⟨m, hm⟩ := Go.Proofs.cell_of_shapedOpen_int (g := 3) (t := 3) (zero := #[.int .i64 0]) (k := .i64) hs (of_decide_eq_true (by kernel_rfl)) (by kernel_rfl) rfl (by kernel_rfl) (by kernel_rfl) Tryz.underlying3
  refine ⟨fun i hi => ?_, ⟨m, hm⟩, ?_⟩
  · obtain ⟨fuel', d, q, hdi, he⟩ := Lib.array_elem Tryz.underlying249 hd i hi
    obtain rfl := Option.some.inj ((spans_data i hi).symm.trans hdi)
    rw [cells52] at he
    have hcs := Lib.ints_of_struct Tryz.underlying240 (fun j f hj => by
      match j, hj with
      | 0, hj => simp at hj; subst hj; exact ⟨Tryz.underlying3, rfl, cells3⟩
      | 1, hj => simp at hj; subst hj; exact ⟨Tryz.underlying3, rfl, cells3⟩
      | j + 2, hj => simp at hj) (by rw [cells52]; rfl) he
    have e0 := congrArg (·[0]?) hcs
    have e1 := congrArg (·[1]?) hcs
    simp only [List.getElem?_take, List.getElem?_drop] at e0 e1
    constructor
    · rw [World.var?_cell hg hvar (2 * i), ← Array.getElem?_toList]
      simpa [Nat.mul_comm] using e0
    · rw [World.var?_cell hg hvar (2 * i + 1), ← Array.getElem?_toList]
      simpa [Nat.mul_comm] using e1
  · have hm1 : 3 < W.heap.size := World.block_lt_of_cell? W _ hm
    omega
theorem gCiv : Tryz.prog.globalNamed "tompion/civil.ahead" = some 2 := by kernel_rfl
theorem gCivType : (Tryz.prog.globals[2]?).map (·.type) = some 289 := by kernel_rfl
theorem gBru : Tryz.prog.globalNamed "math/bits.deBruijn64tab" = some 0 := by kernel_rfl
theorem gBruType : (Tryz.prog.globals[0]?).map (·.type) = some 229 := by kernel_rfl
theorem cellsU8 : Tryz.prog.cellsOf 5 = 1 := by kernel_rfl
theorem civ_data : ∀ i, i < 13 → ([.lit (.int .i64 0), .lit (.int .i64 31), .lit (.int .i64 59), .lit (.int .i64 90), .lit (.int .i64 120), .lit (.int .i64 151), .lit (.int .i64 181), .lit (.int .i64 212), .lit (.int .i64 243), .lit (.int .i64 273), .lit (.int .i64 304), .lit (.int .i64 334), .lit (.int .i64 365)] : List (DataW Unit))[i]? = some (.lit (.int .i64 (Civ.tab.getD i 0 : Nat))) := by
  intro i hi
  have h : i = 0 ∨ i = 1 ∨ i = 2 ∨ i = 3 ∨ i = 4 ∨ i = 5 ∨ i = 6 ∨ i = 7 ∨ i = 8 ∨ i = 9 ∨ i = 10 ∨ i = 11 ∨ i = 12 := by omega
  rcases h with rfl | rfl | rfl | rfl | rfl | rfl | rfl | rfl | rfl | rfl | rfl | rfl | rfl <;> rfl
def bruD : List (DataW Unit) := Lib.deBruijn64tab.map fun n => .lit (.int .u8 (n : Nat))
theorem bru_agg : (Rows.laid_math_bits_deBruijn64tab : DataW Unit) = .agg bruD := by rfl
theorem bru_data (i : Nat) (hi : i < 64) : bruD[i]? = some (.lit (.int .u8 (Lib.deBruijn64tab.getD i 0 : Nat))) := by
  have hl : Lib.deBruijn64tab.length = 64 := by decide
  unfold bruD
  rw [List.getElem?_map, List.getElem?_eq_getElem (by omega), List.getD_eq_getElem?_getD, List.getElem?_eq_getElem (by omega)]
  rfl
/-- .. and those of civil and math/bits. -/
theorem tables {W : World} (h : laidMetH Tryz.prog Rows.oplogPlaysRow.laid W) (hs : W.ShapedOpen Tryz.prog) : NTab W := by
  rw [MakeChecks.laidMetH_plain _ _ _ (by kernel_rfl)] at h
  have hciv : V.Tab W := by
    obtain ⟨g, t, cs, fuel, p, hg, hty, hvar, hd⟩ := Lib.laidMet.reads h (n := "tompion/civil.ahead") (d := Rows.laid_tompion_civil_ahead) (by
      unfold Rows.oplogPlaysRow
      exact .tail _ (.head _))
    obtain rfl := Option.some.inj (gCiv.symm.trans hg)
    obtain rfl := Option.some.inj (gCivType.symm.trans hty)
    intro i hi
    obtain ⟨fuel', d, q, hdi, he⟩ := Lib.array_elem Tryz.underlying289 hd i hi
    obtain rfl := Option.some.inj ((civ_data i hi).symm.trans hdi)
    rw [cells3] at he
    obtain ⟨n, e0, e1, _⟩ := DataW.trod_int Tryz.underlying3 he
    rw [World.var?_cell hg hvar i, ← Array.getElem?_toList]
    have e2 := congrArg (·[0]?) e0
    simp only [List.getElem?_take, List.getElem?_drop] at e2
    have e3 : n = ((Civ.tab.getD i 0 : Nat) : Int) := by
      have g := e1.symm
      simp at g
      simpa using g.1
    subst e3
    simpa using e2
  have hbru : Bru W := by
    obtain ⟨g, t, cs, fuel, p, hg, hty, hvar, hd⟩ := Lib.laidMet.reads h (n := "math/bits.deBruijn64tab") (d := Rows.laid_math_bits_deBruijn64tab) (by
      unfold Rows.oplogPlaysRow
      exact .head _)
    obtain rfl := Option.some.inj (gBru.symm.trans hg)
    obtain rfl := Option.some.inj (gBruType.symm.trans hty)
    rw [bru_agg] at hd
    intro i hi
    obtain ⟨fuel', d, q, hdi, he⟩ := Lib.array_elem Tryz.underlying229 hd i hi
    obtain rfl := Option.some.inj ((bru_data i hi).symm.trans hdi)
    rw [cellsU8] at he
    obtain ⟨n, e0, e1, _⟩ := DataW.trod_int Tryz.underlying5 he
    rw [World.var?_cell hg hvar i, ← Array.getElem?_toList]
    have e2 := congrArg (·[0]?) e0
    simp only [List.getElem?_take, List.getElem?_drop] at e2
    have e3 : n = ((Lib.deBruijn64tab.getD i 0 : Nat) : Int) := by
      have g := e1.symm
      simp at g
      simpa using g.1
    subst e3
    simpa using e2
  refine ⟨hciv, hbru, ?_⟩
  have h1 := World.block_lt_of_cell? W _ (hciv 0 (by omega))
  have h2 := World.block_lt_of_cell? W _ (hbru 0 (by omega))
  have h1' : 2 < W.heap.size := h1
  have h2' : 0 < W.heap.size := h2
  omega
/-- The settled world, each listed variable holding what the row lists. -/
noncomputable def laidWorld (os : Os) : World := World.laidAll Tryz.prog os Rows.oplogPlaysRow.laid
theorem laid_met (os : Os) (args : Array Value) : laidMet Tryz.prog Rows.oplogPlaysRow.laid ((laidWorld os).forCall (fun _ _ => 0) ⟨#[], args, []⟩).memory :=
  laidMet_laidAll _ (by kernel_rfl) (by kernel_rfl)
theorem wf_i64 {n : Int} (h : (Lit.int .i64 n).wf = true) : -9223372036854775808 ≤ n ∧ n ≤ 9223372036854775807 := by
  simpa [Lit.wf, IntKind.min, IntKind.max, IntKind.signed, IntKind.bits] using h
theorem i64_wf {n : Int} (h1 : -9223372036854775808 ≤ n) (h2 : n ≤ 9223372036854775807) : (Lit.int .i64 n).wf = true := by
  simp [Lit.wf, IntKind.min, IntKind.max, IntKind.signed, IntKind.bits]
  omega
section
variable {H : Type} {enc : TypeId × Value → H} {w : World} {base : Nat} {spare : Nat → Bool} {held : Bool}
end
end Go.Proofs.YtoihekgmomjhpaaGreatDoor
