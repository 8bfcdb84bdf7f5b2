/-
  Texts laid into one (a claim has 60 files at most): SOp, SShelf, SSort, SIter.
-/
import Derived.Test.YtoihekgmomjhpaaGreatDoorKN5
import Derived.Test.YtoihekgmomjhpaaGreatDoorKS1
import Derived.Shelf.SlSortCmp.WholeK
import Derived.Shelf.SlicesG.Cmp
import Derived.Ground.SlsfProg
import Derived.Ground.SlgcProg
import Derived.Test.YtoihekgmomjhpaaGreatDoorProg
import Derived.Shelf.SlSortCmp.NoneTotal
import Derived.RangeFuncGives
import Derived.Sort.MapsRangeIn
import Derived.Maps.RangeRun
import Derived.Maps.AppendAt
import Derived.Shelf.AbstractIn
import Derived.Shelf.SlIter.Collect
import Derived.WalkKit
import Derived.OwnWalkIn
import Derived.TacticsInMore
import Derived.RegionIn
import Derived.LoopNIn
import Derived.LoopIn
import Derived.Shelf.Abstract
/-
  Layer 8: an operation that is handed in, opened and shut again.
-/
set_option linter.unusedVariables false
namespace Go.Proofs.YtoihekgmomjhpaaGreatDoor
open Go.ChangeShapes Go.WideShapes Go.ChangeAt Go.RowKit Go.Joins Go.Deep Crn Ste
theorem cells30 : Tryz.prog.cellsOf 31 = 10 := by kernel_rfl
theorem cells9s : Tryz.prog.cellsOf 9 = 1 := by kernel_rfl
/-- An operation's numbers are int's, and its text is no longer than a text may be in memory. -/
structure OpIs (o : OpN) : Prop where
  kind : i64 o.kind
  client : i64 o.client
  req : i64 o.req
  id : i64 o.id
  gen : i64 o.gen
  occ : i64 o.occ
  due : i64 o.due
  stamp : i64 o.stamp
  epoch : i64 o.epoch
  cron : o.cron.size ≤ maxLen
def opD {H : Type} (o : OpN) : DataW H := .agg [.lit (.int .i64 o.kind), .lit (.int .i64 o.client), .lit (.int .i64 o.req), .lit (.int .i64 o.id), .lit (.int .i64 o.gen), .lit (.int .i64 o.occ), .lit (.int .i64 o.due), .lit (.int .i64 o.stamp), .lit (.int .i64 o.epoch), .lit (.string o.cron.data.toList)]
section
variable {H : Type} {enc : TypeId × Value → H} {w : World} {base : Nat} {spare : Nat → Bool} {held : Bool}
set_option maxRecDepth 100000 in
theorem open_op {r : Reach} {b0 : Nat} {v : Value} {d : DataW H} {p : List MemPlace} (hv : Value.okWide Tryz.prog w r b0 31 v) (h : DataW.Trod enc Tryz.prog w base spare held 31 v d p) :
    ∃ o : OpN, v = opV o ∧ d = opD o ∧ p = [] ∧ OpIs o := by
  obtain ⟨cs, rfl, hsz⟩ := okWide_struct Tryz.underlying31 hv
  obtain ⟨l⟩ := cs
  match l, hsz.trans cells30 with
  | [c0, c1, c2, c3, c4, c5, c6, c7, c8, c9], _ =>
    obtain ⟨fuel, hf⟩ := h
    obtain ⟨xs, n, _, hx, _, hlen, hg⟩ := DataW.trod_struct Tryz.underlying31 hf
    match xs, hlen with
    | [y0, y1, y2, y3, y4, y5, y6, y7, y8, y9], _ =>
      simp only [Prod.mk.injEq] at hx
      have g0 : DataW.trod enc Tryz.prog w base spare held n 3 [c0] = some y0 := by simpa [Value.cells, cells3, cells9s] using hg 0 _ rfl
      have g1 : DataW.trod enc Tryz.prog w base spare held n 3 [c1] = some y1 := by simpa [Value.cells, cells3, cells9s] using hg 1 _ rfl
      have g2 : DataW.trod enc Tryz.prog w base spare held n 3 [c2] = some y2 := by simpa [Value.cells, cells3, cells9s] using hg 2 _ rfl
      have g3 : DataW.trod enc Tryz.prog w base spare held n 3 [c3] = some y3 := by simpa [Value.cells, cells3, cells9s] using hg 3 _ rfl
      have g4 : DataW.trod enc Tryz.prog w base spare held n 3 [c4] = some y4 := by simpa [Value.cells, cells3, cells9s] using hg 4 _ rfl
      have g5 : DataW.trod enc Tryz.prog w base spare held n 3 [c5] = some y5 := by simpa [Value.cells, cells3, cells9s] using hg 5 _ rfl
      have g6 : DataW.trod enc Tryz.prog w base spare held n 3 [c6] = some y6 := by simpa [Value.cells, cells3, cells9s] using hg 6 _ rfl
      have g7 : DataW.trod enc Tryz.prog w base spare held n 3 [c7] = some y7 := by simpa [Value.cells, cells3, cells9s] using hg 7 _ rfl
      have g8 : DataW.trod enc Tryz.prog w base spare held n 3 [c8] = some y8 := by simpa [Value.cells, cells3, cells9s] using hg 8 _ rfl
      have g9 : DataW.trod enc Tryz.prog w base spare held n 9 [c9] = some y9 := by simpa [Value.cells, cells3, cells9s] using hg 9 _ rfl
      obtain ⟨n0, e0, rfl, w0⟩ := DataW.trod_int Tryz.underlying3 g0
      obtain ⟨n1, e1, rfl, w1⟩ := DataW.trod_int Tryz.underlying3 g1
      obtain ⟨n2, e2, rfl, w2⟩ := DataW.trod_int Tryz.underlying3 g2
      obtain ⟨n3, e3, rfl, w3⟩ := DataW.trod_int Tryz.underlying3 g3
      obtain ⟨n4, e4, rfl, w4⟩ := DataW.trod_int Tryz.underlying3 g4
      obtain ⟨n5, e5, rfl, w5⟩ := DataW.trod_int Tryz.underlying3 g5
      obtain ⟨n6, e6, rfl, w6⟩ := DataW.trod_int Tryz.underlying3 g6
      obtain ⟨n7, e7, rfl, w7⟩ := DataW.trod_int Tryz.underlying3 g7
      obtain ⟨n8, e8, rfl, w8⟩ := DataW.trod_int Tryz.underlying3 g8
      obtain ⟨s9, e9, rfl, w9⟩ := DataW.trod_string Tryz.underlying9 g9
      obtain rfl := (List.cons.inj e0).1
      obtain rfl := (List.cons.inj e1).1
      obtain rfl := (List.cons.inj e2).1
      obtain rfl := (List.cons.inj e3).1
      obtain rfl := (List.cons.inj e4).1
      obtain rfl := (List.cons.inj e5).1
      obtain rfl := (List.cons.inj e6).1
      obtain rfl := (List.cons.inj e7).1
      obtain rfl := (List.cons.inj e8).1
      obtain rfl := (List.cons.inj e9).1
      exact ⟨⟨n0, n1, n2, n3, n4, n5, n6, n7, n8, s9⟩, rfl, by simpa [opD] using hx.1, by simpa using hx.2, ⟨wf_i64 w0, wf_i64 w1, wf_i64 w2, wf_i64 w3, wf_i64 w4, wf_i64 w5, wf_i64 w6, wf_i64 w7, wf_i64 w8, w9⟩⟩
set_option maxRecDepth 100000 in
theorem shut_op {o : OpN} (ho : OpIs o) : DataW.Trod enc Tryz.prog w base spare held 31 (opV o) (opD o) [] := by
  obtain ⟨n0, t0⟩ := field_of_Trod (shut_int (enc := enc) (w := w) (base := base) (spare := spare) (held := held) Tryz.underlying3 (i64_wf ho.kind.1 ho.kind.2)) rfl
  obtain ⟨n1, t1⟩ := field_of_Trod (shut_int (enc := enc) (w := w) (base := base) (spare := spare) (held := held) Tryz.underlying3 (i64_wf ho.client.1 ho.client.2)) rfl
  obtain ⟨n2, t2⟩ := field_of_Trod (shut_int (enc := enc) (w := w) (base := base) (spare := spare) (held := held) Tryz.underlying3 (i64_wf ho.req.1 ho.req.2)) rfl
  obtain ⟨n3, t3⟩ := field_of_Trod (shut_int (enc := enc) (w := w) (base := base) (spare := spare) (held := held) Tryz.underlying3 (i64_wf ho.id.1 ho.id.2)) rfl
  obtain ⟨n4, t4⟩ := field_of_Trod (shut_int (enc := enc) (w := w) (base := base) (spare := spare) (held := held) Tryz.underlying3 (i64_wf ho.gen.1 ho.gen.2)) rfl
  obtain ⟨n5, t5⟩ := field_of_Trod (shut_int (enc := enc) (w := w) (base := base) (spare := spare) (held := held) Tryz.underlying3 (i64_wf ho.occ.1 ho.occ.2)) rfl
  obtain ⟨n6, t6⟩ := field_of_Trod (shut_int (enc := enc) (w := w) (base := base) (spare := spare) (held := held) Tryz.underlying3 (i64_wf ho.due.1 ho.due.2)) rfl
  obtain ⟨n7, t7⟩ := field_of_Trod (shut_int (enc := enc) (w := w) (base := base) (spare := spare) (held := held) Tryz.underlying3 (i64_wf ho.stamp.1 ho.stamp.2)) rfl
  obtain ⟨n8, t8⟩ := field_of_Trod (shut_int (enc := enc) (w := w) (base := base) (spare := spare) (held := held) Tryz.underlying3 (i64_wf ho.epoch.1 ho.epoch.2)) rfl
  obtain ⟨n9, t9⟩ := shut_string_cell (enc := enc) (w := w) (base := base) (spare := spare) (held := held) Tryz.underlying9 ho.cron
  replace t0 := DataW.trod_le (show n0 ≤ n0 + n1 + n2 + n3 + n4 + n5 + n6 + n7 + n8 + n9 by omega) t0
  replace t1 := DataW.trod_le (show n1 ≤ n0 + n1 + n2 + n3 + n4 + n5 + n6 + n7 + n8 + n9 by omega) t1
  replace t2 := DataW.trod_le (show n2 ≤ n0 + n1 + n2 + n3 + n4 + n5 + n6 + n7 + n8 + n9 by omega) t2
  replace t3 := DataW.trod_le (show n3 ≤ n0 + n1 + n2 + n3 + n4 + n5 + n6 + n7 + n8 + n9 by omega) t3
  replace t4 := DataW.trod_le (show n4 ≤ n0 + n1 + n2 + n3 + n4 + n5 + n6 + n7 + n8 + n9 by omega) t4
  replace t5 := DataW.trod_le (show n5 ≤ n0 + n1 + n2 + n3 + n4 + n5 + n6 + n7 + n8 + n9 by omega) t5
  replace t6 := DataW.trod_le (show n6 ≤ n0 + n1 + n2 + n3 + n4 + n5 + n6 + n7 + n8 + n9 by omega) t6
  replace t7 := DataW.trod_le (show n7 ≤ n0 + n1 + n2 + n3 + n4 + n5 + n6 + n7 + n8 + n9 by omega) t7
  replace t8 := DataW.trod_le (show n8 ≤ n0 + n1 + n2 + n3 + n4 + n5 + n6 + n7 + n8 + n9 by omega) t8
  replace t9 := DataW.trod_le (show n9 ≤ n0 + n1 + n2 + n3 + n4 + n5 + n6 + n7 + n8 + n9 by omega) t9
  have ts := trod_struct_mk (enc := enc) (w := w) (base := base) (spare := spare) (held := held) (n := n0 + n1 + n2 + n3 + n4 + n5 + n6 + n7 + n8 + n9) (cs := (opC o).toList) (xs := [(.lit (.int .i64 o.kind), []), (.lit (.int .i64 o.client), []), (.lit (.int .i64 o.req), []), (.lit (.int .i64 o.id), []), (.lit (.int .i64 o.gen), []), (.lit (.int .i64 o.occ), []), (.lit (.int .i64 o.due), []), (.lit (.int .i64 o.stamp), []), (.lit (.int .i64 o.epoch), []), (.lit (.string o.cron.data.toList), [])]) Tryz.underlying31 (by rw [cells30]; rfl) (
    by simp [cells3, cells9s, t0, t1, t2, t3, t4, t5, t6, t7, t8, t9])
  exact ⟨_, by simpa [opV, Value.cells, opD] using ts⟩
end
end Go.Proofs.YtoihekgmomjhpaaGreatDoor

/-
  The library's sort of a slice of timers, and cmp.Compare, at this program. Laid by the guide's own tool (lay-plain.mjs).
-/
namespace Go.Proofs
open Go.Shelf
def Tryz.sortT_ren : Go.Shelf.Ren := ⟨fun | 6 => 75 | 15 => 110 | 14 => 109 | 28 => 151 | 29 => 130 | 20 => 143 | 21 => 144 | 22 => 145 | 23 => 146 | 24 => 147 | 25 => 148 | 26 => 149 | 27 => 150 | 46 => 171 | 47 => 172 | 48 => 173 | 49 => 174 | 50 => 175 | 57 => 199 | n => n, fun | 22 => 43 | 24 => 55 | 25 => 131 | 3 => 3 | 39 => 59 | 0 => 0 | 53 => 139 | 55 => 110 | 4 => 4 | 46 => 223 | 45 => 222 | 50 => 52 | 5 => 5 | 9 => 9 | 66 => 253 | 70 => 257 | 76 => 276 | 77 => 180 | n => n, fun | n => n⟩
theorem Tryz.sortT : Go.Proofs.SlLaysF0.n6 Tryz.prog Tryz.sortT_ren := {
  mixed := by kernel_rfl
  f6 := ⟨Tryz.f75.name, by decide, Tryz.func75.trans (congrArg some (by kernel_rfl))⟩
  f14 := ⟨Tryz.f109.name, by decide, Tryz.func109.trans (congrArg some (by kernel_rfl))⟩
  f15 := Tryz.func110.trans (congrArg some (by kernel_rfl))
  f20 := ⟨Tryz.f143.name, by decide, Tryz.func143.trans (congrArg some (by kernel_rfl))⟩
  f21 := ⟨Tryz.f144.name, by decide, Tryz.func144.trans (congrArg some (by kernel_rfl))⟩
  f22 := ⟨Tryz.f145.name, by decide, Tryz.func145.trans (congrArg some (by kernel_rfl))⟩
  f23 := ⟨Tryz.f146.name, by decide, Tryz.func146.trans (congrArg some (by kernel_rfl))⟩
  f24 := ⟨Tryz.f147.name, by decide, Tryz.func147.trans (congrArg some (by kernel_rfl))⟩
  f25 := ⟨Tryz.f148.name, by decide, Tryz.func148.trans (congrArg some (by kernel_rfl))⟩
  f26 := ⟨Tryz.f149.name, by decide, Tryz.func149.trans (congrArg some (by kernel_rfl))⟩
  f27 := ⟨Tryz.f150.name, by decide, Tryz.func150.trans (congrArg some (by kernel_rfl))⟩
  f28 := Tryz.func151.trans (congrArg some (by kernel_rfl))
  f29 := Tryz.func130.trans (congrArg some (by kernel_rfl))
  f46 := ⟨Tryz.f171.name, by decide, Tryz.func171.trans (congrArg some (by kernel_rfl))⟩
  f47 := Tryz.func172.trans (congrArg some (by kernel_rfl))
  f48 := Tryz.func173.trans (congrArg some (by kernel_rfl))
  f49 := ⟨Tryz.f174.name, by decide, Tryz.func174.trans (congrArg some (by kernel_rfl))⟩
  f50 := ⟨Tryz.f175.name, by decide, Tryz.func175.trans (congrArg some (by kernel_rfl))⟩
  f57 := ⟨Tryz.f199.name, by decide, Tryz.func199.trans (congrArg some (by kernel_rfl))⟩
  t0 := Tryz.underlying0
  a0 := Tryz.isAgg0
  z0 := Tryz.sizeOf0
  v0 := Tryz.zeroValue0
  t3 := Tryz.underlying3
  a3 := Tryz.isAgg3
  z3 := Tryz.sizeOf3
  v3 := Tryz.zeroValue3
  t4 := Tryz.underlying4
  a4 := Tryz.isAgg4
  z4 := Tryz.sizeOf4
  v4 := Tryz.zeroValue4
  t5 := Tryz.underlying5
  a5 := Tryz.isAgg5
  z5 := Tryz.sizeOf5
  v5 := Tryz.zeroValue5
  t9 := Tryz.underlying9
  a9 := Tryz.isAgg9
  z9 := Tryz.sizeOf9
  v9 := Tryz.zeroValue9
  t22 := Tryz.underlying43
  a22 := Tryz.isAgg43
  z22 := Tryz.sizeOf43
  v22 := Tryz.zeroValue43
  t25 := Tryz.underlying131
  a25 := Tryz.isAgg131
  z25 := Tryz.sizeOf131
  v25 := Tryz.zeroValue131
  t39 := Tryz.underlying59
  a39 := Tryz.isAgg59
  z39 := Tryz.sizeOf59
  v39 := Tryz.zeroValue59
  t45 := Tryz.underlying222
  a45 := Tryz.isAgg222
  z45 := Tryz.sizeOf222
  v45 := Tryz.zeroValue222
  t46 := Tryz.underlying223
  a46 := Tryz.isAgg223
  z46 := Tryz.sizeOf223
  v46 := Tryz.zeroValue223
  t50 := Tryz.underlying52
  a50 := Tryz.isAgg52
  z50 := Tryz.sizeOf52
  v50 := Tryz.zeroValue52
  t53 := Tryz.underlying139
  a53 := Tryz.isAgg139
  z53 := Tryz.sizeOf139
  v53 := Tryz.zeroValue139
  t55 := Tryz.underlying110
  a55 := Tryz.isAgg110
  z55 := Tryz.sizeOf110
  v55 := Tryz.zeroValue110
  t66 := Tryz.underlying253
  a66 := Tryz.isAgg253
  z66 := Tryz.sizeOf253
  v66 := Tryz.zeroValue253
  t70 := Tryz.underlying257
  a70 := Tryz.isAgg257
  z70 := Tryz.sizeOf257
  v70 := Tryz.zeroValue257
  t76 := Tryz.underlying276
  a76 := Tryz.isAgg276
  z76 := Tryz.sizeOf276
  v76 := Tryz.zeroValue276
  t77 := Tryz.underlying180
  a77 := Tryz.isAgg180
  z77 := Tryz.sizeOf180
  v77 := Tryz.zeroValue180 }
def Tryz.cmpI_ren : Go.Shelf.Ren := ⟨fun | 5 => 63 | 7 => 77 | n => n, fun | 22 => 3 | 3 => 3 | 4 => 4 | n => n, fun | n => n⟩
theorem Tryz.cmpI : Go.Proofs.SlLaysC2.n5 Tryz.prog Tryz.cmpI_ren := {
  mixed := by kernel_rfl
  f5 := ⟨Tryz.f63.name, by decide, Tryz.func63.trans (congrArg some (by kernel_rfl))⟩
  f7 := ⟨Tryz.f77.name, by decide, Tryz.func77.trans (congrArg some (by kernel_rfl))⟩
  t3 := Tryz.underlying3
  a3 := Tryz.isAgg3
  z3 := Tryz.sizeOf3
  v3 := Tryz.zeroValue3
  t4 := Tryz.underlying4
  a4 := Tryz.isAgg4
  z4 := Tryz.sizeOf4
  v4 := Tryz.zeroValue4
  t22 := Tryz.underlying3
  a22 := Tryz.isAgg3
  z22 := Tryz.sizeOf3
  v22 := Tryz.zeroValue3 }
end Go.Proofs

/-
  Layer 8: a row of timers in memory, and the library's sort of one by their ids.
-/
set_option linter.unusedVariables false
namespace Go.Proofs.YtoihekgmomjhpaaGreatDoor
open Go.RowKit Crn Nxt Ste
set_option maxRecDepth 100000
instance tmInh : Inhabited Tm := ⟨⟨0, 0, 0, 0, ⟨#[]⟩⟩⟩
def encT (t : Tm) : List Value := [.int .i64 t.id, .int .i64 t.client, .int .i64 t.gen, .int .i64 t.due, .string t.cron]
def flatT : List Tm → List Value
  | [] => []
  | t :: l => encT t ++ flatT l
theorem flatT_len (l : List Tm) : (flatT l).length = l.length * 5 := by
  induction l with
  | nil => rfl
  | cons t l ih => simp only [flatT, List.length_append, ih, List.length_cons]; simp [encT]; omega
theorem flatT_app (l m : List Tm) : flatT (l ++ m) = flatT l ++ flatT m := by
  induction l with
  | nil => rfl
  | cons t l ih => simp only [List.cons_append, flatT, ih, List.append_assoc]
theorem flatT_one (t : Tm) : flatT [t] = encT t := by simp [flatT]
theorem flatT_at (l : List Tm) (i j : Nat) (hi : i < l.length) (hj : j < 5) : (flatT l)[i * 5 + j]? = (encT l[i])[j]? := by
  induction l generalizing i with
  | nil => simp at hi
  | cons t l ih =>
    cases i with
    | zero =>
      simp only [flatT, Nat.zero_mul, Nat.zero_add, List.getElem_cons_zero]
      rw [List.getElem?_append_left (by simp [encT]; omega)]
    | succ i =>
      simp only [flatT, List.getElem_cons_succ]
      have hl : (encT t).length = 5 := rfl
      rw [List.getElem?_append_right (by rw [hl]; omega), hl, show (i + 1) * 5 + j - 5 = i * 5 + j by omega]
      exact ih i (by simpa using hi)
theorem flatT_flat (l : List Tm) : (flatT l) = (Go.Sort.flatK encT 5 l.toArray).toList := by
  apply List.ext_getElem?
  intro t
  by_cases ht : t < l.length * 5
  · have h1 : t = t / 5 * 5 + t % 5 := by omega
    have h2 : t / 5 < l.length := by omega
    have h3 : t % 5 < 5 := Nat.mod_lt _ (by omega)
    have h4 := flatT_at l (t / 5) (t % 5) h2 h3
    rw [← h1] at h4
    have h5 := Go.Sort.get_flatK encT 5 l.toArray t (by simpa using ht)
    have h6 : t < (Go.Sort.flatK encT 5 l.toArray).size := by simpa using ht
    rw [h4]
    rw [show (Go.Sort.flatK encT 5 l.toArray).toList[t]? = (Go.Sort.flatK encT 5 l.toArray)[t]? from Array.getElem?_toList, Array.getElem?_eq_getElem h6, ← getElem!_pos (Go.Sort.flatK encT 5 l.toArray) t h6, h5]
    have h7 : l.toArray[t / 5]! = l[t / 5] := by rw [getElem!_pos _ _ (by simpa using h2)]; simp
    rw [h7]
    have h8 : t % 5 < (encT l[t / 5]).length := h3
    rw [List.getElem?_eq_getElem h8, ← getElem!_pos (encT l[t / 5]) (t % 5) h8]
  · have h1 : (flatT l).length ≤ t := by rw [flatT_len]; omega
    rw [List.getElem?_eq_none h1, List.getElem?_eq_none (by simp; omega)]
/-- A row of timers. -/
def Tms (base : Nat) (w : World) (v : Value) (l : List Tm) : Prop := w.ownsRow base 55 5 v l.length (flatT l)
theorem ltId (x y : Tm) : ltOf (fun x y : Tm => Lib.compareInt x.id y.id) x y = decide (x.id < y.id) := by
  unfold ltOf Lib.compareInt
  by_cases h1 : x.id < y.id
  · simp [h1]
  · by_cases h2 : y.id < x.id <;> simp [h1, h2]
theorem swoId : Go.Sort.SWO (ltOf fun x y : Tm => Lib.compareInt x.id y.id) where
  irrefl x := by rw [ltId]; simp
  trans x y z h1 h2 := by rw [ltId] at *; simp at *; omega
  ntrans x y z h1 h2 := by rw [ltId] at *; simp at *; omega
set_option maxHeartbeats 1000000 in
theorem closureT (x y : Tm) (W : World) : Calls Tryz.prog 62 #[.agg (encT x).toArray, .agg (encT y).toArray] W fun e w' => e = .returned (.int .i64 (Lib.compareInt x.id y.id)) ∧ ∃ q os', w' = Go.Sort.grow (W.drewN q) os' := by
  have hcon := fun W' => AnyG.cmp_Compare_int Tryz.cmpI x.id y.id W'
  change ∀ W', Calls Tryz.prog 63 _ _ _ at hcon
  generalize Lib.compareInt x.id y.id = r at hcon ⊢
  obtain ⟨xid, xclient, xgen, xdue, xcron⟩ := x
  obtain ⟨yid, yclient, ygen, ydue, ycron⟩ := y
  simp only [encT, List.toArray] at *
  go_enter Tryz.func62, Tryz.ntmps62
  go_wp2_with (go_at_call 63; refine (hcon _).mono ?_; rintro e w' ⟨rfl, rfl⟩)
  go_ret
  exact ⟨rfl, 0, _, by rw [Go.Sort.alloc_eq_grow, Go.Sort.alloc_eq_grow, Go.Sort.grow_grow]; rfl⟩
theorem sorted_one {l T : List Tm} (hp : l.Perm T) (hu : Up T) (hs : l.Pairwise fun x y => ¬ y.id < x.id) : l = T := by
  have hd : l.Pairwise fun x y => x.id ≠ y.id := (hp.pairwise_iff (fun {a b} g e => g e.symm)).2 (hu.imp fun {a b} g e => by rw [e] at g; omega)
  have h1 : Up l := (hs.and hd).imp fun {a b} ⟨g1, g2⟩ => by omega
  exact hp.eq_of_pairwise (fun a b _ _ g1 g2 => by omega) h1 hu
theorem sort_any (base : Nat) (v : Value) (l T : List Tm) (w : World) (h : Tms base w v l) (hp : l.Perm T) (hu : Up T) (hl : l.length ≤ 1000) (hb : base ≤ w.heap.size) :
    Calls Tryz.prog 75 #[v, .func (.func 62) #[] #[]] w fun e w' => e = .returned (.tuple #[]) ∧ Tms base w' v T ∧ Below base w w' := by
  rcases h.2 with ⟨rfl, h0⟩ | ⟨g, cap, cur, rfl, hbg, hg, h1, h2, h3, h4⟩
  · obtain rfl : l = [] := by simpa using h0
    obtain rfl : T = [] := by simpa using hp.length_eq.symm
    have hcon := AnyF.slices_SortFunc_none { Tryz.sortT with } none 0 (.func (.func 62) #[] #[]) w
    exact hcon.mono fun e w' ⟨he, hw⟩ => ⟨he, by rw [hw]; exact ⟨h, Below.refl _ _⟩⟩
  · have hgl := lt_in hg
    have eg : ∀ args w, (callFunc 62 args).run Tryz.prog w = .ok (.enter 62 args) w := enters_of Tryz.func62 (by kernel_rfl) rfl
    have hH : Go.Sort.HoldsK encT 5 w g 0 l.toArray := by
      intro j hj
      have hj2 : j < l.length * 5 := by simpa using hj
      have e1 := cell_in hg j
      have e2 : cur[j]? = some (Go.Sort.flatK encT 5 l.toArray)[j]! := by
        have e3 : (cur.toList.take (l.length * 5))[j]? = (flatT l)[j]? := by rw [h4]
        rw [List.getElem?_take_of_lt hj2, flatT_flat] at e3
        rw [show cur.toList[j]? = cur[j]? from Array.getElem?_toList, show (Go.Sort.flatK encT 5 l.toArray).toList[j]? = (Go.Sort.flatK encT 5 l.toArray)[j]? from Array.getElem?_toList, Array.getElem?_eq_getElem hj, ← getElem!_pos (Go.Sort.flatK encT 5 l.toArray) j hj] at e3
        exact e3
      rw [Nat.zero_add]
      exact ⟨e1.trans e2, free_in hg j⟩
    have hcon := AnyQ.slices_SortFunc Tryz.sortT 5 Tryz.isAgg55 Tryz.sizeOf55 encT (fun _ => rfl) (fun x v hv => by simp [encT] at hv; rcases hv with rfl | rfl | rfl | rfl | rfl <;> rfl) (fun x y => Lib.compareInt x.id y.id) swoId 62 #[] g 0 cap l.toArray w eg (fun _ _ _ _ x y => closureT x y _) hH hgl (by simp; omega)
    change Calls Tryz.prog 75 _ _ _ at hcon
    rw [show l.toArray.size = l.length from List.size_toArray] at hcon
    refine hcon.mono ?_
    rintro e w' ⟨rfl, d', n, os, hP, hS, rfl⟩
    have hsz : d'.size = l.length := by simpa using hP.1
    have hperm : d'.toList.Perm l := by
      have e := hP.2.2
      have e1 : d'.extract 0 l.length = d' := by rw [← hsz]; exact Array.extract_size
      have e2 : l.toArray.extract 0 l.length = l.toArray := by rw [← List.size_toArray]; exact Array.extract_size
      rw [e1, e2] at e
      simpa using e
    have hsorted : d'.toList.Pairwise fun x y => ¬ y.id < x.id := by
      rw [List.pairwise_iff_getElem]
      intro i j hi hj hij
      have hi' : i < d'.size := by simpa using hi
      have hj' : j < d'.size := by simpa using hj
      have e := hS i j (Nat.zero_le _) hij (by omega)
      rw [ltId, getElem!_pos d' j hj', getElem!_pos d' i hi'] at e
      simpa using e
    have hT : d'.toList = T := sorted_one (hperm.trans hp) hu hsorted
    have hlT : T.length = l.length := hp.length_eq.symm
    have hflat : (Go.Sort.flatK encT 5 d').toList = flatT T := by rw [flatT_flat, ← hT]
    have hold : ∀ k, k < w.heap.size → k ≠ g → (sortWorldK encT 5 w g 0 n d' os).heap[k]? = w.heap[k]? := fun k hk hn => by
      unfold sortWorldK
      rw [Go.Sort.heap_grow_old _ _ (by simp [Go.Sort.putRowK, Go.Sort.putRow, Go.Sort.mapBlock, Go.Sort.ahead]; exact hk)]
      simp [Go.Sort.putRowK, Go.Sort.putRow, Go.Sort.mapBlock, Go.Sort.ahead, Array.getElem?_modify, Ne.symm hn]
    have hnew : (sortWorldK encT 5 w g 0 n d' os).heap[g]? = some (.cells (Go.Sort.putCells id 0 (Go.Sort.flatK encT 5 d') cur) 55 (0, 0)) := by
      unfold sortWorldK
      rw [Go.Sort.heap_grow_old _ _ (by simp [Go.Sort.putRowK, Go.Sort.putRow, Go.Sort.mapBlock, Go.Sort.ahead]; exact hgl)]
      simp [Go.Sort.putRowK, Go.Sort.putRow, Go.Sort.mapBlock, Go.Sort.ahead, Array.getElem?_modify, hg, Go.Sort.onCells]
    refine ⟨rfl, ⟨by rw [flatT_len], .inr ⟨g, cap, _, by rw [hlT], hbg, hnew, by rw [hlT]; exact h1, h2, by simp [Go.Sort.putCells, h3], ?_⟩⟩, ?_⟩
    · apply List.ext_getElem?
      intro i
      rw [← hflat, hlT, show (Go.Sort.flatK encT 5 d').toList[i]? = (Go.Sort.flatK encT 5 d')[i]? from Array.getElem?_toList]
      by_cases hi : i < l.length * 5
      · have hi2 : i < (Go.Sort.flatK encT 5 d').size := by rw [Go.Sort.size_flatK, hsz]; exact hi
        have hc : i < cur.size := by rw [h3]; have := Nat.mul_le_mul_right 5 h1; omega
        rw [List.getElem?_take_of_lt hi, show (Go.Sort.putCells id 0 (Go.Sort.flatK encT 5 d') cur).toList[i]? = (Go.Sort.putCells id 0 (Go.Sort.flatK encT 5 d') cur)[i]? from Array.getElem?_toList, Array.getElem?_eq_getElem hi2]
        simp [Go.Sort.putCells, hc, getElem!_pos, hsz, hi]
      · rw [List.getElem?_eq_none (by rw [List.length_take]; omega), Array.getElem?_eq_none (by rw [Go.Sort.size_flatK, hsz]; omega)]
    · exact ⟨rfl, rfl, rfl, by simp [sortWorldK, Go.Sort.putRowK, Go.Sort.putRow, Go.Sort.mapBlock, Go.Sort.ahead], fun k hk => hold k (by omega) (by omega)⟩
end Go.Proofs.YtoihekgmomjhpaaGreatDoor

/-
  Layer 8: maps.Values over the map of timers: an iterator that gives each timer once, in some order.
-/
set_option linter.unusedVariables false
namespace Go.Proofs.YtoihekgmomjhpaaGreatDoor
open Go.RowKit Ste Go.MapKept Go.ChangeMaps
set_option maxRecDepth 100000
section
variable {F : Fence} {n : Nat} {P : Program} {w : World} {ops : Array Oper} {rest : List Oper} {o : Oper} {a : Act} {Q : Exit → Act → World → Prop}
theorem wpListIn_range_raw (hg : o.guard = none) (m : Operand) (t : TypeId) (hop : o.op = Op.range t m) (v : Value) (hm : a.eval m = v) (r : Value) (w' : World) (hrun : (Instr.range t v).run P w = .ok r w')
    (hK : wpListIn F n P ops Q rest (a.put o.dst r) w') : wpListIn F n P ops Q (o :: rest) a w := by
  refine wpListIn_plain hg fun K' hK' => ?_
  unfold Oper.wpIn
  refine ⟨by simp [Oper.about, hop], ?_⟩
  rw [Oper.semAt_plain F _ _ (by rw [hop]; intro c hc'; cases hc')]
  simp [execOp, hop, hm, hrun, Result.andThen]
  exact hK' _ _ hK
theorem wpListIn_next_raw (hg : o.guard = none) (it : Operand) (hop : o.op = Op.next it false) (v : Value) (hm : a.eval it = v) (r : Value) (w' : World) (hrun : ∀ ty, (Instr.next v false ty).run P w = .ok r w')
    (hK : wpListIn F n P ops Q rest (a.put o.dst r) w') : wpListIn F n P ops Q (o :: rest) a w := by
  refine wpListIn_plain hg fun K' hK' => ?_
  unfold Oper.wpIn
  refine ⟨by simp [Oper.about, hop], ?_⟩
  rw [Oper.semAt_plain F _ _ (by rw [hop]; intro c hc'; cases hc')]
  simp [execOp, hop, hm, hrun, Result.andThen]
  exact hK' _ _ hK
end
/-- A range over the map under way: what has come, and how many are left. -/
def VR (w : World) (b r : Nat) (tl got : List Tm) (cnt : Nat) : Prop :=
  ∃ es clock since seen c0, w.heap[b]? = some (.map es clock) ∧ Stamped es clock ∧ es.toList.map (·.val) = tl.map tmV ∧ w.heap[r]? = some (.mapIter (some b) since seen c0) ∧ (∀ x ∈ es.toList, x.born < since) ∧ since ≤ c0 ∧ since ≤ clock ∧
    (leftOf es seen).size = cnt ∧ (got.map tmV ++ (leftOf es seen).toList.map (·.val)).Perm (tl.map tmV)
theorem left_perm {es : Array MapEntry} {seen : Array Nat} (hn : (es.toList.map (·.born)).Nodup) {e : MapEntry} (he : e ∈ (leftOf es seen).toList) : (leftOf es seen).toList.Perm (e :: (leftOf es (seen.push e.born)).toList) := by
  have hsub : ∀ s : Array Nat, (leftOf es s).toList = es.toList.filter fun x => !s.contains x.born := fun s => by unfold leftOf; simp
  have hnd : ∀ s : Array Nat, (leftOf es s).toList.Nodup := fun s => by
    rw [hsub]
    exact List.Pairwise.filter _ ((List.pairwise_map.1 hn).imp fun h e => h (by rw [e]))
  have hm := mem_left he
  rw [List.perm_ext_iff_of_nodup (hnd seen) (List.nodup_cons.2 ⟨fun g => by
    rw [hsub, List.mem_filter, contains_push] at g
    simp at g, hnd _⟩)]
  intro x
  rw [List.mem_cons, hsub, hsub, List.mem_filter, List.mem_filter, contains_push]
  constructor
  · rintro ⟨h1, h2⟩
    by_cases hb : x.born = e.born
    · exact .inl (born_inj hn h1 hm.1 hb)
    · refine .inr ⟨h1, ?_⟩
      have h3 : (x.born == e.born) = false := by simpa using hb
      rw [h3, Bool.or_false]
      exact h2
  · rintro (rfl | ⟨h1, h2⟩)
    · exact ⟨hm.1, by rw [hm.2]; rfl⟩
    · refine ⟨h1, ?_⟩
      cases hc : seen.contains x.born with
      | false => rfl
      | true => rw [hc] at h2; simp at h2
def unTm : Value → Tm
  | .agg cs => match cs.toList with
    | [.int _ a, .int _ b, .int _ c, .int _ d, .string s] => ⟨a, b, c, d, s⟩
    | _ => ⟨0, 0, 0, 0, ⟨#[]⟩⟩
  | _ => ⟨0, 0, 0, 0, ⟨#[]⟩⟩
theorem perm_tmV {l m : List Tm} (h : (l.map tmV).Perm (m.map tmV)) : l.Perm m := by
  have e : ∀ k : List Tm, (k.map tmV).map unTm = k := fun k => by
    rw [List.map_map]
    conv => rhs; rw [← List.map_id k]
    rfl
  have := h.map unTm
  rwa [e, e] at this
theorem VMap.range {w : World} {b : Nat} {tl : List Tm} (h : VMap w b (tl.map tmP)) :
    ∃ w', (Instr.range mt (.map (some b))).run Tryz.prog w = .ok (.pointer (some ⟨w.heap.size, 0, none⟩)) w' ∧ VR w' b w.heap.size tl [] tl.length ∧ w.grownBy w' none := by
  have hlt := h.lt
  obtain ⟨es, clock, hb, hs, he⟩ := h
  have hv : es.toList.map (·.val) = tl.map tmV := by
    have := congrArg (List.map Prod.snd) he
    rw [List.map_map, List.map_map, List.map_map] at this
    exact this
  have hlen : es.size = tl.length := by
    have := congrArg List.length hv
    simpa using this
  have hle : leftOf es #[] = es := by simp [leftOf]
  refine ⟨_, run_range_map w mt 3 55 b es clock mapT hb, ⟨es, clock, clock, #[], clock, ((MapKept.heap_alloc w _).2 b hlt).trans hb, hs, hv, (MapKept.heap_alloc w _).1, hs.1, Nat.le_refl _, Nat.le_refl _, by rw [hle]; exact hlen, by rw [hle, hv]; exact List.Perm.refl _⟩, World.grownBy_alloc w _ none⟩
theorem VR.left_eq {w : World} {b r : Nat} {tl got : List Tm} {cnt : Nat} (h : VR w b r tl got cnt) : w.rangeLeft b r = cnt := by
  obtain ⟨es, clock, since, seen, c0, hb, _, _, hr, _, _, _, hc, _⟩ := h
  simp only [World.rangeLeft, hb, hr]
  exact hc
theorem VR.of_walks {w w' : World} {b r : Nat} {tl got : List Tm} {cnt : Nat} (h : VR w b r tl got cnt) (k : KeepsWalks w w') : VR w' b r tl got cnt := by
  obtain ⟨es, clock, since, seen, c0, hb, h2, h3, hr, rest⟩ := h
  exact ⟨es, clock, since, seen, c0, k.same b _ hb rfl, h2, h3, k.same r _ hr rfl, rest⟩
theorem VR.iter_walk {w : World} {b r : Nat} {tl got : List Tm} {cnt : Nat} (h : VR w b r tl got cnt) : ∃ o : Obj, w.heap[r]? = some o ∧ o.isWalk = true := by
  obtain ⟨es, clock, since, seen, c0, hb, h2, h3, hr, rest⟩ := h
  exact ⟨_, hr, rfl⟩
theorem VR.done {w : World} {b r : Nat} {tl got : List Tm} (h : VR w b r tl got 0) : got.Perm tl := by
  obtain ⟨es, clock, since, seen, c0, hb, _, _, hr, _, _, _, hc, hp⟩ := h
  have : (leftOf es seen).toList = [] := by
    have h0 : leftOf es seen = #[] := Array.eq_empty_of_size_eq_zero hc
    rw [h0]
  rw [this, List.map_nil, List.append_nil] at hp
  exact perm_tmV hp
theorem VR.next {w : World} {b r : Nat} {tl got : List Tm} {cnt : Nat} (h : VR w b r tl got cnt) :
    (cnt = 0 ∧ ∀ ty, (Instr.next (.pointer (some ⟨r, 0, none⟩)) false ty).run Tryz.prog w = .ok (.tuple #[.bool false]) w) ∨
    ∃ (key : Value) (x : Tm) (w' : World) (cnt' : Nat), (∀ ty, (Instr.next (.pointer (some ⟨r, 0, none⟩)) false ty).run Tryz.prog w = .ok (.tuple #[.bool true, key, tmV x]) w') ∧ VR w' b r tl (got ++ [x]) cnt' ∧ cnt' < cnt ∧ w.grownBy w' (some r) ∧ (Instr.entry (.pointer (some ⟨r, 0, none⟩))).run Tryz.prog w' = .ok (.tuple #[key, tmV x]) w' := by
  obtain ⟨es, clock, since, seen, c0, hb, hs, hv, hr, hold, hsc, hsk, rfl, hp⟩ := h
  have hne : r ≠ b := fun e => by rw [e, hb] at hr; cases hr
  rcases run_next_at (P := Tryz.prog) w 0 r b since c0 seen es clock hr hb hold hsc with ⟨h0, hrun⟩ | ⟨e, he, w1, hal, hrun⟩
  · exact .inl ⟨h0, fun ty => hrun⟩
  · have hnd := ((stamped_iff es clock).1 hs).2.1
    have hm := (mem_left he).1
    obtain ⟨x, hx, hxv⟩ : ∃ x ∈ tl, tmV x = e.val := by
      have : e.val ∈ tl.map tmV := by rw [← hv]; exact List.mem_map.2 ⟨e, hm, rfl⟩
      exact List.mem_map.1 this
    have hr1 : w1.heap[r]? = some (.mapIter (some b) since seen c0) := by rcases hal with rfl | rfl <;> exact hr
    have hb1 : w1.heap[b]? = some (.map es clock) := by rcases hal with rfl | rfl <;> exact hb
    have hset := heap_set (o' := .mapIter (some b) since (seen.push e.born) clock) hr1
    have hb' : (setBlock w1 r (.mapIter (some b) since (seen.push e.born) clock)).heap[b]? = some (.map es clock) := (hset.2 b (fun e1 => hne e1.symm)).trans hb1
    have hlp := (left_perm hnd he).map (·.val)
    refine .inr ⟨e.key, x, _, _, fun ty => by rw [hxv]; exact hrun, ⟨es, clock, since, seen.push e.born, clock, hb', hs, hv, hset.1, hold, hsk, hsk, rfl, ?_⟩, left_shrinks es seen e he, ?_, by rw [hxv]; exact run_entry_at _ r b since seen es clock e hset.1 hb' hm hnd⟩
    · rw [List.map_append, List.append_assoc]
      refine List.Perm.trans (List.Perm.append_left _ ?_) hp
      rw [List.map_cons, List.map_nil, List.singleton_append, hxv]
      exact hlp.symm
    · rcases hal with rfl | rfl <;> exact ⟨rfl, rfl, rfl, by simp [setBlock], fun i _ hi => hset.2 i (fun e1 => hi (by rw [e1]))⟩
set_option maxHeartbeats 1000000 in
theorem values1_in (F : Fence) (n : Nat) (h60 : F.fn 76) (hro : F.round = none) (hn : 1 ≤ n) (l Bm b : Nat) (tl : List Tm) (J : List Tm → World → Prop)
    (hY : ∀ pre x W, J pre W → pre.length < tl.length → YieldAt F (n - 1) Tryz.prog l #[tmV x] W fun e W' => e = .returned (.bool true) ∧ J (pre ++ [x]) W' ∧ KeepsWalks W W')
    (W : World) (hJ : AbidesFrom W.heap.size J) (hm : W.cell? ⟨Bm, 0, none⟩ = some (.map (some b))) (hv : VMap W b (tl.map tmP)) (h0 : J [] W) :
    CallsIn F n Tryz.prog 76 #[.func (.yield l) #[] #[], .pointer (some ⟨Bm, 0, none⟩)] W fun e W' => (∃ v, e = .returned v) ∧ ∃ ss : List Tm, ss.Perm tl ∧ J ss W' := by
  obtain ⟨w0, hrun0, hvr0, hg0⟩ := hv.range
  refine callsIn_of_wp Tryz.func76 rfl h60 ?_ hro
  simp only [Tryz.ntmps76, List.size_toArray, List.length_cons, List.length_nil, Nat.reduceAdd, Nat.reduceSub, Array.replicate_succ, Array.replicate_zero, List.push_toArray, List.append_toArray, List.nil_append, List.cons_append]
  gi_wp2_with (first
    | (gi_at_range; refine wpListIn_range_raw rfl _ mt rfl _ rfl _ _ hrun0 ?_)
    | gi_in)
  go_frame
  gi_loopw [4] (fun _ wr => ∃ (cnt : Nat) (ss : List Tm), VR wr b W.heap.size tl ss cnt ∧ ss.length + cnt ≤ tl.length ∧ J ss wr) (fun _ wr => wr.rangeLeft b W.heap.size)
  case atStart => exact ⟨_, [], hvr0, by simp, hJ [] W w0 none h0 hg0 (fun r e => by cases e)⟩
  case round =>
    obtain ⟨cnt, ss, hrg, hcs, hJs⟩ := hrel
    rcases hrg.next with ⟨rfl, hrun⟩ | ⟨key, x, w2, cnt2, hrun, hrg2, hlt, hg2, hen⟩
    · gi_wp2_with (first
        | (gi_at_next; refine wpListIn_next_raw rfl _ rfl _ rfl _ _ hrun ?_)
        | gi_in)
      go_end0
      exact ⟨⟨_, rfl⟩, ss, hrg.done, hJs⟩
    · have hJ2 : J ss w2 := hJ ss wr w2 (some W.heap.size) hJs hg2 (fun r e => by cases e; exact ⟨Nat.le_refl _, hrg.iter_walk⟩)
      have hJ3 : J ss (w2.alloc (.cells #[.int .i64 x.id, .int .i64 x.client, .int .i64 x.gen, .int .i64 x.due, .string x.cron] 55)) := hJ ss w2 _ none hJ2 (World.grownBy_alloc w2 _ none) (fun r e => by cases e)
      obtain ⟨fn, tmps, assign, body, hy, hR⟩ := hY ss x _ hJ3 (by omega)
      have hrg3 := hrg2.of_walks (KeepsWalks.alloc w2 (.cells #[.int .i64 x.id, .int .i64 x.client, .int .i64 x.gen, .int .i64 x.due, .string x.cron] 55))
      obtain ⟨xid, xclient, xgen, xdue, xcron⟩ := x
      simp only [tmV] at *
      gi_wp2_with (first
        | (gi_at_next; refine wpListIn_next_raw rfl _ rfl _ rfl _ _ hrun ?_)
        | gi_in)
      refine hR.mono ?_
      rintro e W3 ⟨rfl, hJ4, hk4⟩
      gi_wp2
      have hrg4 := hrg3.of_walks hk4
      go_roundw
      case rel => exact ⟨cnt2, ss ++ [⟨xid, xclient, xgen, xdue, xcron⟩], hrg4, by simp; omega, hJ4⟩
      case measure => rw [hrg4.left_eq, hrg.left_eq]; exact hlt
end Go.Proofs.YtoihekgmomjhpaaGreatDoor
