/-
  Layer 8: texts laid into one (a claim has 60 files at most): SShelf, SSort, SIter, SCollect, SList, SNone, SInts, SRun, SAwake, SCopy, SRefA, SRefB, SRefC, SRefD, SRefE, SRefF, SRefG, SRefH, SRefI.
-/
import Derived.Shelf.SlSortCmp.WholeK
import Derived.Shelf.SlicesG.Cmp
import Derived.Test.YtiidhcpflplpiaaGreatDoorProg
import Derived.Test.YtiidhcpflplpiaaGreatDoorSA
import Derived.Shelf.SlSortCmp.NoneTotal
import Derived.RangeFuncGives
import Derived.Sort.MapsRangeIn
import Derived.Maps.RangeRun
import Derived.Maps.AppendAt
import Derived.Shelf.AbstractIn
import Derived.Shelf.SlIter.Collect
import Derived.WalkKit
import Derived.OwnWalkIn
import Derived.TacticsInMore
import Derived.RegionIn
import Derived.LoopNIn
import Derived.LoopIn
import Derived.Shelf.Abstract
import Derived.BigQuiet
import Derived.Deep.DeepCutAuto
import Derived.Deep.RegionHeld3
import Derived.Shelf.SlMaps.Clone
import Derived.Deep.RegionLaw
import Derived.Lib.MinMax
import Derived.Deep.QuietTactic
import Derived.Laws.OwnMore
import Derived.OwnWalk
import Derived.Test.YtiidhcpflplpiaaGreatDoorNRNext
import Derived.Test.YtiidhcpflplpiaaGreatDoorRef
import Derived.Laws.ResultCell
import Derived.StillTailTactics
/-
  The library's sort of a slice of timers, and cmp.Compare, at this program. Laid by the guide's own tool (lay-plain.mjs).
-/
namespace Go.Proofs
open Go.Shelf
def Tryz.sortT_ren : Go.Shelf.Ren := ⟨fun | 6 => 59 | 15 => 81 | 14 => 80 | 28 => 109 | 29 => 110 | 20 => 101 | 21 => 102 | 22 => 103 | 23 => 104 | 24 => 105 | 25 => 106 | 26 => 107 | 27 => 108 | 46 => 128 | 47 => 129 | 48 => 130 | 49 => 131 | 50 => 132 | 57 => 153 | n => n, fun | 22 => 43 | 24 => 37 | 25 => 88 | 3 => 3 | 39 => 57 | 0 => 0 | 53 => 115 | 55 => 62 | 4 => 4 | 46 => 162 | 45 => 161 | 50 => 68 | 5 => 5 | 9 => 9 | 66 => 190 | 70 => 194 | 76 => 213 | 77 => 214 | n => n, fun | n => n⟩
theorem Tryz.sortT : Go.Proofs.SlLaysF0.n6 Tryz.prog Tryz.sortT_ren := {
  mixed := by kernel_rfl
  f6 := ⟨Tryz.f59.name, by decide, Tryz.func59.trans (congrArg some (by kernel_rfl))⟩
  f14 := ⟨Tryz.f80.name, by decide, Tryz.func80.trans (congrArg some (by kernel_rfl))⟩
  f15 := Tryz.func81.trans (congrArg some (by kernel_rfl))
  f20 := ⟨Tryz.f101.name, by decide, Tryz.func101.trans (congrArg some (by kernel_rfl))⟩
  f21 := ⟨Tryz.f102.name, by decide, Tryz.func102.trans (congrArg some (by kernel_rfl))⟩
  f22 := ⟨Tryz.f103.name, by decide, Tryz.func103.trans (congrArg some (by kernel_rfl))⟩
  f23 := ⟨Tryz.f104.name, by decide, Tryz.func104.trans (congrArg some (by kernel_rfl))⟩
  f24 := ⟨Tryz.f105.name, by decide, Tryz.func105.trans (congrArg some (by kernel_rfl))⟩
  f25 := ⟨Tryz.f106.name, by decide, Tryz.func106.trans (congrArg some (by kernel_rfl))⟩
  f26 := ⟨Tryz.f107.name, by decide, Tryz.func107.trans (congrArg some (by kernel_rfl))⟩
  f27 := ⟨Tryz.f108.name, by decide, Tryz.func108.trans (congrArg some (by kernel_rfl))⟩
  f28 := Tryz.func109.trans (congrArg some (by kernel_rfl))
  f29 := Tryz.func110.trans (congrArg some (by kernel_rfl))
  f46 := ⟨Tryz.f128.name, by decide, Tryz.func128.trans (congrArg some (by kernel_rfl))⟩
  f47 := Tryz.func129.trans (congrArg some (by kernel_rfl))
  f48 := Tryz.func130.trans (congrArg some (by kernel_rfl))
  f49 := ⟨Tryz.f131.name, by decide, Tryz.func131.trans (congrArg some (by kernel_rfl))⟩
  f50 := ⟨Tryz.f132.name, by decide, Tryz.func132.trans (congrArg some (by kernel_rfl))⟩
  f57 := ⟨Tryz.f153.name, by decide, Tryz.func153.trans (congrArg some (by kernel_rfl))⟩
  t0 := Tryz.underlying0
  a0 := Tryz.isAgg0
  z0 := Tryz.sizeOf0
  v0 := Tryz.zeroValue0
  t3 := Tryz.underlying3
  a3 := Tryz.isAgg3
  z3 := Tryz.sizeOf3
  v3 := Tryz.zeroValue3
  t4 := Tryz.underlying4
  a4 := Tryz.isAgg4
  z4 := Tryz.sizeOf4
  v4 := Tryz.zeroValue4
  t5 := Tryz.underlying5
  a5 := Tryz.isAgg5
  z5 := Tryz.sizeOf5
  v5 := Tryz.zeroValue5
  t9 := Tryz.underlying9
  a9 := Tryz.isAgg9
  z9 := Tryz.sizeOf9
  v9 := Tryz.zeroValue9
  t22 := Tryz.underlying43
  a22 := Tryz.isAgg43
  z22 := Tryz.sizeOf43
  v22 := Tryz.zeroValue43
  t25 := Tryz.underlying88
  a25 := Tryz.isAgg88
  z25 := Tryz.sizeOf88
  v25 := Tryz.zeroValue88
  t39 := Tryz.underlying57
  a39 := Tryz.isAgg57
  z39 := Tryz.sizeOf57
  v39 := Tryz.zeroValue57
  t45 := Tryz.underlying161
  a45 := Tryz.isAgg161
  z45 := Tryz.sizeOf161
  v45 := Tryz.zeroValue161
  t46 := Tryz.underlying162
  a46 := Tryz.isAgg162
  z46 := Tryz.sizeOf162
  v46 := Tryz.zeroValue162
  t50 := Tryz.underlying68
  a50 := Tryz.isAgg68
  z50 := Tryz.sizeOf68
  v50 := Tryz.zeroValue68
  t53 := Tryz.underlying115
  a53 := Tryz.isAgg115
  z53 := Tryz.sizeOf115
  v53 := Tryz.zeroValue115
  t55 := Tryz.underlying62
  a55 := Tryz.isAgg62
  z55 := Tryz.sizeOf62
  v55 := Tryz.zeroValue62
  t66 := Tryz.underlying190
  a66 := Tryz.isAgg190
  z66 := Tryz.sizeOf190
  v66 := Tryz.zeroValue190
  t70 := Tryz.underlying194
  a70 := Tryz.isAgg194
  z70 := Tryz.sizeOf194
  v70 := Tryz.zeroValue194
  t76 := Tryz.underlying213
  a76 := Tryz.isAgg213
  z76 := Tryz.sizeOf213
  v76 := Tryz.zeroValue213
  t77 := Tryz.underlying214
  a77 := Tryz.isAgg214
  z77 := Tryz.sizeOf214
  v77 := Tryz.zeroValue214 }
def Tryz.cmpI_ren : Go.Shelf.Ren := ⟨fun | 5 => 41 | 7 => 61 | n => n, fun | 22 => 3 | 3 => 3 | 4 => 4 | n => n, fun | n => n⟩
theorem Tryz.cmpI : Go.Proofs.SlLaysC2.n5 Tryz.prog Tryz.cmpI_ren := {
  mixed := by kernel_rfl
  f5 := ⟨Tryz.f41.name, by decide, Tryz.func41.trans (congrArg some (by kernel_rfl))⟩
  f7 := ⟨Tryz.f61.name, by decide, Tryz.func61.trans (congrArg some (by kernel_rfl))⟩
  t3 := Tryz.underlying3
  a3 := Tryz.isAgg3
  z3 := Tryz.sizeOf3
  v3 := Tryz.zeroValue3
  t4 := Tryz.underlying4
  a4 := Tryz.isAgg4
  z4 := Tryz.sizeOf4
  v4 := Tryz.zeroValue4
  t22 := Tryz.underlying3
  a22 := Tryz.isAgg3
  z22 := Tryz.sizeOf3
  v22 := Tryz.zeroValue3 }
end Go.Proofs

/-
  Layer 8: a row of timers in memory, and the library's sort of one by their ids.
-/
set_option linter.unusedVariables false
namespace Go.Proofs.YtiidhcpflplpiaaGreatDoor
open Go.RowKit Crn Nxt Ste
set_option maxRecDepth 100000
instance tmInh : Inhabited Tm := ⟨⟨0, 0, 0, 0, ⟨#[]⟩⟩⟩
def encT (t : Tm) : List Value := [.int .i64 t.id, .int .i64 t.client, .int .i64 t.gen, .int .i64 t.due, .string t.cron]
def flatT : List Tm → List Value
  | [] => []
  | t :: l => encT t ++ flatT l
theorem flatT_len (l : List Tm) : (flatT l).length = l.length * 5 := by
  induction l with
  | nil => rfl
  | cons t l ih => simp only [flatT, List.length_append, ih, List.length_cons]; simp [encT]; omega
theorem flatT_app (l m : List Tm) : flatT (l ++ m) = flatT l ++ flatT m := by
  induction l with
  | nil => rfl
  | cons t l ih => simp only [List.cons_append, flatT, ih, List.append_assoc]
theorem flatT_one (t : Tm) : flatT [t] = encT t := by simp [flatT]
theorem flatT_at (l : List Tm) (i j : Nat) (hi : i < l.length) (hj : j < 5) : (flatT l)[i * 5 + j]? = (encT l[i])[j]? := by
  induction l generalizing i with
  | nil => simp at hi
  | cons t l ih =>
    cases i with
    | zero =>
      simp only [flatT, Nat.zero_mul, Nat.zero_add, List.getElem_cons_zero]
      rw [List.getElem?_append_left (by simp [encT]; omega)]
    | succ i =>
      simp only [flatT, List.getElem_cons_succ]
      have hl : (encT t).length = 5 := rfl
      rw [List.getElem?_append_right (by rw [hl]; omega), hl, show (i + 1) * 5 + j - 5 = i * 5 + j by omega]
      exact ih i (by simpa using hi)
theorem flatT_flat (l : List Tm) : (flatT l) = (Go.Sort.flatK encT 5 l.toArray).toList := by
  apply List.ext_getElem?
  intro t
  by_cases ht : t < l.length * 5
  · have h1 : t = t / 5 * 5 + t % 5 := by omega
    have h2 : t / 5 < l.length := by omega
    have h3 : t % 5 < 5 := Nat.mod_lt _ (by omega)
    have h4 := flatT_at l (t / 5) (t % 5) h2 h3
    rw [← h1] at h4
    have h5 := Go.Sort.get_flatK encT 5 l.toArray t (by simpa using ht)
    have h6 : t < (Go.Sort.flatK encT 5 l.toArray).size := by simpa using ht
    rw [h4]
    rw [show (Go.Sort.flatK encT 5 l.toArray).toList[t]? = (Go.Sort.flatK encT 5 l.toArray)[t]? from Array.getElem?_toList, Array.getElem?_eq_getElem h6, ← getElem!_pos (Go.Sort.flatK encT 5 l.toArray) t h6, h5]
    have h7 : l.toArray[t / 5]! = l[t / 5] := by rw [getElem!_pos _ _ (by simpa using h2)]; simp
    rw [h7]
    have h8 : t % 5 < (encT l[t / 5]).length := h3
    rw [List.getElem?_eq_getElem h8, ← getElem!_pos (encT l[t / 5]) (t % 5) h8]
  · have h1 : (flatT l).length ≤ t := by rw [flatT_len]; omega
    rw [List.getElem?_eq_none h1, List.getElem?_eq_none (by simp; omega)]
/-- A row of timers. -/
def Tms (base : Nat) (w : World) (v : Value) (l : List Tm) : Prop := w.ownsRow base 37 5 v l.length (flatT l)
theorem ltId (x y : Tm) : ltOf (fun x y : Tm => Lib.compareInt x.id y.id) x y = decide (x.id < y.id) := by
  unfold ltOf Lib.compareInt
  by_cases h1 : x.id < y.id
  · simp [h1]
  · by_cases h2 : y.id < x.id <;> simp [h1, h2]
theorem swoId : Go.Sort.SWO (ltOf fun x y : Tm => Lib.compareInt x.id y.id) where
  irrefl x := by rw [ltId]; simp
  trans x y z h1 h2 := by rw [ltId] at *; simp at *; omega
  ntrans x y z h1 h2 := by rw [ltId] at *; simp at *; omega
set_option maxHeartbeats 1000000 in
theorem closureT (x y : Tm) (W : World) : Calls Tryz.prog 40 #[.agg (encT x).toArray, .agg (encT y).toArray] W fun e w' => e = .returned (.int .i64 (Lib.compareInt x.id y.id)) ∧ ∃ q os', w' = Go.Sort.grow (W.drewN q) os' := by
  have hcon := fun W' => AnyG.cmp_Compare_int Tryz.cmpI x.id y.id W'
  change ∀ W', Calls Tryz.prog 41 _ _ _ at hcon
  generalize Lib.compareInt x.id y.id = r at hcon ⊢
  obtain ⟨xid, xclient, xgen, xdue, xcron⟩ := x
  obtain ⟨yid, yclient, ygen, ydue, ycron⟩ := y
  simp only [encT, List.toArray] at *
  go_enter Tryz.func40, Tryz.ntmps40
  go_wp2_with (go_at_call 41; refine (hcon _).mono ?_; rintro e w' ⟨rfl, rfl⟩)
  go_ret
  exact ⟨rfl, 0, _, by rw [Go.Sort.alloc_eq_grow, Go.Sort.alloc_eq_grow, Go.Sort.grow_grow]; rfl⟩
theorem sorted_one {l T : List Tm} (hp : l.Perm T) (hu : Up T) (hs : l.Pairwise fun x y => ¬ y.id < x.id) : l = T := by
  have hd : l.Pairwise fun x y => x.id ≠ y.id := (hp.pairwise_iff (fun {a b} g e => g e.symm)).2 (hu.imp fun {a b} g e => by rw [e] at g; omega)
  have h1 : Up l := (hs.and hd).imp fun {a b} ⟨g1, g2⟩ => by omega
  exact hp.eq_of_pairwise (fun a b _ _ g1 g2 => by omega) h1 hu
theorem sort_any (base : Nat) (v : Value) (l T : List Tm) (w : World) (h : Tms base w v l) (hp : l.Perm T) (hu : Up T) (hl : l.length ≤ 1000) (hb : base ≤ w.heap.size) :
    Calls Tryz.prog 59 #[v, .func (.func 40) #[] #[]] w fun e w' => e = .returned (.tuple #[]) ∧ Tms base w' v T ∧ Below base w w' := by
  rcases h.2 with ⟨rfl, h0⟩ | ⟨g, cap, cur, rfl, hbg, hg, h1, h2, h3, h4⟩
  · obtain rfl : l = [] := by simpa using h0
    obtain rfl : T = [] := by simpa using hp.length_eq.symm
    have hcon := AnyF.slices_SortFunc_none { Tryz.sortT with } none 0 (.func (.func 40) #[] #[]) w
    exact hcon.mono fun e w' ⟨he, hw⟩ => ⟨he, by rw [hw]; exact ⟨h, Below.refl _ _⟩⟩
  · have hgl := lt_in hg
    have eg : ∀ args w, (callFunc 40 args).run Tryz.prog w = .ok (.enter 40 args) w := enters_of Tryz.func40 (by kernel_rfl) rfl
    have hH : Go.Sort.HoldsK encT 5 w g 0 l.toArray := by
      intro j hj
      have hj2 : j < l.length * 5 := by simpa using hj
      have e1 := cell_in hg j
      have e2 : cur[j]? = some (Go.Sort.flatK encT 5 l.toArray)[j]! := by
        have e3 : (cur.toList.take (l.length * 5))[j]? = (flatT l)[j]? := by rw [h4]
        rw [List.getElem?_take_of_lt hj2, flatT_flat] at e3
        rw [show cur.toList[j]? = cur[j]? from Array.getElem?_toList, show (Go.Sort.flatK encT 5 l.toArray).toList[j]? = (Go.Sort.flatK encT 5 l.toArray)[j]? from Array.getElem?_toList, Array.getElem?_eq_getElem hj, ← getElem!_pos (Go.Sort.flatK encT 5 l.toArray) j hj] at e3
        exact e3
      rw [Nat.zero_add]
      exact ⟨e1.trans e2, free_in hg j⟩
    have hcon := AnyQ.slices_SortFunc Tryz.sortT 5 Tryz.isAgg37 Tryz.sizeOf37 encT (fun _ => rfl) (fun x v hv => by simp [encT] at hv; rcases hv with rfl | rfl | rfl | rfl | rfl <;> rfl) (fun x y => Lib.compareInt x.id y.id) swoId 40 #[] g 0 cap l.toArray w eg (fun _ _ _ _ x y => closureT x y _) hH hgl (by simp; omega)
    change Calls Tryz.prog 59 _ _ _ at hcon
    rw [show l.toArray.size = l.length from List.size_toArray] at hcon
    refine hcon.mono ?_
    rintro e w' ⟨rfl, d', n, os, hP, hS, rfl⟩
    have hsz : d'.size = l.length := by simpa using hP.1
    have hperm : d'.toList.Perm l := by
      have e := hP.2.2
      have e1 : d'.extract 0 l.length = d' := by rw [← hsz]; exact Array.extract_size
      have e2 : l.toArray.extract 0 l.length = l.toArray := by rw [← List.size_toArray]; exact Array.extract_size
      rw [e1, e2] at e
      simpa using e
    have hsorted : d'.toList.Pairwise fun x y => ¬ y.id < x.id := by
      rw [List.pairwise_iff_getElem]
      intro i j hi hj hij
      have hi' : i < d'.size := by simpa using hi
      have hj' : j < d'.size := by simpa using hj
      have e := hS i j (Nat.zero_le _) hij (by omega)
      rw [ltId, getElem!_pos d' j hj', getElem!_pos d' i hi'] at e
      simpa using e
    have hT : d'.toList = T := sorted_one (hperm.trans hp) hu hsorted
    have hlT : T.length = l.length := hp.length_eq.symm
    have hflat : (Go.Sort.flatK encT 5 d').toList = flatT T := by rw [flatT_flat, ← hT]
    have hold : ∀ k, k < w.heap.size → k ≠ g → (sortWorldK encT 5 w g 0 n d' os).heap[k]? = w.heap[k]? := fun k hk hn => by
      unfold sortWorldK
      rw [Go.Sort.heap_grow_old _ _ (by simp [Go.Sort.putRowK, Go.Sort.putRow, Go.Sort.mapBlock, Go.Sort.ahead]; exact hk)]
      simp [Go.Sort.putRowK, Go.Sort.putRow, Go.Sort.mapBlock, Go.Sort.ahead, Array.getElem?_modify, Ne.symm hn]
    have hnew : (sortWorldK encT 5 w g 0 n d' os).heap[g]? = some (.cells (Go.Sort.putCells id 0 (Go.Sort.flatK encT 5 d') cur) 37 (0, 0)) := by
      unfold sortWorldK
      rw [Go.Sort.heap_grow_old _ _ (by simp [Go.Sort.putRowK, Go.Sort.putRow, Go.Sort.mapBlock, Go.Sort.ahead]; exact hgl)]
      simp [Go.Sort.putRowK, Go.Sort.putRow, Go.Sort.mapBlock, Go.Sort.ahead, Array.getElem?_modify, hg, Go.Sort.onCells]
    refine ⟨rfl, ⟨by rw [flatT_len], .inr ⟨g, cap, _, by rw [hlT], hbg, hnew, by rw [hlT]; exact h1, h2, by simp [Go.Sort.putCells, h3], ?_⟩⟩, ?_⟩
    · apply List.ext_getElem?
      intro i
      rw [← hflat, hlT, show (Go.Sort.flatK encT 5 d').toList[i]? = (Go.Sort.flatK encT 5 d')[i]? from Array.getElem?_toList]
      by_cases hi : i < l.length * 5
      · have hi2 : i < (Go.Sort.flatK encT 5 d').size := by rw [Go.Sort.size_flatK, hsz]; exact hi
        have hc : i < cur.size := by rw [h3]; have := Nat.mul_le_mul_right 5 h1; omega
        rw [List.getElem?_take_of_lt hi, show (Go.Sort.putCells id 0 (Go.Sort.flatK encT 5 d') cur).toList[i]? = (Go.Sort.putCells id 0 (Go.Sort.flatK encT 5 d') cur)[i]? from Array.getElem?_toList, Array.getElem?_eq_getElem hi2]
        simp [Go.Sort.putCells, hc, getElem!_pos, hsz, hi]
      · rw [List.getElem?_eq_none (by rw [List.length_take]; omega), Array.getElem?_eq_none (by rw [Go.Sort.size_flatK, hsz]; omega)]
    · exact ⟨rfl, rfl, rfl, by simp [sortWorldK, Go.Sort.putRowK, Go.Sort.putRow, Go.Sort.mapBlock, Go.Sort.ahead], fun k hk => hold k (by omega) (by omega)⟩
end Go.Proofs.YtiidhcpflplpiaaGreatDoor

/-
  Layer 8: maps.Values over the map of timers: an iterator that gives each timer once, in some order.
-/
set_option linter.unusedVariables false
namespace Go.Proofs.YtiidhcpflplpiaaGreatDoor
open Go.RowKit Ste Go.MapKept Go.ChangeMaps
set_option maxRecDepth 100000

section
variable {F : Fence} {n : Nat} {P : Program} {w : World} {ops : Array Oper} {rest : List Oper} {o : Oper} {a : Act} {Q : Exit → Act → World → Prop}
theorem wpListIn_range_raw (hg : o.guard = none) (m : Operand) (t : TypeId) (hop : o.op = Op.range t m) (v : Value) (hm : a.eval m = v) (r : Value) (w' : World) (hrun : (Instr.range t v).run P w = .ok r w')
    (hK : wpListIn F n P ops Q rest (a.put o.dst r) w') : wpListIn F n P ops Q (o :: rest) a w := by
  refine wpListIn_plain hg fun K' hK' => ?_
  unfold Oper.wpIn
  refine ⟨by simp [Oper.about, hop], ?_⟩
  rw [Oper.semAt_plain F _ _ (by rw [hop]; intro c hc'; cases hc')]
  simp [execOp, hop, hm, hrun, Result.andThen]
  exact hK' _ _ hK
theorem wpListIn_next_raw (hg : o.guard = none) (it : Operand) (hop : o.op = Op.next it false) (v : Value) (hm : a.eval it = v) (r : Value) (w' : World) (hrun : ∀ ty, (Instr.next v false ty).run P w = .ok r w')
    (hK : wpListIn F n P ops Q rest (a.put o.dst r) w') : wpListIn F n P ops Q (o :: rest) a w := by
  refine wpListIn_plain hg fun K' hK' => ?_
  unfold Oper.wpIn
  refine ⟨by simp [Oper.about, hop], ?_⟩
  rw [Oper.semAt_plain F _ _ (by rw [hop]; intro c hc'; cases hc')]
  simp [execOp, hop, hm, hrun, Result.andThen]
  exact hK' _ _ hK
end

/-- A range over the map under way: what has come, and how many are left. -/
def VR (w : World) (b r : Nat) (tl got : List Tm) (cnt : Nat) : Prop :=
  ∃ es clock since seen c0, w.heap[b]? = some (.map es clock) ∧ Stamped es clock ∧ es.toList.map (·.val) = tl.map tmV ∧ w.heap[r]? = some (.mapIter (some b) since seen c0) ∧ (∀ x ∈ es.toList, x.born < since) ∧ since ≤ c0 ∧ since ≤ clock ∧
    (leftOf es seen).size = cnt ∧ (got.map tmV ++ (leftOf es seen).toList.map (·.val)).Perm (tl.map tmV)
theorem left_perm {es : Array MapEntry} {seen : Array Nat} (hn : (es.toList.map (·.born)).Nodup) {e : MapEntry} (he : e ∈ (leftOf es seen).toList) : (leftOf es seen).toList.Perm (e :: (leftOf es (seen.push e.born)).toList) := by
  have hsub : ∀ s : Array Nat, (leftOf es s).toList = es.toList.filter fun x => !s.contains x.born := fun s => by unfold leftOf; simp
  have hnd : ∀ s : Array Nat, (leftOf es s).toList.Nodup := fun s => by
    rw [hsub]
    exact List.Pairwise.filter _ ((List.pairwise_map.1 hn).imp fun h e => h (by rw [e]))
  have hm := mem_left he
  rw [List.perm_ext_iff_of_nodup (hnd seen) (List.nodup_cons.2 ⟨fun g => by
    rw [hsub, List.mem_filter, contains_push] at g
    simp at g, hnd _⟩)]
  intro x
  rw [List.mem_cons, hsub, hsub, List.mem_filter, List.mem_filter, contains_push]
  constructor
  · rintro ⟨h1, h2⟩
    by_cases hb : x.born = e.born
    · exact .inl (born_inj hn h1 hm.1 hb)
    · refine .inr ⟨h1, ?_⟩
      have h3 : (x.born == e.born) = false := by simpa using hb
      rw [h3, Bool.or_false]
      exact h2
  · rintro (rfl | ⟨h1, h2⟩)
    · exact ⟨hm.1, by rw [hm.2]; rfl⟩
    · refine ⟨h1, ?_⟩
      cases hc : seen.contains x.born with
      | false => rfl
      | true => rw [hc] at h2; simp at h2
theorem tmV_inj {x y : Tm} (h : tmV x = tmV y) : x = y := by
  obtain ⟨a1, a2, a3, a4, a5⟩ := x
  obtain ⟨b1, b2, b3, b4, b5⟩ := y
  simp [tmV] at h
  obtain ⟨h1, h2, h3, h4, h5⟩ := h
  subst h1; subst h2; subst h3; subst h4; subst h5
  rfl
def unTm : Value → Tm
  | .agg cs => match cs.toList with
    | [.int _ a, .int _ b, .int _ c, .int _ d, .string s] => ⟨a, b, c, d, s⟩
    | _ => ⟨0, 0, 0, 0, ⟨#[]⟩⟩
  | _ => ⟨0, 0, 0, 0, ⟨#[]⟩⟩
theorem unTm_tmV (t : Tm) : unTm (tmV t) = t := rfl
theorem perm_tmV {l m : List Tm} (h : (l.map tmV).Perm (m.map tmV)) : l.Perm m := by
  have e : ∀ k : List Tm, (k.map tmV).map unTm = k := fun k => by
    rw [List.map_map]
    conv => rhs; rw [← List.map_id k]
    rfl
  have := h.map unTm
  rwa [e, e] at this
theorem VMap.range {w : World} {b : Nat} {tl : List Tm} (h : VMap w b (tl.map tmP)) :
    ∃ w', (Instr.range mt (.map (some b))).run Tryz.prog w = .ok (.pointer (some ⟨w.heap.size, 0, none⟩)) w' ∧ VR w' b w.heap.size tl [] tl.length ∧ w.grownBy w' none := by
  have hlt := h.lt
  obtain ⟨es, clock, hb, hs, he⟩ := h
  have hv : es.toList.map (·.val) = tl.map tmV := by
    have := congrArg (List.map Prod.snd) he
    rw [List.map_map, List.map_map, List.map_map] at this
    exact this
  have hlen : es.size = tl.length := by
    have := congrArg List.length hv
    simpa using this
  have hle : leftOf es #[] = es := by simp [leftOf]
  refine ⟨_, run_range_map w mt 3 37 b es clock mapT hb, ⟨es, clock, clock, #[], clock, ((MapKept.heap_alloc w _).2 b hlt).trans hb, hs, hv, (MapKept.heap_alloc w _).1, hs.1, Nat.le_refl _, Nat.le_refl _, by rw [hle]; exact hlen, by rw [hle, hv]; exact List.Perm.refl _⟩, World.grownBy_alloc w _ none⟩
theorem VR.left_eq {w : World} {b r : Nat} {tl got : List Tm} {cnt : Nat} (h : VR w b r tl got cnt) : w.rangeLeft b r = cnt := by
  obtain ⟨es, clock, since, seen, c0, hb, _, _, hr, _, _, _, hc, _⟩ := h
  simp only [World.rangeLeft, hb, hr]
  exact hc
theorem VR.of_walks {w w' : World} {b r : Nat} {tl got : List Tm} {cnt : Nat} (h : VR w b r tl got cnt) (k : KeepsWalks w w') : VR w' b r tl got cnt := by
  obtain ⟨es, clock, since, seen, c0, hb, h2, h3, hr, rest⟩ := h
  exact ⟨es, clock, since, seen, c0, k.same b _ hb rfl, h2, h3, k.same r _ hr rfl, rest⟩
theorem VR.iter_walk {w : World} {b r : Nat} {tl got : List Tm} {cnt : Nat} (h : VR w b r tl got cnt) : ∃ o : Obj, w.heap[r]? = some o ∧ o.isWalk = true := by
  obtain ⟨es, clock, since, seen, c0, hb, h2, h3, hr, rest⟩ := h
  exact ⟨_, hr, rfl⟩
theorem VR.done {w : World} {b r : Nat} {tl got : List Tm} (h : VR w b r tl got 0) : got.Perm tl := by
  obtain ⟨es, clock, since, seen, c0, hb, _, _, hr, _, _, _, hc, hp⟩ := h
  have : (leftOf es seen).toList = [] := by
    have h0 : leftOf es seen = #[] := Array.eq_empty_of_size_eq_zero hc
    rw [h0]
  rw [this, List.map_nil, List.append_nil] at hp
  exact perm_tmV hp
theorem VR.next {w : World} {b r : Nat} {tl got : List Tm} {cnt : Nat} (h : VR w b r tl got cnt) :
    (cnt = 0 ∧ ∀ ty, (Instr.next (.pointer (some ⟨r, 0, none⟩)) false ty).run Tryz.prog w = .ok (.tuple #[.bool false]) w) ∨
    ∃ (key : Value) (x : Tm) (w' : World) (cnt' : Nat), (∀ ty, (Instr.next (.pointer (some ⟨r, 0, none⟩)) false ty).run Tryz.prog w = .ok (.tuple #[.bool true, key, tmV x]) w') ∧ VR w' b r tl (got ++ [x]) cnt' ∧ cnt' < cnt ∧ w.grownBy w' (some r) ∧ (Instr.entry (.pointer (some ⟨r, 0, none⟩))).run Tryz.prog w' = .ok (.tuple #[key, tmV x]) w' := by
  obtain ⟨es, clock, since, seen, c0, hb, hs, hv, hr, hold, hsc, hsk, rfl, hp⟩ := h
  have hne : r ≠ b := fun e => by rw [e, hb] at hr; cases hr
  rcases run_next_at (P := Tryz.prog) w 0 r b since c0 seen es clock hr hb hold hsc with ⟨h0, hrun⟩ | ⟨e, he, w1, hal, hrun⟩
  · exact .inl ⟨h0, fun ty => hrun⟩
  · have hnd := ((stamped_iff es clock).1 hs).2.1
    have hm := (mem_left he).1
    obtain ⟨x, hx, hxv⟩ : ∃ x ∈ tl, tmV x = e.val := by
      have : e.val ∈ tl.map tmV := by rw [← hv]; exact List.mem_map.2 ⟨e, hm, rfl⟩
      exact List.mem_map.1 this
    have hr1 : w1.heap[r]? = some (.mapIter (some b) since seen c0) := by rcases hal with rfl | rfl <;> exact hr
    have hb1 : w1.heap[b]? = some (.map es clock) := by rcases hal with rfl | rfl <;> exact hb
    have hset := heap_set (o' := .mapIter (some b) since (seen.push e.born) clock) hr1
    have hb' : (setBlock w1 r (.mapIter (some b) since (seen.push e.born) clock)).heap[b]? = some (.map es clock) := (hset.2 b (fun e1 => hne e1.symm)).trans hb1
    have hlp := (left_perm hnd he).map (·.val)
    refine .inr ⟨e.key, x, _, _, fun ty => by rw [hxv]; exact hrun, ⟨es, clock, since, seen.push e.born, clock, hb', hs, hv, hset.1, hold, hsk, hsk, rfl, ?_⟩, left_shrinks es seen e he, ?_, by rw [hxv]; exact run_entry_at _ r b since seen es clock e hset.1 hb' hm hnd⟩
    · rw [List.map_append, List.append_assoc]
      refine List.Perm.trans (List.Perm.append_left _ ?_) hp
      rw [List.map_cons, List.map_nil, List.singleton_append, hxv]
      exact hlp.symm
    · rcases hal with rfl | rfl <;> exact ⟨rfl, rfl, rfl, by simp [setBlock], fun i _ hi => hset.2 i (fun e1 => hi (by rw [e1]))⟩

set_option maxHeartbeats 1000000 in
theorem values1_in (F : Fence) (n : Nat) (h60 : F.fn 60) (hro : F.round = none) (hn : 1 ≤ n) (l Bm b : Nat) (tl : List Tm) (J : List Tm → World → Prop)
    (hY : ∀ pre x W, J pre W → pre.length < tl.length → YieldAt F (n - 1) Tryz.prog l #[tmV x] W fun e W' => e = .returned (.bool true) ∧ J (pre ++ [x]) W' ∧ KeepsWalks W W')
    (W : World) (hJ : AbidesFrom W.heap.size J) (hm : W.cell? ⟨Bm, 0, none⟩ = some (.map (some b))) (hv : VMap W b (tl.map tmP)) (h0 : J [] W) :
    CallsIn F n Tryz.prog 60 #[.func (.yield l) #[] #[], .pointer (some ⟨Bm, 0, none⟩)] W fun e W' => (∃ v, e = .returned v) ∧ ∃ ss : List Tm, ss.Perm tl ∧ J ss W' := by
  obtain ⟨w0, hrun0, hvr0, hg0⟩ := hv.range
  refine callsIn_of_wp Tryz.func60 rfl h60 ?_ hro
  simp only [Tryz.ntmps60, List.size_toArray, List.length_cons, List.length_nil, Nat.reduceAdd, Nat.reduceSub, Array.replicate_succ, Array.replicate_zero, List.push_toArray, List.append_toArray, List.nil_append, List.cons_append]
  gi_wp2_with (first
    | (gi_at_range; refine wpListIn_range_raw rfl _ mt rfl _ rfl _ _ hrun0 ?_)
    | gi_in)
  go_frame
  gi_loopw [4] (fun _ wr => ∃ (cnt : Nat) (ss : List Tm), VR wr b W.heap.size tl ss cnt ∧ ss.length + cnt ≤ tl.length ∧ J ss wr) (fun _ wr => wr.rangeLeft b W.heap.size)
  case atStart => exact ⟨_, [], hvr0, by simp, hJ [] W w0 none h0 hg0 (fun r e => by cases e)⟩
  case round =>
    obtain ⟨cnt, ss, hrg, hcs, hJs⟩ := hrel
    rcases hrg.next with ⟨rfl, hrun⟩ | ⟨key, x, w2, cnt2, hrun, hrg2, hlt, hg2, hen⟩
    · gi_wp2_with (first
        | (gi_at_next; refine wpListIn_next_raw rfl _ rfl _ rfl _ _ hrun ?_)
        | gi_in)
      go_end0
      exact ⟨⟨_, rfl⟩, ss, hrg.done, hJs⟩
    · have hJ2 : J ss w2 := hJ ss wr w2 (some W.heap.size) hJs hg2 (fun r e => by cases e; exact ⟨Nat.le_refl _, hrg.iter_walk⟩)
      have hJ3 : J ss (w2.alloc (.cells #[.int .i64 x.id, .int .i64 x.client, .int .i64 x.gen, .int .i64 x.due, .string x.cron] 37)) := hJ ss w2 _ none hJ2 (World.grownBy_alloc w2 _ none) (fun r e => by cases e)
      obtain ⟨fn, tmps, assign, body, hy, hR⟩ := hY ss x _ hJ3 (by omega)
      have hrg3 := hrg2.of_walks (KeepsWalks.alloc w2 (.cells #[.int .i64 x.id, .int .i64 x.client, .int .i64 x.gen, .int .i64 x.due, .string x.cron] 37))
      obtain ⟨xid, xclient, xgen, xdue, xcron⟩ := x
      simp only [tmV] at *
      gi_wp2_with (first
        | (gi_at_next; refine wpListIn_next_raw rfl _ rfl _ rfl _ _ hrun ?_)
        | gi_in)
      refine hR.mono ?_
      rintro e W3 ⟨rfl, hJ4, hk4⟩
      gi_wp2
      have hrg4 := hrg3.of_walks hk4
      go_roundw
      case rel => exact ⟨cnt2, ss ++ [⟨xid, xclient, xgen, xdue, xcron⟩], hrg4, by simp; omega, hJ4⟩
      case measure => rw [hrg4.left_eq, hrg.left_eq]; exact hlt
end Go.Proofs.YtiidhcpflplpiaaGreatDoor

/-
  Layer 8: slices.Collect over the map's values, the sort behind it, and List.
-/
set_option linter.unusedVariables false
namespace Go.Proofs.YtiidhcpflplpiaaGreatDoor
open Go.RowKit Ste Go.MapKept Go.ChangeMaps
set_option maxRecDepth 100000
theorem infoTm : (Tryz.prog.info? 37).map (fun i => (i.zero, i.size, i.bytes)) = some (some (.agg #[.int .i64 0, .int .i64 0, .int .i64 0, .int .i64 0, .string ⟨#[]⟩]), 5, 48) := by kernel_rfl
def apAssign : Code := (Code.region 2 #[{ dst := some 5, op := Op.alloc 37, type := 0, pos := "iter.go:51", after := #[], guard := none }, { dst := none, op := Op.store 37 (Operand.tmp 5) (Operand.tmp 7), type := 0, pos := "iter.go:51", after := #[{ on := 0, ground := Ground.data }, { on := 0, ground := Ground.phase }], guard := none }] false)
def apBody : Code := (Code.block 1 (Code.region 3 #[{ dst := some 8, op := Op.load 43 (Operand.tmp 2), type := 43, pos := "iter.go:52", after := #[], guard := none }, { dst := some 9, op := Op.load 37 (Operand.tmp 5), type := 37, pos := "iter.go:52", after := #[], guard := none }, { dst := some 10, op := Op.buildSlice 43 1 #[(0, Operand.tmp 9)], type := 43, pos := "iter.go:52", after := #[{ on := 1, ground := Ground.data }], guard := none }, { dst := some 11, op := Op.call { callee := Callee.builtin Builtin.append, args := #[Operand.tmp 8, Operand.tmp 10], argTypes := #[43, 43] }, type := 43, pos := "iter.go:52", after := #[{ on := 0, ground := Ground.data }, { on := 2, ground := Ground.data }], guard := none }, { dst := none, op := Op.store 43 (Operand.tmp 2) (Operand.tmp 11), type := 0, pos := "iter.go:52", after := #[{ on := 3, ground := Ground.data }, { on := 3, ground := Ground.chain }, { on := 0, ground := Ground.phase }, { on := 1, ground := Ground.phase }, { on := 2, ground := Ground.phase }, { on := 3, ground := Ground.phase }], guard := none }] false))
/-- The loop's record: AppendSeq's temporaries as they stood at the entering. -/
def apRec (fn : FuncId) (sv : Value) (Bs D : Nat) (st : LoopState) (pend : Option Code) : Loop :=
  { state := st, pending := pend, fn, tmps := #[.slice none 0 0, sv, .pointer (some ⟨Bs, 0, none⟩), undef, .slice none 0 0, undef, sv, undef, undef, undef, undef, undef, undef], params := #[7], assign := apAssign, body := apBody, defers := D }
structure ApAt (w0 : World) (fn : FuncId) (sv : Value) (Bs l D : Nat) (ss : List Tm) (W : World) : Prop where
  box : ∃ v, W.heap[Bs]? = some (.cells #[v] 43 (0, 0)) ∧ Tms w0.heap.size W v ss
  L : W.heap[l]? = some (.loop (apRec fn sv Bs D .ready none))
  K : W.heap[D]? = some (.deferred (some []))
  below : Below w0.heap.size w0 W
theorem ap_abides (w0 : World) (fn : FuncId) (sv : Value) (Bs l D B : Nat) (hB : w0.heap.size ≤ B) : AbidesFrom B (ApAt w0 fn sv Bs l D) := fun s W W' row h hg hrow => by
  have hrow' : ∀ r, row = some r → ∃ o : Obj, W.heap[r]? = some o ∧ o.isWalk = true := fun r e => (hrow r e).2
  obtain ⟨v, hv, hr⟩ := h.box
  exact ⟨⟨v, (grownBy_keeps hg hrow' hv rfl).trans hv, ownsRow_abides_a hr hg hrow'⟩, (grownBy_keeps hg hrow' h.L rfl).trans h.L, (grownBy_keeps hg hrow' h.K rfl).trans h.K,
    h.below.grown hg h.below.size (fun k e => Nat.le_trans hB (hrow k e).1)⟩
theorem cells_new (W : World) (x : Tm) : ∀ j u, (encT x)[j]? = some u → (W.alloc (.cells #[.int .i64 x.id, .int .i64 x.client, .int .i64 x.gen, .int .i64 x.due, .string x.cron] 37)).cell? ((⟨W.heap.size, 0, none⟩ : Addr).add j) = some u := by
  intro j u hu
  rw [Addr.add_lit]
  have e := cell_in (Go.heap_alloc_new W (.cells #[.int .i64 x.id, .int .i64 x.client, .int .i64 x.gen, .int .i64 x.due, .string x.cron] 37)) (0 + j)
  rw [e, Nat.zero_add, ← hu]
  match j with
  | 0 => rfl
  | 1 => rfl
  | 2 => rfl
  | 3 => rfl
  | 4 => rfl
  | j + 5 => simp [encT]
set_option maxHeartbeats 4000000 in
theorem apYield (F : Fence) (m : Nat) (w0 : World) (fn : FuncId) (hfn : F.fn fn) (sv : Value) (Bs l D : Nat) (hBl : Bs ≠ l) (hDl : D ≠ l) (hDB : D ≠ Bs) (h0B : w0.heap.size ≤ Bs) (h0l : w0.heap.size ≤ l)
    (N : Nat) (hN : N ≤ 1000) (ss : List Tm) (x : Tm) (W : World) (h : ApAt w0 fn sv Bs l D ss W) (hlen : ss.length < N) :
    YieldAt F m Tryz.prog l #[tmV x] W fun e W' => e = .returned (.bool true) ∧ ApAt w0 fn sv Bs l D (ss ++ [x]) W' ∧ KeepsWalks W W' := by
  obtain ⟨i0, hi, hz0, hz1, hz2⟩ := info_parts infoTm
  obtain ⟨v, hv, hrow⟩ := h.box
  refine ⟨fn, #[.slice none 0 0, sv, .pointer (some ⟨Bs, 0, none⟩), undef, .slice none 0 0, undef, sv, tmV x, undef, undef, undef, undef, undef], apAssign, apBody, by simpa [apRec] using run_yield (P := Tryz.prog) (args := #[tmV x]) h.L rfl, roundIn_of_wpIn hfn ?_⟩
  have hl : l < W.heap.size := (Array.getElem?_eq_some_iff.1 h.L).1
  obtain ⟨xid, xclient, xgen, xdue, xcron⟩ := x
  simp only [tmV] at *
  obtain ⟨W1, hW1⟩ : ∃ W1, W.alloc (.cells #[.int .i64 xid, .int .i64 xclient, .int .i64 xgen, .int .i64 xdue, .string xcron] 37) = W1 := ⟨_, rfl⟩
  have hold1 : ∀ k, k < W.heap.size → W1.heap[k]? = W.heap[k]? := fun k hk => by rw [← hW1]; exact Below.heap_alloc _ _ k hk
  have hL1 : W1.heap[l]? = some (.loop (apRec fn sv Bs D .ready none)) := (hold1 l hl).trans h.L
  have hT1 : W1.heap[W.heap.size]? = some (.cells #[.int .i64 xid, .int .i64 xclient, .int .i64 xgen, .int .i64 xdue, .string xcron] 37 (0, 0)) := by rw [← hW1]; exact Go.heap_alloc_new W _
  have hg1 : W.grownBy W1 none := by rw [← hW1]; exact World.grownBy_alloc W _ none
  have hk1 : KeepsWalks W W1 := by rw [← hW1]; exact KeepsWalks.alloc W _
  have hbr := run_beginRound (P := Tryz.prog) hL1 rfl
  obtain ⟨W2, hW2⟩ : ∃ W2, W1.putObj l (.loop { apRec fn sv Bs D .ready none with state := .busy }) = W2 := ⟨_, rfl⟩
  rw [hW2] at hbr
  have hBlt0 : Bs < W.heap.size := (Array.getElem?_eq_some_iff.1 hv).1
  have hDlt0 : D < W.heap.size := (Array.getElem?_eq_some_iff.1 h.K).1
  have hg2 : W1.grownBy W2 (some l) := by rw [← hW2]; exact grownBy_putObj_a _ _ _
  have hk2 : KeepsWalks W W2 := hk1.trans (by rw [← hW2]; exact KeepsWalks.putObj _ hL1 rfl)
  have hv2 : W2.heap[Bs]? = some (.cells #[v] 43 (0, 0)) := by rw [← hW2]; exact (World.putObj_heap_other hBl).trans ((hold1 _ hBlt0).trans hv)
  have hK2 : W2.heap[D]? = some (.deferred (some [])) := by rw [← hW2]; exact (World.putObj_heap_other hDl).trans ((hold1 _ hDlt0).trans h.K)
  have hL2 : W2.heap[l]? = some (.loop { apRec fn sv Bs D .ready none with state := .busy }) := by rw [← hW2]; exact World.putObj_heap_same (Array.getElem?_eq_some_iff.1 hL1).1
  have hT2 : W2.heap[W.heap.size]? = some (.cells #[.int .i64 xid, .int .i64 xclient, .int .i64 xgen, .int .i64 xdue, .string xcron] 37 (0, 0)) := by rw [← hW2]; exact (World.putObj_heap_other (by omega)).trans hT1
  have hrow1 : W1.ownsRow w0.heap.size 37 5 v ss.length (flatT ss) := by rw [← hW1]; exact World.ownsRow.alloc hrow _
  have hrow2 : W2.ownsRow w0.heap.size 37 5 v ss.length (flatT ss) := World.ownsRow.kept hrow1 hg2 (ownsRow_ne_a hrow1 hL1 (fun cur e => by cases e))
  have hb2 : Below w0.heap.size w0 W2 := (h.below.grown hg1 h.below.size (fun k e => by cases e)).grown hg2 (Nat.le_trans h.below.size hg1.size) (fun k e => by cases e; exact h0l)
  obtain ⟨hc2, hf2⟩ := cell_of_box_a hv2
  have hBlt : Bs < W2.heap.size := (Array.getElem?_eq_some_iff.1 hv2).1
  have hl2 : l < W2.heap.size := (Array.getElem?_eq_some_iff.1 hL2).1
  have hDlt : D < W2.heap.size := (Array.getElem?_eq_some_iff.1 hK2).1
  have ne_of : ∀ {j : Nat} {o : Obj}, W2.heap[j]? = some o → (∀ cur, o ≠ .cells cur 37 (0, 0)) → some j ≠ v.ownBlock := fun hj hno => by
    rcases ownsRow_ne_a hrow2 hj hno with e | e
    · rw [e]; simp
    · exact fun e' => e e'.symm
  clear hW2
  unfold apAssign
  gi_wp2_with gi_round_op_a
  have hc50 := cell_in hT2 0
  have hc51 := cell_in hT2 1
  have hc52 := cell_in hT2 2
  have hc53 := cell_in hT2 3
  have hc54 := cell_in hT2 4
  simp only [List.getElem?_toArray, List.getElem?_cons_zero, List.getElem?_cons_succ] at hc50 hc51 hc52 hc53 hc54
  generalize W.heap.size = g5 at *
  unfold apBody
  gi_wp2_with (first
    | (gi_at_builtin; refine wpListIn_append_own _ rfl _ _ 43 rfl w0.heap.size 37 i0 _ 5 48 Tryz.underlying43 hi hz0 hz1 hz2 rfl (by decide) _ _ _ rfl (hrow2.alloc _) ⟨W2.heap.size, 0, none⟩ 1 1 (encT ⟨xid, xclient, xgen, xdue, xcron⟩) rfl rfl (cells_new W2 ⟨xid, xclient, xgen, xdue, xcron⟩) (by intro u hu; simp [encT] at hu; rcases hu with rfl | rfl | rfl | rfl | rfl <;> rfl) (by unfold maxLen; omega) (by omega) (by have := hb2.size; simp; omega) ?_; intro v' w3 hown' hg3 hnil3
       have hv3 : w3.heap[Bs]? = some (.cells #[v] 43 (0, 0)) := (hg3.block Bs (by simp; omega) (ne_of hv2 (fun cur e => by injection e with _ e2 _; cases e2))).trans ((Below.heap_alloc _ _ Bs hBlt).trans hv2)
       obtain ⟨hc3, hf3⟩ := cell_of_box_a hv3
       obtain ⟨g', cap', rfl⟩ : ∃ g' cap', v' = .slice (some ⟨g', 0, none⟩) (ss.length + 1) cap' := by
         rcases hown'.2 with ⟨_, h0⟩ | ⟨g', cap', _, e, _⟩
         · exact absurd h0 (by omega)
         · exact ⟨g', cap', e⟩
       go_frame)
    | gi_round_op_a)
  have hg3' : (W2.alloc (.cells #[.int .i64 xid, .int .i64 xclient, .int .i64 xgen, .int .i64 xdue, .string xcron] 37)).grownBy w3 v.ownBlock := hg3
  have hL3 : w3.heap[l]? = some (.loop { apRec fn sv Bs D .ready none with state := .busy }) := (hg3'.block l (by simp; omega) (ne_of hL2 (fun cur e => by cases e))).trans ((Below.heap_alloc _ _ l hl2).trans hL2)
  have hK3 : w3.heap[D]? = some (.deferred (some [])) := (hg3'.block D (by simp; omega) (ne_of hK2 (fun cur e => by cases e))).trans ((Below.heap_alloc _ _ D hDlt).trans hK2)
  obtain ⟨w4, hw4⟩ : ∃ w4, w3.setCell ⟨Bs, 0, none⟩ (.slice (some ⟨g', 0, none⟩) (ss.length + 1) cap') = w4 := ⟨_, rfl⟩
  rw [hw4]
  have hg4 : w3.grownBy w4 (some Bs) := by rw [← hw4]; exact grownBy_setCell0_a _ _ _
  have hv4 : w4.heap[Bs]? = some (.cells #[.slice (some ⟨g', 0, none⟩) (ss.length + 1) cap'] 43 (0, 0)) := by rw [← hw4]; exact heap_setCell_box_a _ hv3
  have hL4 : w4.heap[l]? = some (.loop { apRec fn sv Bs D .ready none with state := .busy }) := (hg4.block l (Array.getElem?_eq_some_iff.1 hL3).1 (fun e => hBl (by cases e; rfl))).trans hL3
  have hK4 : w4.heap[D]? = some (.deferred (some [])) := (hg4.block D (Array.getElem?_eq_some_iff.1 hK3).1 (fun e => hDB (by cases e; rfl))).trans hK3
  have hrow4 := hown'.kept hg4 (ownsRow_ne_a hown' hv3 (fun cur e => by injection e with _ e2 _; cases e2))
  have hl4 : l < w4.heap.size := (Array.getElem?_eq_some_iff.1 hL4).1
  have hb3 : Below w0.heap.size w0 w3 := (hb2.alloc hb2.size _).grown hg3' (by have := hb2.size; simp; omega) (fun k e => (hrow2.lt k e).1)
  have hb4 : Below w0.heap.size w0 w4 := hb3.grown hg4 hb3.size (fun k e => by cases e; exact h0B)
  have hk4 : KeepsWalks W w4 := ((hk2.trans (KeepsWalks.alloc _ _)).trans (KeepsWalks.of_grownBy hg3' (ownsRow_not_walk_a (hrow2.alloc _)))).trans (by rw [← hw4]; exact KeepsWalks.setCell _ _ _)
  clear hw4
  refine ⟨_, _, run_endRound none hL4, rfl, ⟨⟨_, (World.putObj_heap_other hBl).trans hv4, ?_⟩, World.putObj_heap_same hl4, (World.putObj_heap_other hDl).trans hK4, hb4.grown (grownBy_putObj_a _ _ _) hb4.size (fun k e => by cases e; exact h0l)⟩, hk4.trans (KeepsWalks.putObj _ hL4 rfl)⟩
  have e := hrow4.kept (grownBy_putObj_a w4 l (.loop { { apRec fn sv Bs D .ready none with state := .busy } with state := if (none : Option Code).isNone then .ready else .done, pending := none })) (ownsRow_ne_a hrow4 hL4 (fun cur e => by cases e))
  unfold Tms
  rw [List.length_append, flatT_app, flatT_one]
  exact e

set_option maxHeartbeats 2000000 in
theorem appendSeq_in (F : Fence) (n : Nat) (h79 : F.fn 79) (hro : F.round = none) (hn : 2 ≤ n) (g : Nat) (lb : Array Value) (hFg : F.fn g) (eg : ∀ args w, (callFunc g args).run Tryz.prog w = .ok (.enter g args) w)
    (S : List Tm → Prop) (N : Nat) (hN : N ≤ 1000) (w : World) (hseq : SeqGives F (n - 1) Tryz.prog g lb tmV S N w) :
    CallsIn F n Tryz.prog 79 #[.slice none 0 0, .func (.func g) #[] lb] w fun e w' => ∃ (v : Value) (ss : List Tm), e = .returned v ∧ S ss ∧ Tms w.heap.size w' v ss ∧ Below w.heap.size w w' := by
  have h1 : 1 ≤ n := by omega
  refine callsIn_of_wp_marks Tryz.func79 rfl h79 ?_ hro
  simp only [Tryz.ntmps79, List.size_toArray, List.length_cons, List.length_nil, Nat.reduceAdd, Nat.reduceSub, Array.replicate_succ, Array.replicate_zero, List.push_toArray, List.append_toArray, List.nil_append, List.cons_append]
  gi_wp2
  refine wpIn_rangeFunc ?_
  intro fn hfn
  rw [hro]
  obtain ⟨W0, hW0⟩ : ∃ W0, w.alloc (.cells #[.slice none 0 0] 43) = W0 := ⟨_, rfl⟩
  have hs0 : W0.heap.size = w.heap.size + 1 := by rw [← hW0]; simp
  have hv0 : W0.heap[w.heap.size]? = some (.cells #[.slice none 0 0] 43 (0, 0)) := by rw [← hW0]; exact World.alloc_heap_new w _
  have hb0 : Below w.heap.size w W0 := by rw [← hW0]; exact (Below.refl _ w).alloc (Nat.le_refl _) _
  rw [hW0]
  obtain ⟨W1, hW1⟩ : ∃ W1, (W0.alloc (.deferred (some []))).alloc (.loop (apRec fn (.func (.func g) #[] lb) w.heap.size W0.heap.size .ready none)) = W1 := ⟨_, rfl⟩
  have hold : ∀ k, k < W0.heap.size → W1.heap[k]? = W0.heap[k]? := fun k hk => by
    rw [← hW1]; exact (Below.heap_alloc _ _ k (by simp; omega)).trans (Below.heap_alloc _ _ k hk)
  have hb1 : Below w.heap.size w W1 := by rw [← hW1]; exact (hb0.alloc hb0.size _).alloc (by have := hb0.size; simp; omega) _
  have hs1 : W1.heap.size = W0.heap.size + 2 := by rw [← hW1]; simp
  have hM : ApAt w fn (.func (.func g) #[] lb) w.heap.size (W0.heap.size + 1) W0.heap.size [] W1 :=
    ⟨⟨_, (hold w.heap.size (by omega)).trans hv0, ⟨rfl, .inl ⟨rfl, rfl⟩⟩⟩,
     by rw [← hW1]; have := World.alloc_heap_new (W0.alloc (.deferred (some []))) (.loop (apRec fn (.func (.func g) #[] lb) w.heap.size W0.heap.size .ready none)); rwa [World.size_alloc] at this,
     by rw [← hW1]; exact (Below.heap_alloc _ _ _ (by simp)).trans (World.alloc_heap_new W0 _), hb1⟩
  refine ⟨W0.heap.size + 1, [{ target := .collected W0.heap.size, args := #[] }], W1, { target := .fn (.func g) lb, args := #[.func (.yield (W0.heap.size + 1)) #[] #[]] }, W1, g,
    #[.func (.yield (W0.heap.size + 1)) #[] #[]] ++ lb, W1, ?_, ?_, ?_, ?_, fun _ => h1, ?_⟩
  · rw [← hW1]; exact run_enterLoop_outer _ _ _ _ _
  · simp [resolve, go_sem]
  · intro f' hf'; simp [Target.leads] at hf'; subst hf'; exact hFg
  · simp [invoke, go_sem, eg]
  · refine (hseq (W0.heap.size + 1) (ApAt w fn (.func (.func g) #[] lb) w.heap.size (W0.heap.size + 1) W0.heap.size) W1 hb1 (ap_abides _ _ _ _ _ _ _ hb1.size)
      (fun pre x W hJ hl => apYield F (n - 1 - 1) w fn hfn _ w.heap.size (W0.heap.size + 1) W0.heap.size (by omega) (by omega) (by omega) (Nat.le_refl _) (by omega) N hN pre x W hJ hl) hM).mono ?_
    rintro e W2 ⟨⟨v0, rfl⟩, ss, hS, h2⟩
    obtain ⟨v, hv, hrow⟩ := h2.box
    have hend := run_endLoop (P := Tryz.prog) h2.L (by simp [apRec])
    obtain ⟨W3, hW3⟩ : ∃ W3, W2.putObj (W0.heap.size + 1) (.loop { apRec fn (.func (.func g) #[] lb) w.heap.size W0.heap.size .ready none with state := .exhausted }) = W3 := ⟨_, rfl⟩
    rw [hW3] at hend
    have hg3 : W2.grownBy W3 (some (W0.heap.size + 1)) := by rw [← hW3]; exact grownBy_putObj_a _ _ _
    have hv3 : W3.heap[w.heap.size]? = some (.cells #[v] 43 (0, 0)) := by rw [← hW3]; exact (World.putObj_heap_other (by omega)).trans hv
    have hK3 : W3.heap[W0.heap.size]? = some (.deferred (some [])) := by rw [← hW3]; exact (World.putObj_heap_other (by omega)).trans h2.K
    have hrow3 := World.ownsRow.kept hrow hg3 (ownsRow_ne_a hrow h2.L (fun cur e => by cases e))
    have hb3 : Below w.heap.size w W3 := h2.below.grown hg3 h2.below.size (fun k e => by cases e; omega)
    obtain ⟨hc3, hf3⟩ := cell_of_box_a hv3
    clear hW3
    refine ⟨none, W3, hend, ?_⟩
    gi_wp2
    rw [← hs0]
    refine ⟨by simp, .inl ⟨_, _, rfl, run_takeDeferred hK3, ?_⟩⟩
    exact ⟨_, results_tmp rfl _ _ _, v, ss, rfl, hS, World.ownsRow.kept hrow3 (grownBy_putObj_a _ _ _) (ownsRow_ne_a hrow3 hK3 (fun cur e => by cases e)), hb3.grown (grownBy_putObj_a _ _ _) hb3.size (fun k e => by cases e; omega)⟩
set_option maxHeartbeats 1000000 in
theorem collect_in (F : Fence) (n : Nat) (h58 : F.fn 58) (h79 : F.fn 79) (hro : F.round = none) (hn : 3 ≤ n) (g : Nat) (lb : Array Value) (hFg : F.fn g) (eg : ∀ args w, (callFunc g args).run Tryz.prog w = .ok (.enter g args) w)
    (S : List Tm → Prop) (N : Nat) (hN : N ≤ 1000) (w : World) (hseq : SeqGives F (n - 1 - 1) Tryz.prog g lb tmV S N w) :
    CallsIn F n Tryz.prog 58 #[.func (.func g) #[] lb] w fun e w' => ∃ (v : Value) (ss : List Tm), e = .returned v ∧ S ss ∧ Tms w.heap.size w' v ss ∧ Below w.heap.size w w' := by
  have h1 : 1 ≤ n := by omega
  refine callsIn_of_wp Tryz.func58 rfl h58 ?_ hro
  simp only [Tryz.ntmps58, List.size_toArray, List.length_cons, List.length_nil, Nat.reduceAdd, Nat.reduceSub, Array.replicate_succ, Array.replicate_zero, List.push_toArray, List.append_toArray, List.nil_append, List.cons_append]
  gi_wp2_with (gi_at_call 79; refine (appendSeq_in F (n - 1) h79 hro (by omega) g lb hFg eg S N hN _ hseq).mono ?_; rintro e w' ⟨v, ss, rfl, hS, hrow, hb⟩)
  go_ret
  exact ⟨v, ss, rfl, hS, hrow, hb⟩
end Go.Proofs.YtiidhcpflplpiaaGreatDoor

/-
  Layer 8: List, where there is a service.
-/
set_option linter.unusedVariables false
namespace Go.Proofs.YtiidhcpflplpiaaGreatDoor
open Go.RowKit Ste Go.MapKept Go.ChangeMaps
set_option maxRecDepth 100000

theorem tms_le {base base' : Nat} {w : World} {v : Value} {l : List Tm} (h : Tms base w v l) (hb : base' ≤ base) : Tms base' w v l := by
  refine ⟨h.1, ?_⟩
  rcases h.2 with h0 | ⟨g, cap, cur, rfl, hg, hr⟩
  · exact .inl h0
  · exact .inr ⟨g, cap, cur, rfl, Nat.le_trans hb hg, hr⟩
theorem seq_values (F : Fence) (n : Nat) (h60 : F.fn 60) (hro : F.round = none) (hn : 1 ≤ n) (Bm b : Nat) (tl : List Tm) (w : World) (hBm : Bm < w.heap.size)
    (hm : w.cell? ⟨Bm, 0, none⟩ = some (.map (some b))) (hv : VMap w b (tl.map tmP)) :
    SeqGives F n Tryz.prog 60 #[.pointer (some ⟨Bm, 0, none⟩)] tmV (fun ss => ss.Perm tl) tl.length w := fun l J W hW hJ hY h0 => by
  have hv' := hv.kept (hW.block b hv.lt)
  have hm' : W.cell? ⟨Bm, 0, none⟩ = some (.map (some b)) := (hW.cell (p := ⟨Bm, 0, none⟩) hBm).trans hm
  exact (values1_in F n h60 hro hn l Bm b tl J (fun pre x W1 h1 h2 => hY pre x W1 h1 h2) W hJ hm' hv' h0).mono fun e W' h => h

theorem values_any (mb : Nat) (w : World) : Calls Tryz.prog 39 #[.map (some mb)] w fun e w' => e = .returned (.func (.func 60) #[] #[.pointer (some ⟨w.heap.size, 0, none⟩)]) ∧ Below w.heap.size w w' ∧ w'.cell? ⟨w.heap.size, 0, none⟩ = some (.map (some mb)) ∧ w.heap.size < w'.heap.size := by
  go_enter Tryz.func39, Tryz.ntmps39
  go_wp2_with fail
  go_ret
  exact ⟨rfl, (Below.refl _ _).alloc (Nat.le_refl _) _, cell_in (Go.heap_alloc_new w _) 0, by show _ < (w.heap.push _).size; rw [Array.size_push]; omega⟩

theorem collect_any (Bm b : Nat) (tl : List Tm) (hl : tl.length ≤ 1000) (w : World) (hBm : Bm < w.heap.size) (hm : w.cell? ⟨Bm, 0, none⟩ = some (.map (some b))) (hv : VMap w b (tl.map tmP)) :
    Calls Tryz.prog 58 #[.func (.func 60) #[] #[.pointer (some ⟨Bm, 0, none⟩)]] w fun e w' => ∃ (v : Value) (ss : List Tm), e = .returned v ∧ ss.Perm tl ∧ Tms w.heap.size w' v ss ∧ Below w.heap.size w w' :=
  callsIn_wide.1 (collect_in Fence.wide 5 trivial trivial rfl (by omega) _ _ trivial (fun _ _ => rfl) (fun ss => ss.Perm tl) tl.length hl w (seq_values Fence.wide _ trivial rfl (by omega) Bm b tl w hBm hm hv))

/-- What the map holds, in the order of ids. -/
theorem sorted_any (Bm b : Nat) (tl T : List Tm) (hl : tl.length ≤ 1000) (hp : tl.Perm T) (hu : Up T) (w : World) (hBm : Bm < w.heap.size) (hm : w.cell? ⟨Bm, 0, none⟩ = some (.map (some b))) (hv : VMap w b (tl.map tmP)) :
    Calls Tryz.prog 38 #[.func (.func 60) #[] #[.pointer (some ⟨Bm, 0, none⟩)], .func (.func 40) #[] #[]] w fun e w' => ∃ v : Value, e = .returned v ∧ Tms w.heap.size w' v T ∧ Below w.heap.size w w' := by
  have cC := Lib.hid (collect_any Bm b tl hl w hBm hm hv)
  have cS := Lib.hid (fun v l W (h : Tms w.heap.size W v l) (hq : l.Perm T) (hl2 : l.length ≤ 1000) (hb : w.heap.size ≤ W.heap.size) => sort_any w.heap.size v l T W h hq hu hl2 hb)
  replace hp := Lib.hid hp
  replace hl := Lib.hid hl
  clear hu hm hv hBm
  go_enter Tryz.func38, Tryz.ntmps38
  go_wp2_with fail
  refine cC.out.mono ?_
  rintro e w1 ⟨v1, ss, rfl, hS, hrow, hb⟩
  have c2 := Lib.hid (cS.out v1 ss w1 hrow (hS.trans hp.out) (by rw [hS.length_eq]; exact hl.out) hb.size)
  replace hb := Lib.hid hb
  clear hrow hS
  go_wp2_with fail
  refine c2.out.mono ?_
  rintro e w2 ⟨rfl, hT, hb2⟩
  replace hT := Lib.hid hT
  replace hb2 := Lib.hid hb2
  clear c2
  go_wp2_with fail
  go_ret
  exact ⟨_, rfl, hT.out, hb.out.trans hb2.out⟩

theorem list_any {w : World} {b c : Nat} {s : St} {cl : List Int} {x : Px} (h : Sv w b s cl x c) (hs : x.tl.length ≤ 1000) :
    Calls Tryz.prog 20 #[.pointer (some ⟨b, 0, none⟩)] w fun e w' => ∃ v : Value, e = .returned v ∧ Tms w.heap.size w' v s.T ∧ Below w.heap.size w w' := by
  have c2 := h.c2
  have cV := Lib.hid (values_any x.tb w)
  have cS := Lib.hid (fun W (hb : Below w.heap.size w W) (hm : W.cell? ⟨w.heap.size, 0, none⟩ = some (.map (some x.tb))) (hlt : w.heap.size < W.heap.size) => sorted_any w.heap.size x.tb x.tl s.T hs h.tp h.ok.up W hlt hm (h.tm.kept (hb.block _ h.tm.lt)))
  clear h hs
  go_enter Tryz.func20, Tryz.ntmps20
  go_wp2_with fail
  refine cV.out.mono ?_
  rintro e w1 ⟨rfl, hb, hm, hlt⟩
  have c3 := Lib.hid (cS.out w1 hb hm hlt)
  replace hb := Lib.hid hb
  clear hm hlt
  go_wp2_with fail
  refine c3.out.mono ?_
  rintro e w2 ⟨v, rfl, hT, hb2⟩
  replace hT := Lib.hid hT
  replace hb2 := Lib.hid hb2
  clear c3
  go_wp2_with fail
  go_ret
  exact ⟨_, rfl, tms_le hT.out hb.out.size, hb.out.trans (hb2.out.mono hb.out.size)⟩
end Go.Proofs.YtiidhcpflplpiaaGreatDoor

/-
  Layer 8: the methods of a service that is none.
-/
set_option linter.unusedVariables false
namespace Go.Proofs.YtiidhcpflplpiaaGreatDoor
open Go.RowKit Crn Nxt Ste
set_option maxRecDepth 100000

theorem get_nil (id : Int) (w : World) : Calls Tryz.prog 17 #[.pointer none, .int .i64 id] w fun e w' => e = .returned (.tuple #[tmV zTm, .int .i64 12]) ∧ Below w.heap.size w w' := by
  unfold zTm at *
  go_enter Tryz.func17, Tryz.ntmps17
  go_wp2_with fail
  refine bodyPost_ret (v := .tuple #[tmV zTm, .int .i64 12]) ?_ rfl ?_
  · rw [results_cell_tmp rfl]
    go_simp
    try exact ⟨rfl, rfl, rfl, rfl, rfl⟩
  · exact ⟨rfl, (Below.refl _ _).alloc (Nat.le_refl _) _⟩

theorem last_nil (id : Int) (w : World) : Calls Tryz.prog 21 #[.pointer none, .int .i64 id] w fun e w' => e = .returned (.tuple #[.int .i64 0, rpV ⟨0, 0, 0⟩, .bool false]) ∧ Below w.heap.size w w' := by
  go_enter Tryz.func21, Tryz.ntmps21
  go_wp2_with fail
  refine bodyPost_ret (v := .tuple #[.int .i64 0, rpV ⟨0, 0, 0⟩, .bool false]) ?_ rfl ?_
  · rw [results_tmp_cell_tmp rfl]
    go_simp
    try exact ⟨rfl, rfl, rfl⟩
  · exact ⟨rfl, (Below.refl _ _).alloc (Nat.le_refl _) _⟩

theorem list_nil (w : World) : Calls Tryz.prog 20 #[.pointer none] w fun e w' => e = .returned (.slice none 0 0) ∧ w' = w := by
  go_enter Tryz.func20, Tryz.ntmps20
  go_wp2_with fail
  go_ret
  exact ⟨rfl, rfl⟩
theorem clients_nil (w : World) : Calls Tryz.prog 23 #[.pointer none] w fun e w' => e = .returned (.slice none 0 0) ∧ w' = w := by
  go_enter Tryz.func23, Tryz.ntmps23
  go_wp2_with fail
  go_ret
  exact ⟨rfl, rfl⟩
theorem copy_nil (w : World) : Calls Tryz.prog 24 #[.pointer none] w fun e w' => e = .returned (.pointer none) ∧ w' = w := by
  go_enter Tryz.func24, Tryz.ntmps24
  go_wp2_with fail
  go_ret
  exact ⟨rfl, rfl⟩
theorem fires_nil (o : OpN) (w : World) : Calls Tryz.prog 13 #[.pointer none, opV o] w fun e w' => e = .returned (.bool false) ∧ Below w.heap.size w w' := by
  obtain ⟨okind, oclient, oreq, oid, ogen, oocc, odue, ostamp, oepoch, ocron⟩ := o
  simp only [opV, opC] at *
  go_enter Tryz.func13, Tryz.ntmps13
  go_wp2_with fail
  go_ret
  exact ⟨rfl, (Below.refl _ _).alloc (Nat.le_refl _) _⟩
theorem apply_nil (o : OpN) (w : World) : Calls Tryz.prog 15 #[.pointer none, opV o] w fun e w' => e = .returned (rpV ⟨12, 0, 0⟩) ∧ Below w.heap.size w w' := by
  have B0 := Lib.hid (Bx.start w o)
  have cR := Lib.hid refusal_any
  obtain ⟨okind, oclient, oreq, oid, ogen, oocc, odue, ostamp, oepoch, ocron⟩ := o
  simp only [opV, opC, opO, rpO] at *
  go_enter Tryz.func15, Tryz.ntmps15
  go_wp2_with fail
  refine (cR.out 12 _).mono ?_
  rintro e w2 ⟨rfl, k2⟩
  have B2 := B0.out.below k2
  obtain ⟨q0, q1, q2, z0, z1, z2⟩ := rp_cells B2.rp
  replace B2 := Lib.hid B2
  clear B0 k2 cR
  go_wp2_with fail
  refine bodyPost_ret (v := rpV ⟨12, 0, 0⟩) ?_ rfl ?_
  · rw [results_cellA rfl]
    go_simp
  · exact ⟨rfl, ((B2.out.bel.setCell (Nat.le_succ _) _).setCell (Nat.le_succ _) _).setCell (Nat.le_succ _) _⟩
end Go.Proofs.YtiidhcpflplpiaaGreatDoor

/-
  Layer 8: two lists of clients beside each other (the document's Ints).
-/
set_option linter.unusedVariables false
namespace Go.Proofs.YtiidhcpflplpiaaGreatDoor
open Go.RowKit Ste
set_option maxRecDepth 100000

theorem below_dN {B : Nat} {w w' : World} (h : Below B w w') : ∀ n, Below B w (w'.drewN n)
  | 0 => h
  | n + 1 => (below_dN h n).drew
theorem nums_look {base : Nat} {w : World} {v : Value} {l : List Int} (h : Nums base w v l) : ∃ a cap, v = .slice a l.length cap ∧ l.length ≤ cap ∧ cap ≤ maxLen ∧ ∀ i (hi : i < l.length), ∃ g, a = some ⟨g, 0, none⟩ := by
  rcases h.2 with ⟨h1, h2⟩ | ⟨g, cap, cur, h1, h2, h3, h4, h5, _⟩
  · exact ⟨none, 0, by rw [h1, h2], by omega, by omega, fun i hi => by omega⟩
  · exact ⟨some ⟨g, 0, none⟩, cap, h1, h4, h5, fun i hi => ⟨g, rfl⟩⟩
theorem nums_cell {base : Nat} {w : World} {l : List Int} {g cap : Nat} (h : Nums base w (.slice (some ⟨g, 0, none⟩) l.length cap) l) (i : Nat) (hi : i < l.length) : w.cell? ⟨g, i, none⟩ = some (.int .i64 l[i]) := by
  rw [World.ownsRow.cellAt h i (by omega)]
  rw [List.getElem?_map, List.getElem?_eq_getElem hi]
  rfl
theorem nums_below {base : Nat} {w w' : World} {v : Value} {l : List Int} (h : Nums base w v l) (k : Below w.heap.size w w') : Nums base w' v l :=
  World.ownsRow.kept h (row := none) ⟨k.os, k.tape, k.output, k.size, fun i hi _ => k.block i hi⟩ (by cases v.ownBlock <;> simp)
theorem take_more {l m : List Int} {k : Nat} (h1 : k < l.length) (h2 : k < m.length) (h : l.take k = m.take k) (e : l[k] = m[k]) : l.take (k + 1) = m.take (k + 1) := by
  rw [← List.take_append_getElem h1, ← List.take_append_getElem h2, h, e]

set_option maxHeartbeats 2000000 in
theorem nums_same (w : World) (v1 v2 : Value) (l1 l2 : List Int) (b1 b2 : Nat) (h1 : Nums b1 w v1 l1) (h2 : Nums b2 w v2 l2) (hl1 : l1.length ≤ 1000) (hl2 : l2.length ≤ 1000) (r : Bool) (hr : decide (l1 = l2) = r) :
    Calls Tryz.prog 22 #[v1, v2] w fun e w' => e = .returned (.bool r) ∧ Below w.heap.size w w' := by
  obtain ⟨a1, cap1, rfl, _, _, ha1⟩ := nums_look h1
  obtain ⟨a2, cap2, rfl, _, _, ha2⟩ := nums_look h2
  have hn1 : (l1.length : Int) ≤ 1000000 := by omega
  have hn2 : (l2.length : Int) ≤ 1000000 := by omega
  by_cases hne : l1.length = l2.length
  · replace ha1 := Lib.hid ha1
    replace ha2 := Lib.hid ha2
    have hyes : Hid (l1 = l2 → r = true) := fun e => by rw [← hr, e]; simp
    have hno : Hid (l1 ≠ l2 → r = false) := fun e => by rw [← hr]; simp [e]
    have hb0 : Hid (Below w.heap.size w w) := Below.refl _ _
    replace h1 := Lib.hid h1
    replace h2 := Lib.hid h2
    clear hr
    have hq : ((l1.length : Int) != (l2.length : Int)) = false := by rw [hne]; simp
    replace hne := Lib.hid hne
    go_enter Tryz.func22, Tryz.ntmps22
    go_wp2_with fail
    go_loopw [5] (fun v wr => ∃ k : Nat, v = .int .i64 k ∧ (k : Int) ≤ l1.length ∧ Hid (l1.take k = l2.take k) ∧ Hid (Below w.heap.size w wr) ∧ Hid (Nums b1 wr (.slice a1 l1.length cap1) l1) ∧ Hid (Nums b2 wr (.slice a2 l2.length cap2) l2)) (fun v _ => ((l1.length : Int) - intOf v).toNat)
    case atStart => exact ⟨0, rfl, by omega, rfl, hb0, h1, h2⟩
    case round =>
      obtain ⟨k, rfl, hk, ht, hb, r1, r2⟩ := hrel
      clear h1 h2 hb0
      by_cases hlt : (k : Int) < l1.length
      · have hlt2 : (k : Int) < l2.length := by have := hne.out; omega
        have hk0 : (0 : Int) ≤ (k : Int) := by omega
        obtain ⟨g1, rfl⟩ := ha1.out k (by omega)
        obtain ⟨g2, rfl⟩ := ha2.out k (by omega)
        have c0 := nums_cell r1.out k (by omega)
        have d0 := nums_cell r2.out k (by omega)
        have hnx : Hid (l1[k] = l2[k] → l1.take (k + 1) = l2.take (k + 1)) := fun e => take_more (by omega) (by omega) ht.out e
        have hdf : Hid (l1[k] ≠ l2[k] → r = false) := fun e => hno.out (fun e2 => e (by simp only [e2]))
        generalize l1[k] = p at *
        generalize l2[k] = q at *
        by_cases hpq : p = q
        · have ht2 := Lib.hid (hnx.out hpq)
          have he : (p != q) = false := by simp [hpq]
          replace hpq := Lib.hid hpq
          clear hnx hdf
          go_wp2_with fail
          go_quiet (fail)
          go_wp2_with fail
          exact ⟨⟨k + 1, by go_num, by omega, ht2, below_dN hb.out nq, nums_below r1.out (below_dN (Below.refl _ _) nq), nums_below r2.out (below_dN (Below.refl _ _) nq)⟩, by simp [intOf]; omega⟩
        · have hrf := Lib.hid (hdf.out hpq)
          have he : (p != q) = true := by simp [hpq]
          replace hpq := Lib.hid hpq
          clear hnx hdf
          go_wp2_with fail
          go_quiet (fail)
          go_wp2_with fail
          go_ret
          exact ⟨by rw [hrf.out]; rfl, below_dN hb.out nq⟩
      · have hall : Hid (r = true) := hyes.out (by
          have h3 := ht.out
          rw [List.take_of_length_le (by omega), List.take_of_length_le (by have := hne.out; omega)] at h3
          exact h3)
        go_wp2_with fail
        go_ret
        exact ⟨by rw [hall.out]; rfl, hb.out⟩
  · have hrf : r = false := by rw [← hr]; simp; intro e; exact hne (by rw [e])
    have hq : ((l1.length : Int) != (l2.length : Int)) = true := by simp; omega
    clear h1 h2 hr ha1 ha2
    replace hne := Lib.hid hne
    go_enter Tryz.func22, Tryz.ntmps22
    go_wp2_with fail
    go_ret
    exact ⟨by rw [hrf]; rfl, Below.refl _ _⟩
end Go.Proofs.YtiidhcpflplpiaaGreatDoor

/-
  Layer 8: a service beside the caller's own variables.
-/
set_option linter.unusedVariables false
namespace Go.Proofs.YtiidhcpflplpiaaGreatDoor
open Go.RowKit Crn Nxt Ste
set_option maxRecDepth 100000

/-- A service in the state s at b; V: the caller's own blocks, as they stand; nothing of w0 has turned. -/
def Rn (w0 w : World) (b : Nat) (s : St) (c : Nat) (V : List (Nat × Obj)) : Prop :=
  ∃ x, SS w b s x c ∧ (∀ k, k ∈ own x b → w0.heap.size ≤ k) ∧ Below w0.heap.size w0 w ∧ ∀ p, p ∈ V → w.heap[p.1]? = some p.2 ∧ p.1 ∉ own x b
section
variable {w0 w w' : World} {b c : Nat} {s : St} {V : List (Nat × Obj)}
theorem Rn.bel (h : Rn w0 w b s c V) : Below w0.heap.size w0 w := by obtain ⟨x, _, _, h, _⟩ := h; exact h
theorem Rn.ok (h : Rn w0 w b s c V) : Ok s := by obtain ⟨x, h, _⟩ := h; exact h.sv.ok
theorem Rn.at (h : Rn w0 w b s c V) {k : Nat} {o : Obj} (hk : (k, o) ∈ V) : w.heap[k]? = some o := by obtain ⟨x, _, _, _, h⟩ := h; exact (h _ hk).1
theorem Rn.below (h : Rn w0 w b s c V) (k : Below w.heap.size w w') : Rn w0 w' b s c V := by
  obtain ⟨x, h1, h2, h3, h4⟩ := h
  refine ⟨x, h1.below k, h2, h3.trans (k.mono h3.size), fun p hp => ⟨?_, (h4 p hp).2⟩⟩
  have h5 := (h4 p hp).1
  exact (k.block _ (Array.getElem?_eq_some_iff.1 h5).1).trans h5
theorem Rn.alloc (h : Rn w0 w b s c V) (o : Obj) : Rn w0 (w.alloc o) b s c ((w.heap.size, o) :: V) := by
  have k : Below w.heap.size w (w.alloc o) := (Below.refl _ _).alloc (Nat.le_refl _) _
  obtain ⟨x, h1, h2, h3, h4⟩ := h.below k
  obtain ⟨x', g1, g2, g3, g4⟩ := h
  refine ⟨x', g1.below k, g2, h3, fun p hp => ?_⟩
  rcases List.mem_cons.1 hp with rfl | hp
  · exact ⟨Go.heap_alloc_new w o, fun e => by have := (g1.sv.lt _ e).1; simp only at this; omega⟩
  · have h5 := (g4 p hp).1
    exact ⟨(k.block _ (Array.getElem?_eq_some_iff.1 h5).1).trans h5, (g4 p hp).2⟩
theorem Rn.alloc' (h : Rn w0 w b s c V) (o : Obj) {k : Nat} (hk : w.heap.size = k) : Rn w0 (w.alloc o) b s c ((k, o) :: V) := by
  subst hk
  exact h.alloc o
theorem Rn.less (h : Rn w0 w b s c V) {U : List (Nat × Obj)} (hU : ∀ p, p ∈ U → p ∈ V) : Rn w0 w b s c U := by
  obtain ⟨x, h1, h2, h3, h4⟩ := h
  exact ⟨x, h1, h2, h3, fun p hp => h4 p (hU p hp)⟩
theorem Rn.after {x : Px} {s' : St} {x' : Px} {c' : Nat} (h1 : SS w b s x c) (h2 : ∀ k, k ∈ own x b → w0.heap.size ≤ k) (h3 : Below w0.heap.size w0 w) (h4 : ∀ p, p ∈ V → w.heap[p.1]? = some p.2 ∧ p.1 ∉ own x b) (A : AftS w b x w' s' x' c') : Rn w0 w' b s' c' V := by
  refine ⟨x', A.ss, fun k hk => ?_, ⟨A.kept.os.trans h3.os, A.kept.tape.trans h3.tape, A.kept.output.trans h3.output, Nat.le_trans h3.size A.kept.size, fun i hi => ?_⟩, fun p hp => ?_⟩
  · rcases A.own k hk with g | g
    · exact h2 k g
    · exact Nat.le_trans h3.size g
  · exact (A.kept.block i (Nat.lt_of_lt_of_le hi h3.size) (fun g => by have := h2 _ g; omega)).trans (h3.block i hi)
  · obtain ⟨g1, g2⟩ := h4 p hp
    have hlt := (Array.getElem?_eq_some_iff.1 g1).1
    refine ⟨(A.kept.block _ hlt g2).trans g1, fun e => ?_⟩
    rcases A.own _ e with g | g
    · exact g2 g
    · omega
theorem Rn.set (h : Rn w0 w b s c V) {k : Nat} {C : Array Value} {t : TypeId} (hk : (k, Obj.cells C t) ∈ V) (hb : w0.heap.size ≤ k) (i : Nat) (v : Value) {U : List (Nat × Obj)} (hU : ∀ p, p ∈ U → p ∈ V ∧ p.1 ≠ k) :
    Rn w0 (w.setCell ⟨k, i, none⟩ v) b s c ((k, Obj.cells (C.setIfInBounds i v) t) :: U) := by
  obtain ⟨x, h1, h2, h3, h4⟩ := h
  obtain ⟨g1, g2⟩ := h4 _ hk
  have kr : Kl [k] w (w.setCell ⟨k, i, none⟩ v) := (Kl.refl _ _).setCell (by simp) i v
  refine ⟨x, h1.kept kr (fun j hj => by simp only [List.mem_singleton] at hj; subst hj; exact g2), h2, h3.setCell hb v, fun p hp => ?_⟩
  rcases List.mem_cons.1 hp with rfl | hp
  · exact ⟨heap_setCell_same w k i C t v g1, g2⟩
  · obtain ⟨g3, g4⟩ := hU p hp
    exact ⟨(Below.heap_setCell w ⟨k, i, none⟩ v p.1 g4).trans (h4 p g3).1, (h4 p g3).2⟩
theorem Rn.store3 (h : Rn w0 w b s c V) {k : Nat} {a0 a1 a2 : Value} {t : TypeId} (hk : (k, Obj.cells #[a0, a1, a2] t) ∈ V) (hb : w0.heap.size ≤ k) (x y z : Value) {U : List (Nat × Obj)} (hU : ∀ p, p ∈ U → p ∈ V ∧ p.1 ≠ k) :
    Rn w0 (((w.setCell ⟨k, 0, none⟩ x).setCell ⟨k, 1, none⟩ y).setCell ⟨k, 2, none⟩ z) b s c ((k, Obj.cells #[x, y, z] t) :: U) :=
  ((h.set hk hb 0 x hU).set (U := U) (.head _) hb 1 y (fun p hp => ⟨.tail _ hp, (hU p hp).2⟩)).set (U := U) (.head _) hb 2 z (fun p hp => ⟨.tail _ hp, (hU p hp).2⟩)
theorem Rn.lt (h : Rn w0 w b s c V) {k : Nat} {o : Obj} (hk : (k, o) ∈ V) : k < w.heap.size := (Array.getElem?_eq_some_iff.1 (h.at hk)).1
theorem Rn.cells3 (h : Rn w0 w b s c V) {k : Nat} {a0 a1 a2 : Value} {t : TypeId} (hk : (k, Obj.cells #[a0, a1, a2] t) ∈ V) : w.cell? ⟨k, 0, none⟩ = some a0 ∧ w.cell? ⟨k, 1, none⟩ = some a1 ∧ w.cell? ⟨k, 2, none⟩ = some a2 ∧ w.frozen? ⟨k, 0, none⟩ = false ∧ w.frozen? ⟨k, 1, none⟩ = false ∧ w.frozen? ⟨k, 2, none⟩ = false :=
  have g := h.at hk
  ⟨cell_in g 0, cell_in g 1, cell_in g 2, free_in g 0, free_in g 1, free_in g 2⟩
theorem Rn.drewN (h : Rn w0 w b s c V) (n : Nat) : Rn w0 (w.drewN n) b s c V := h.below (below_dN (Below.refl _ _) n)
theorem Rn.apply (h : Rn w0 w b s c V) (tb : Tab w0) (nt : NTab w0) (hc : c ≤ 900000) (o : OpN) (ho : OpOk o) :
    Calls Tryz.prog 15 #[.pointer (some ⟨b, 0, none⟩), opV o] w fun e w' => e = .returned (rpV (applyN s o).2) ∧ Rn w0 w' b (applyN s o).1 (c + 1) V := by
  obtain ⟨x, h1, h2, h3, h4⟩ := h
  exact (apply_any h1 (tb.below h3) (nt.below h3) hc o ho).mono fun e w' ⟨he, x', A⟩ => ⟨he, Rn.after h1 h2 h3 h4 A⟩
theorem Rn.list (h : Rn w0 w b s c V) : Calls Tryz.prog 20 #[.pointer (some ⟨b, 0, none⟩)] w fun e w' => ∃ v : Value, e = .returned v ∧ Tms w.heap.size w' v s.T ∧ Below w.heap.size w w' := by
  obtain ⟨x, h1, h2, h3, h4⟩ := h
  have := h1.sv.ok.full
  have := h1.sv.ok.room1
  exact list_any h1.sv (by rw [h1.sv.tp.length_eq]; omega)
theorem Rn.clients (h : Rn w0 w b s c V) : Calls Tryz.prog 23 #[.pointer (some ⟨b, 0, none⟩)] w fun e w' => ∃ v', e = .returned v' ∧ Nums w.heap.size w' v' (clOf s) ∧ Below w.heap.size w w' := by
  obtain ⟨x, h1, h2, h3, h4⟩ := h
  have := h1.sv.ok.few
  exact clients_any h1.sv (by unfold clOf; simpa using this)
theorem Rn.get (h : Rn w0 w b s c V) (id : Int) (hid : i64 id) : Calls Tryz.prog 17 #[.pointer (some ⟨b, 0, none⟩), .int .i64 id] w fun e w' => e = .returned (.tuple #[tmV (valT s.T id), .int .i64 (getE s.T id)]) ∧ Below w.heap.size w w' := by
  obtain ⟨x, h1, h2, h3, h4⟩ := h
  exact get_any h1.sv id hid
end
theorem new_run {w0 w : World} (k : Below w0.heap.size w0 w) (nt : topTab < w0.heap.size) (timers : Int) (ht : i64 timers) :
    Calls Tryz.prog 11 #[.int .i64 timers] w fun e w' => e = .returned (.pointer (some ⟨w.heap.size + 3, 0, none⟩)) ∧ Rn w0 w' (w.heap.size + 3) (newN timers) 0 [] ∧ Below w.heap.size w w' := by
  refine (st_new timers ht w (Nat.lt_of_lt_of_le nt k.size)).mono ?_
  rintro e w' ⟨he, hb, x, hs, hk, hown⟩
  exact ⟨he, ⟨x, ⟨hs, by rw [hk]; exact List.Perm.refl _⟩, fun i hi => Nat.le_trans k.size (hown i hi), k.trans (hb.mono k.size), fun p hp => by simp at hp⟩, hb⟩
end Go.Proofs.YtiidhcpflplpiaaGreatDoor

/-
  Layer 8: the fixed answers.
-/
set_option linter.unusedVariables false
namespace Go.Proofs.YtiidhcpflplpiaaGreatDoor
open Go.RowKit Crn Nxt Ste
set_option maxRecDepth 100000
theorem aw_1 : applyN (newN 2) ⟨1,1,1,7,0,0,100,0,0,⟨#[]⟩⟩ = (⟨2, 1, [⟨7,1,1,100,⟨#[]⟩⟩], [⟨1,1,⟨0,1,100⟩⟩]⟩, ⟨0,1,100⟩) := by rfl
theorem aw_2 : applyN ⟨2, 1, [⟨7,1,1,100,⟨#[]⟩⟩], [⟨1,1,⟨0,1,100⟩⟩]⟩ ⟨3,0,0,7,1,100,0,99,0,⟨#[]⟩⟩ = (⟨2, 1, [⟨7,1,1,100,⟨#[]⟩⟩], [⟨1,1,⟨0,1,100⟩⟩]⟩, ⟨6,0,0⟩) := by rfl
theorem aw_3 : applyN ⟨2, 1, [⟨7,1,1,100,⟨#[]⟩⟩], [⟨1,1,⟨0,1,100⟩⟩]⟩ ⟨3,0,0,7,1,100,0,100,0,⟨#[]⟩⟩ = (⟨2, 1, [], [⟨1,1,⟨0,1,100⟩⟩]⟩, ⟨0,1,100⟩) := by rfl
theorem aw_4 : applyN ⟨2, 1, [], [⟨1,1,⟨0,1,100⟩⟩]⟩ ⟨3,0,0,7,1,100,0,100,0,⟨#[]⟩⟩ = (⟨2, 1, [], [⟨1,1,⟨0,1,100⟩⟩]⟩, ⟨6,0,0⟩) := by rfl
theorem aw_5 : applyN ⟨2, 1, [], [⟨1,1,⟨0,1,100⟩⟩]⟩ ⟨1,1,1,8,0,0,0,0,0,⟨#[]⟩⟩ = (⟨2, 1, [], [⟨1,1,⟨0,1,100⟩⟩]⟩, ⟨0,1,100⟩) := by rfl
theorem ok_aw (k c r i g o d s e : Int) (h : ∀ x ∈ [k, c, r, i, g, o, d, s, e], 0 ≤ x ∧ x ≤ 1000) : OpOk ⟨k, c, r, i, g, o, d, s, e, ⟨#[]⟩⟩ := by
  have q : ∀ x ∈ [k, c, r, i, g, o, d, s, e], i64 x := fun x hx => by have := h x hx; unfold i64; omega
  exact ⟨q k (by simp), q c (by simp), q r (by simp), q i (by simp), q g (by simp), q o (by simp), q d (by simp), q s (by simp), q e (by simp), by simp [ByteArray.size]⟩

structure FC (W : World) (k : Nat) (o : OpN) : Prop where
  h : W.heap[k]? = some (opO o)
theorem fc_alloc {W : World} {k : Nat} {o : OpN} (h : FC W k o) (z : Obj) : FC (W.alloc z) k o :=
  ⟨(((Below.refl W.heap.size W).alloc (Nat.le_refl _) z).block k (Array.getElem?_eq_some_iff.1 h.h).1).trans h.h⟩
theorem fc_drew {W : World} {k : Nat} {o : OpN} (h : FC W k o) : FC W.drew k o := ⟨h.h⟩
theorem Rn.drew1 {w0 w : World} {b c : Nat} {s : St} {V : List (Nat × Obj)} (h : Rn w0 w b s c V) : Rn w0 w.drew b s c V := h.drewN 1
theorem fc_set {W : World} {k : Nat} {o : OpN} (h : FC W k o) (g j : Nat) (v : Value) (hn : k ≠ g) : FC (W.setCell ⟨g, j, none⟩ v) k o :=
  ⟨(Below.heap_setCell W ⟨g, j, none⟩ v k hn).trans h.h⟩
theorem fcS {W : World} {k : Nat} {o : OpN} (h : FC W k o) : FC W k o ∧ W.cell? ⟨k, 0, none⟩ = some (.int .i64 o.kind) ∧ W.cell? ⟨k, 1, none⟩ = some (.int .i64 o.client) ∧ W.cell? ⟨k, 2, none⟩ = some (.int .i64 o.req) ∧ W.cell? ⟨k, 3, none⟩ = some (.int .i64 o.id) ∧ W.cell? ⟨k, 4, none⟩ = some (.int .i64 o.gen) ∧
    W.cell? ⟨k, 5, none⟩ = some (.int .i64 o.occ) ∧ W.cell? ⟨k, 6, none⟩ = some (.int .i64 o.due) ∧ W.cell? ⟨k, 7, none⟩ = some (.int .i64 o.stamp) ∧ W.cell? ⟨k, 8, none⟩ = some (.int .i64 o.epoch) ∧ W.cell? ⟨k, 9, none⟩ = some (.string o.cron) := ⟨h, op_cells h.h⟩
theorem size_alloc (W : World) (z : Obj) : (W.alloc z).heap.size = W.heap.size + 1 := by simp
section
variable {w0 w : World} {b c : Nat} {s : St} {V : List (Nat × Obj)}
theorem end_aa (h : Rn w0 w b s c V) (X Y : Obj) : Rn w0 ((w.alloc X).alloc Y) b s c ((w.heap.size + 1, Y) :: (w.heap.size, X) :: V) := (h.alloc X).alloc' Y (size_alloc w X)
theorem end_sa {k : Nat} {a0 a1 a2 : Value} {t : TypeId} (h : Rn w0 w b s c ((k, .cells #[a0, a1, a2] t) :: V)) (hb : w0.heap.size ≤ k) (hV : ∀ p, p ∈ V → p.1 ≠ k) (x y z : Value) (Y : Obj) :
    Rn w0 ((((w.setCell ⟨k, 0, none⟩ x).setCell ⟨k, 1, none⟩ y).setCell ⟨k, 2, none⟩ z).alloc Y) b s c ((w.heap.size, Y) :: (k, .cells #[x, y, z] t) :: V) :=
  (h.store3 (.head _) hb x y z (U := V) (fun p hp => ⟨.tail _ hp, hV p hp⟩)).alloc' Y (by simp)
theorem end_ss12 {k1 k2 : Nat} {a0 a1 a2 b0 b1 b2 : Value} {t : TypeId} (h : Rn w0 w b s c ((k2, .cells #[b0, b1, b2] t) :: (k1, .cells #[a0, a1, a2] t) :: V)) (hb1 : w0.heap.size ≤ k1) (hb2 : w0.heap.size ≤ k2) (hne : k2 ≠ k1) (hV1 : ∀ p, p ∈ V → p.1 ≠ k1) (hV2 : ∀ p, p ∈ V → p.1 ≠ k2) (x y z u v r : Value) :
    Rn w0 ((((((w.setCell ⟨k1, 0, none⟩ x).setCell ⟨k1, 1, none⟩ y).setCell ⟨k1, 2, none⟩ z).setCell ⟨k2, 0, none⟩ u).setCell ⟨k2, 1, none⟩ v).setCell ⟨k2, 2, none⟩ r) b s c ((k2, .cells #[u, v, r] t) :: (k1, .cells #[x, y, z] t) :: V) :=
  (h.store3 (.tail _ (.head _)) hb1 x y z (U := (k2, .cells #[b0, b1, b2] t) :: V) (fun p hp => by
    rcases List.mem_cons.1 hp with rfl | hp
    · exact ⟨.head _, hne⟩
    · exact ⟨.tail _ (.tail _ hp), hV1 p hp⟩)).store3 (.tail _ (.head _)) hb2 u v r (U := (k1, .cells #[x, y, z] t) :: V) (fun p hp => by
    rcases List.mem_cons.1 hp with rfl | hp
    · exact ⟨.head _, fun e => hne e.symm⟩
    · exact ⟨.tail _ (.tail _ hp), hV2 p hp⟩)
theorem end_ss21 {k1 k2 : Nat} {a0 a1 a2 b0 b1 b2 : Value} {t : TypeId} (h : Rn w0 w b s c ((k2, .cells #[b0, b1, b2] t) :: (k1, .cells #[a0, a1, a2] t) :: V)) (hb1 : w0.heap.size ≤ k1) (hb2 : w0.heap.size ≤ k2) (hne : k2 ≠ k1) (hV1 : ∀ p, p ∈ V → p.1 ≠ k1) (hV2 : ∀ p, p ∈ V → p.1 ≠ k2) (x y z u v r : Value) :
    Rn w0 ((((((w.setCell ⟨k2, 0, none⟩ x).setCell ⟨k2, 1, none⟩ y).setCell ⟨k2, 2, none⟩ z).setCell ⟨k1, 0, none⟩ u).setCell ⟨k1, 1, none⟩ v).setCell ⟨k1, 2, none⟩ r) b s c ((k1, .cells #[u, v, r] t) :: (k2, .cells #[x, y, z] t) :: V) :=
  (h.store3 (.head _) hb2 x y z (U := (k1, .cells #[a0, a1, a2] t) :: V) (fun p hp => by
    rcases List.mem_cons.1 hp with rfl | hp
    · exact ⟨.tail _ (.head _), fun e => hne e.symm⟩
    · exact ⟨.tail _ (.tail _ hp), hV2 p hp⟩)).store3 (.tail _ (.head _)) hb1 u v r (U := (k2, .cells #[x, y, z] t) :: V) (fun p hp => by
    rcases List.mem_cons.1 hp with rfl | hp
    · exact ⟨.head _, hne⟩
    · exact ⟨.tail _ (.tail _ hp), hV1 p hp⟩)
end

set_option maxHeartbeats 4000000 in
theorem awake_any (w : World) (tb : Tab w) (nt : NTab w) : Calls Tryz.prog 9 #[] w fun e w' => e = .returned (.bool true) ∧ Below w.heap.size w w' := by
  have hpos : topTab < w.heap.size := by
    have h1 := tb.size
    have h2 := nt.size
    unfold topTab
    omega
  have cN := Lib.hid (new_run (Below.refl w.heap.size w) hpos 2 (by unfold i64; omega))
  have cA := Lib.hid (fun W b s c V (h : Rn w W b s c V) (hc : c ≤ 900000) o (ho : OpOk o) => h.apply tb nt hc o ho)
  have o1 := Lib.hid (ok_aw 1 1 1 7 0 0 100 0 0 (by decide))
  have o2 := Lib.hid (ok_aw 3 0 0 7 1 100 0 99 0 (by decide))
  have o3 := Lib.hid (ok_aw 3 0 0 7 1 100 0 100 0 (by decide))
  have o4 := Lib.hid (ok_aw 1 1 1 8 0 0 0 0 0 (by decide))
  clear tb nt
  go_enter Tryz.func9, Tryz.ntmps9
  go_wp2_with fail
  refine cN.out.mono ?_
  rintro e w1 ⟨rfl, R1, b1⟩
  replace R1 := Lib.hid R1
  clear cN
  generalize w.heap.size + 3 = b at *
  go_wp2_with fail
  refine (cA.out _ _ _ _ _ R1.out (by omega) _ o1.out).mono ?_
  rintro e w2 ⟨rfl, R2⟩
  rw [aw_1] at *
  simp only [] at R2
  have R3 := Lib.hid ((R2.alloc (.cells #[.int .i64 0, .int .i64 1, .int .i64 100] 34)).alloc' (k := w2.heap.size + 1) (.cells #[.int .i64 3, .int .i64 0, .int .i64 0, .int .i64 7, .int .i64 1, .int .i64 100, .int .i64 0, .int .i64 99, .int .i64 0, .string ⟨#[]⟩] 30) (by simp))
  have hs2 := R2.bel.size
  clear R1 b1 R2
  go_wp2_with fail
  refine (cA.out _ _ _ _ _ R3.out (by omega) _ o2.out).mono ?_
  rintro e w3 ⟨rfl, R4⟩
  rw [aw_2] at *
  simp only [] at R4
  generalize hka : w2.heap.size = ka at *
  have R5 := R4.alloc (.cells #[.int .i64 6, .int .i64 0, .int .i64 0] 34)
  have g5 := R5.at (.tail _ (.head _))
  have f7 := free_in g5 7
  have pz := cell_in g5 7
  have hka1 : w.heap.size ≤ ka + 1 := by omega
  have hk3 : ka + 1 < w3.heap.size := (Array.getElem?_eq_some_iff.1 (R4.at (.head _))).1
  replace R5 := Lib.hid R5
  have R4' := Lib.hid R4
  clear R3 R4 g5
  have R6 := Lib.hid ((R4'.out.set (.head _) hka1 7 (.int .i64 100) (U := [(ka, .cells #[.int .i64 0, .int .i64 1, .int .i64 100] 34)]) (fun p hp => by
    simp only [List.mem_cons, List.not_mem_nil, or_false] at hp
    rcases hp with rfl
    exact ⟨.tail _ (.head _), by simp only; omega⟩)).alloc' (k := w3.heap.size) (.cells #[.int .i64 6, .int .i64 0, .int .i64 0] 34) (by simp))
  clear R5 R4'
  go_upto_region 8 with fail
  have hkb0 : w.heap.size ≤ w3.heap.size := by omega
  generalize (w3.setCell ⟨ka + 1, 7, none⟩ (.int .i64 100)).alloc (.cells #[.int .i64 6, .int .i64 0, .int .i64 0] 34) = w4 at *
  generalize w3.heap.size = kb at *
  have R7 := Lib.hid (R6.out.drewN 1)
  change Hid (Rn w w4.drew b _ _ _) at R7
  obtain ⟨p0, p1, p2, p3, p4, p5, p6, p7, p8, p9⟩ := op_cells (o := ⟨3,0,0,7,1,100,0,100,0,⟨#[]⟩⟩) (R7.out.at (.tail _ (.head _)))
  simp only [] at p0 p1 p2 p3 p4 p5 p6 p7 p8 p9
  have c3 : Hid (∀ W V, Rn w W b ⟨2, 1, [⟨7,1,1,100,⟨#[]⟩⟩], [⟨1,1,⟨0,1,100⟩⟩]⟩ 2 V → Calls Tryz.prog 15 #[.pointer (some ⟨b, 0, none⟩), opV ⟨3,0,0,7,1,100,0,100,0,⟨#[]⟩⟩] W fun e w' => e = .returned (rpV ⟨0, 1, 100⟩) ∧ Rn w w' b ⟨2, 1, [], [⟨1,1,⟨0,1,100⟩⟩]⟩ 3 V) := fun W V h => by
    have := cA.out W b _ _ V h (by omega) _ o3.out
    rw [aw_3] at this
    exact this
  have c4 : Hid (∀ W V, Rn w W b ⟨2, 1, [], [⟨1,1,⟨0,1,100⟩⟩]⟩ 3 V → Calls Tryz.prog 15 #[.pointer (some ⟨b, 0, none⟩), opV ⟨3,0,0,7,1,100,0,100,0,⟨#[]⟩⟩] W fun e w' => e = .returned (rpV ⟨6, 0, 0⟩) ∧ Rn w w' b ⟨2, 1, [], [⟨1,1,⟨0,1,100⟩⟩]⟩ 4 V) := fun W V h => by
    have := cA.out W b _ _ V h (by omega) _ o3.out
    rw [aw_4] at this
    exact this
  have g4 : FC w4 (ka + 1) ⟨3,0,0,7,1,100,0,100,0,⟨#[]⟩⟩ := ⟨R6.out.at (k := ka + 1) (o := opO ⟨3,0,0,7,1,100,0,100,0,⟨#[]⟩⟩) (by simp)⟩
  have hz4 := size_alloc w4
  have m7 : kb < w4.heap.size := R6.out.lt (.head _)
  have m4 : ka + 1 < w4.heap.size := R6.out.lt (k := ka + 1) (o := opO ⟨3,0,0,7,1,100,0,100,0,⟨#[]⟩⟩) (by simp)
  have c5 : Hid (∀ W V, Rn w W b ⟨2, 1, [], [⟨1,1,⟨0,1,100⟩⟩]⟩ 4 V → Calls Tryz.prog 15 #[.pointer (some ⟨b, 0, none⟩), opV ⟨1,1,1,8,0,0,0,0,0,⟨#[]⟩⟩] W fun e w' => e = .returned (rpV ⟨0, 1, 100⟩) ∧ Rn w w' b ⟨2, 1, [], [⟨1,1,⟨0,1,100⟩⟩]⟩ 5 V) := fun W V h => by
    have := cA.out W b _ _ V h (by omega) _ o4.out
    rw [aw_5] at this
    exact this
  clear f7 pz hka cA o1 o2 o3 o4 hpos
  go_cut [5, 6] (fun v5 v6 wx => ∃ kc kd : Nat, v5 = .pointer (some ⟨kc, 0, none⟩) ∧ v6 = .pointer (some ⟨kd, 0, none⟩) ∧ Hid (Rn w wx b ⟨2, 1, [], [⟨1,1,⟨0,1,100⟩⟩]⟩ 4 [(kd, .cells #[.int .i64 6, .int .i64 0, .int .i64 0] 34), (kc, .cells #[.int .i64 0, .int .i64 1, .int .i64 100] 34), (kb, .cells #[.int .i64 6, .int .i64 0, .int .i64 0] 34), (ka, .cells #[.int .i64 0, .int .i64 1, .int .i64 100] 34)]))
  case first =>
    go_region_held3 (fun w' => FC w' (ka + 1) ⟨3,0,0,7,1,100,0,100,0,⟨#[]⟩⟩ ∧ w'.cell? ⟨ka + 1, 0, none⟩ = some (.int .i64 3) ∧ w'.cell? ⟨ka + 1, 1, none⟩ = some (.int .i64 0) ∧ w'.cell? ⟨ka + 1, 2, none⟩ = some (.int .i64 0) ∧ w'.cell? ⟨ka + 1, 3, none⟩ = some (.int .i64 7) ∧ w'.cell? ⟨ka + 1, 4, none⟩ = some (.int .i64 1) ∧ w'.cell? ⟨ka + 1, 5, none⟩ = some (.int .i64 100) ∧ w'.cell? ⟨ka + 1, 6, none⟩ = some (.int .i64 0) ∧ w'.cell? ⟨ka + 1, 7, none⟩ = some (.int .i64 100) ∧ w'.cell? ⟨ka + 1, 8, none⟩ = some (.int .i64 0) ∧ w'.cell? ⟨ka + 1, 9, none⟩ = some (.string ⟨#[]⟩))
      ((refine fcS ?_; repeat (with_reducible first | exact g6 | exact g5 | exact g4 | refine fc_alloc ?_ _ | refine fc_drew ?_ | refine fc_set ?_ _ _ _ (by first | assumption | omega))))
      (first
        | (go_at_call 15; refine (c3.out _ _ (by with_reducible first | exact R7.out | exact (R6.out.alloc _).drew1 | exact ((R6.out.alloc _).alloc' _ (hz4 _)).drew1)).mono ?_; rintro e w5 ⟨rfl, R8⟩; have g5 : FC w5 (ka + 1) ⟨3,0,0,7,1,100,0,100,0,⟨#[]⟩⟩ := ⟨R8.at (k := ka + 1) (o := opO ⟨3,0,0,7,1,100,0,100,0,⟨#[]⟩⟩) (by simp)⟩; have m5 := R8.lt (k := ka + 1) (o := opO ⟨3,0,0,7,1,100,0,100,0,⟨#[]⟩⟩) (by simp); have hz5 := size_alloc w5; have l10 := R8.lt (k := kb) (o := .cells #[.int .i64 6, .int .i64 0, .int .i64 0] 34) (by simp); have l8 := R8.lt (.head _); have l9 := R8.lt (.tail _ (.head _)); have n8 := Nat.ne_of_lt l8; have n9 := Nat.ne_of_gt l8; have n10 := Nat.ne_of_lt l9; have n11 := Nat.ne_of_gt l9; replace R8 := Lib.hid R8)
        | (go_at_call 15; refine (c4.out _ _ (by with_reducible first | exact R8.out | exact R8.out.alloc _ | exact (R8.out.alloc _).alloc' _ (hz5 _))).mono ?_; rintro e w6 ⟨rfl, R9⟩; have g6 : FC w6 (ka + 1) ⟨3,0,0,7,1,100,0,100,0,⟨#[]⟩⟩ := ⟨R9.at (k := ka + 1) (o := opO ⟨3,0,0,7,1,100,0,100,0,⟨#[]⟩⟩) (by simp)⟩; have m6 := R9.lt (k := ka + 1) (o := opO ⟨3,0,0,7,1,100,0,100,0,⟨#[]⟩⟩) (by simp); have hz6 := size_alloc w6; have l11 := R9.lt (k := kb) (o := .cells #[.int .i64 6, .int .i64 0, .int .i64 0] 34) (by simp); have l1 := R9.lt (.head _); have l2 := R9.lt (.tail _ (.head _)); have n1 := Nat.ne_of_lt l1; have n2 := Nat.ne_of_lt l2; have n3 := Nat.ne_of_gt l1; have n4 := Nat.ne_of_gt l2; (try obtain ⟨x0, x1, x2, x3, x4, x5⟩ := R9.cells3 (.head _)); (try obtain ⟨y0, y1, y2, y3, y4, y5⟩ := R9.cells3 (.tail _ (.head _))); replace R9 := Lib.hid R9))
    all_goals go_wp2_with fail
    all_goals go_meet
    all_goals refine ⟨_, _, rfl, rfl, ?_⟩
    all_goals first
      | with_reducible refine Lib.hid (Rn.less (end_aa R9.out _ _) ?_)
      | with_reducible refine Lib.hid (Rn.less (end_sa R9.out ?_ ?_ _ _ _ _) ?_)
      | with_reducible refine Lib.hid (Rn.less (end_ss12 R9.out ?_ ?_ ?_ ?_ ?_ _ _ _ _ _ _) ?_)
      | with_reducible refine Lib.hid (Rn.less (end_ss21 R9.out ?_ ?_ ?_ ?_ ?_ _ _ _ _ _ _) ?_)
    all_goals first
      | omega
      | (intro p hp
         simp only [List.mem_cons, List.not_mem_nil, or_false] at hp
         rcases hp with rfl | rfl | rfl <;> simp only <;> omega)
      | (intro p hp
         simp only [List.mem_cons, List.not_mem_nil, or_false] at hp
         rcases hp with rfl | rfl | rfl | rfl <;> simp)
  case rest =>
    obtain ⟨kc, kd, rfl, rfl, R10⟩ := hcut
    clear R6 c3 c4 p0 p1 p2 p3 p4 p5 p6 p7 p8 p9 g4 m4 R7
    go_wp2_with fail
    refine (c5.out _ _ R10.out).mono ?_
    rintro e w7 ⟨rfl, R11⟩
    have R12 := Lib.hid (R11.alloc' (k := w7.heap.size) (.cells #[.int .i64 0, .int .i64 1, .int .i64 100] 34) rfl)
    obtain ⟨a0, a1, a2, _, _, _⟩ := R12.out.cells3 (.tail _ (.tail _ (.tail _ (.tail _ (.head _)))))
    obtain ⟨b0, b1, b2, _, _, _⟩ := R12.out.cells3 (.tail _ (.tail _ (.tail _ (.head _))))
    obtain ⟨d0, d1, d2, _, _, _⟩ := R12.out.cells3 (.tail _ (.head _))
    obtain ⟨e0, e1, e2, _, _, _⟩ := R12.out.cells3 (.tail _ (.tail _ (.head _)))
    obtain ⟨f0, f1, f2, _, _, _⟩ := R12.out.cells3 (.head _)
    have cL := Lib.hid R12.out.list
    clear R10 R11 c5
    unfold rpV at *
    go_wp2_with fail
    refine cL.out.mono ?_
    rintro e w8 ⟨v8, rfl, T8, k8⟩
    obtain ⟨pa, pc, rfl⟩ : ∃ pa pc, v8 = .slice pa 0 pc := by
      rcases T8.2 with ⟨rfl, _⟩ | ⟨g, cap, cur, rfl, _⟩
      · exact ⟨_, _, rfl⟩
      · exact ⟨_, _, rfl⟩
    have R13 := Lib.hid (R12.out.below k8)
    have cC := Lib.hid R13.out.clients
    clear R12 cL a0 a1 a2 b0 b1 b2 d0 d1 d2 e0 e1 e2 f0 f1 f2 T8 k8
    go_wp2_with fail
    refine cC.out.mono ?_
    rintro e w9 ⟨v9, rfl, N9, k9⟩
    have R14 := Lib.hid (R13.out.below k9)
    replace N9 := Lib.hid N9
    clear R13 cC k9
    go_wp2_with fail
    have k10 : Below w9.heap.size w9 (w9.alloc (.cells #[.int .i64 1] 3)) := (Below.refl _ _).alloc (Nat.le_refl _) _
    have N1 : Nums w9.heap.size (w9.alloc (.cells #[.int .i64 1] 3)) (.slice (some ⟨w9.heap.size, 0, none⟩) 1 1) [1] :=
      ⟨rfl, .inr ⟨w9.heap.size, 1, #[.int .i64 1], rfl, Nat.le_refl _, Go.heap_alloc_new w9 _, Nat.le_refl _, by decide, rfl, rfl⟩⟩
    have R15 := Lib.hid (R14.out.below k10)
    refine (nums_same _ v9 _ [1] [1] _ _ (nums_below N9.out k10) N1 (by simp) (by simp) true (by simp)).mono ?_
    rintro e w10 ⟨rfl, k11⟩
    have R16 := Lib.hid (R15.out.below k11)
    clear R14 R15 N9 N1 k10 k11
    go_wp2_with fail
    go_ret
    exact ⟨rfl, R16.out.bel⟩
end Go.Proofs.YtiidhcpflplpiaaGreatDoor

/-
  Layer 8: Copy: a second service in the same state, with blocks of its own.
-/
set_option linter.unusedVariables false
namespace Go.Proofs.YtiidhcpflplpiaaGreatDoor
open Go.RowKit Crn Nxt Ste
set_option maxRecDepth 100000
set_option maxHeartbeats 2000000 in
theorem clone_tm (w : World) (mb : Nat) (tl : List (Int × Value)) (h : VMap w mb tl) : Calls Tryz.prog 43 #[.map (some mb)] w fun e w' => e = .returned (.map (some w.heap.size)) ∧ VMap w' w.heap.size tl ∧ Below w.heap.size w w' := by
  obtain ⟨es, clock, hb, hst, he⟩ := h
  have hq := fun w => run_eql_map_nil_sl (P := Tryz.prog) w 71 3 37 (some mb) Tryz.underlying71
  go_enter Tryz.func43, Tryz.ntmps43
  go_wp2
  rw [run_callFunc_extern Tryz.func62 (by kernel_rfl) (by kernel_rfl) (by kernel_rfl) (e := Extern.MapsClone.clone) (by kernel_rfl), run_maps_clone_sl w 71 hb]
  simp only [Result.andThen]
  rw [Oper.upon_value]
  go_wp2
  rw [run_typeAssert_map_sl _ 71 20 _ _ _ Tryz.underlying71]
  simp only [Result.andThen]
  rw [Oper.upon_value]
  go_wp2
  go_ret
  exact ⟨rfl, ⟨es, clock, (MapKept.heap_alloc w _).1, hst, he⟩, (Below.refl _ _).alloc (Nat.le_refl _) _⟩
set_option maxHeartbeats 2000000 in
theorem clone_km (w : World) (mb : Nat) (tl : List (Int × Value)) (h : VMap w mb tl) : Calls Tryz.prog 44 #[.map (some mb)] w fun e w' => e = .returned (.map (some w.heap.size)) ∧ VMap w' w.heap.size tl ∧ Below w.heap.size w w' := by
  obtain ⟨es, clock, hb, hst, he⟩ := h
  have hq := fun w => run_eql_map_nil_sl (P := Tryz.prog) w 72 3 90 (some mb) Tryz.underlying72
  go_enter Tryz.func44, Tryz.ntmps44
  go_wp2
  rw [run_callFunc_extern Tryz.func62 (by kernel_rfl) (by kernel_rfl) (by kernel_rfl) (e := Extern.MapsClone.clone) (by kernel_rfl), run_maps_clone_sl w 72 hb]
  simp only [Result.andThen]
  rw [Oper.upon_value]
  go_wp2
  rw [run_typeAssert_map_sl _ 72 20 _ _ _ Tryz.underlying72]
  simp only [Result.andThen]
  rw [Oper.upon_value]
  go_wp2
  go_ret
  exact ⟨rfl, ⟨es, clock, (MapKept.heap_alloc w _).1, hst, he⟩, (Below.refl _ _).alloc (Nat.le_refl _) _⟩
theorem own_sliceC {w : World} {base e size n : Nat} {v : Value} {xs : List Value} (h : w.ownsRow base e size v n xs) : ∃ p cap, v = .slice p n cap := by
  rcases h.2 with ⟨rfl, rfl⟩ | ⟨g, cap, cur, rfl, _⟩
  · exact ⟨none, 0, rfl⟩
  · exact ⟨_, cap, rfl⟩
theorem row_low {w : World} {base b2 e size n : Nat} {v : Value} {xs : List Value} (h : w.ownsRow base e size v n xs) (hb : b2 ≤ base) : w.ownsRow b2 e size v n xs := by
  refine ⟨h.1, ?_⟩
  rcases h.2 with h0 | ⟨g, cap, cur, h0, h1, hg, hr⟩
  · exact .inl h0
  · exact .inr ⟨g, cap, cur, h0, by omega, hg, hr⟩
section
variable {w : World} {b : Nat} {s : St} {x : Px} {c : Nat}
theorem copied (h : SS w b s x c) (hw : topTab < w.heap.size) {w5 w6 w7 w8 : World} {p' : Option Addr} {cap' : Nat} (b5 : Below w.heap.size w w5) (m5 : VMap w5 w.heap.size (x.tl.map tmP)) (k6 : Below w5.heap.size w5 w6) (n6 : Nums w5.heap.size w6 (.slice p' (clOf s).length cap') (clOf s))
    (k7 : Below w6.heap.size w6 w7) (m7 : VMap w7 w6.heap.size (x.kl.map knP)) (k8 : Below w7.heap.size w7 w8) (ca : Ca w8 w7.heap.size 0 0 none []) (hs : w8.heap.size = w7.heap.size + 1) :
    ∃ b2 x2, w8.heap.size = b2 ∧ SS (w8.alloc (.cells #[.int .i64 (s.room : Int), .int .i64 (s.gens : Int), .map (some w.heap.size), .slice p' (clOf s).length cap', .map (some w6.heap.size), .pointer (some ⟨w7.heap.size, 0, none⟩)] ts)) b2 s x2 c ∧ (∀ k, k ∈ own x2 b2 → w.heap.size ≤ k) ∧ Below w.heap.size w (w8.alloc (.cells #[.int .i64 (s.room : Int), .int .i64 (s.gens : Int), .map (some w.heap.size), .slice p' (clOf s).length cap', .map (some w6.heap.size), .pointer (some ⟨w7.heap.size, 0, none⟩)] ts)) := by
  have z5 := b5.size
  have z6 := k6.size
  have z7 := k7.size
  have l5 := m5.lt
  have l7 := m7.lt
  have k9 : Below w8.heap.size w8 (w8.alloc (.cells #[.int .i64 (s.room : Int), .int .i64 (s.gens : Int), .map (some w.heap.size), .slice p' (clOf s).length cap', .map (some w6.heap.size), .pointer (some ⟨w7.heap.size, 0, none⟩)] ts)) := (Below.refl _ _).alloc (Nat.le_refl _) _
  have k89 : Below w7.heap.size w7 (w8.alloc (.cells #[.int .i64 (s.room : Int), .int .i64 (s.gens : Int), .map (some w.heap.size), .slice p' (clOf s).length cap', .map (some w6.heap.size), .pointer (some ⟨w7.heap.size, 0, none⟩)] ts)) := k8.trans (k9.mono k8.size)
  have k79 := k7.trans (k89.mono k7.size)
  have k69 := k6.trans (k79.mono k6.size)
  refine ⟨w8.heap.size, ⟨w.heap.size, w6.heap.size, w7.heap.size, p', cap', 0, none, [], x.tl, x.kl⟩, rfl, ⟨⟨Go.heap_alloc_new w8 _, m5.kept (k69.block _ l5), h.sv.tp, m7.kept (k89.block _ l7), row_low (nums_below n6 k79) (by omega), ca.below k9, ⟨Nat.le_refl _, Nat.zero_le _⟩, by omega, hw, by show topTab < w6.heap.size; omega, ⟨by show w.heap.size ≠ w6.heap.size; omega, by simp, by simp⟩, h.sv.ok, h.sv.gc⟩, h.kp⟩, fun k hk => ?_, b5.trans (k69.mono b5.size)⟩
  simp only [own, owned, Option.toList, List.mem_cons, List.mem_append, List.map_nil, List.not_mem_nil, or_false, List.nil_append] at hk
  rcases hk with rfl | rfl | rfl | hk | rfl
  · omega
  · omega
  · omega
  · have := (World.ownsRow.lt n6 k (own_row.2 hk)).1
    omega
  · omega
set_option maxHeartbeats 4000000 in
theorem copy_any (h : SS w b s x c) (hw : topTab < w.heap.size) : Calls Tryz.prog 24 #[.pointer (some ⟨b, 0, none⟩)] w fun e w' => ∃ b2 x2, e = .returned (.pointer (some ⟨b2, 0, none⟩)) ∧ SS w' b2 s x2 c ∧ (∀ k, k ∈ own x2 b2 → w.heap.size ≤ k) ∧ Below w.heap.size w w' := by
  have sc : ∀ W, Below w.heap.size w W → W.cell? ⟨b, 0, none⟩ = some (.int .i64 (s.room : Int)) ∧ W.cell? ⟨b, 1, none⟩ = some (.int .i64 (s.gens : Int)) ∧ W.cell? ⟨b, 2, none⟩ = some (.map (some x.tb)) ∧ W.cell? ⟨b, 3, none⟩ = some (.slice x.p (clOf s).length x.cap) ∧ W.cell? ⟨b, 4, none⟩ = some (.map (some x.lb)) := fun W k => by
    have hW := h.sv.below k
    exact ⟨hW.c0, hW.c1, hW.c2, hW.c3, hW.c4⟩
  have hfew := h.sv.ok.few
  have c43 := Lib.hid (fun W (k : Below w.heap.size w W) => clone_tm W x.tb _ (h.sv.below k).tm)
  have c42 := Lib.hid (fun W (k : Below w.heap.size w W) => clone_nums _ (clOf s) _ W (h.sv.below k).row (by unfold clOf; simp; omega))
  have c44 := Lib.hid (fun W (k : Below w.heap.size w W) => clone_km W x.lb _ (h.sv.below k).km)
  have c28 := Lib.hid (fun W (k : Below w.heap.size w W) => new_any W (Nat.lt_of_lt_of_le hw k.size))
  have d0 : Below w.heap.size w w.drew := below_dN (Below.refl _ _) 1
  have fin := Lib.hid (fun w5 w6 w7 w8 p' cap' => copied (w5 := w5) (w6 := w6) (w7 := w7) (w8 := w8) (p' := p') (cap' := cap') h hw)
  have hds : w.drew.heap.size = w.heap.size := rfl
  clear h hw hfew
  generalize clOf s = CL at *
  go_enter Tryz.func24, Tryz.ntmps24
  go_wp2_with fail
  go_region_held3 (fun w' => w'.cell? ⟨b, 0, none⟩ = some (.int .i64 (s.room : Int)) ∧ w'.cell? ⟨b, 1, none⟩ = some (.int .i64 (s.gens : Int)) ∧ w'.cell? ⟨b, 2, none⟩ = some (.map (some x.tb)) ∧ w'.cell? ⟨b, 3, none⟩ = some (.slice x.p CL.length x.cap) ∧ w'.cell? ⟨b, 4, none⟩ = some (.map (some x.lb)))
    (exact sc _ (by with_reducible first | exact d0 | exact b5 | exact b6 | exact b7 | exact b8 | exact b8.alloc b8.size _))
    (first
      | (go_at_call 43; refine (c43.out _ d0).mono ?_; rintro e w5 ⟨rfl, m5, k5⟩; have b5 := d0.trans (k5.mono d0.size))
      | (go_at_call 42; refine (c42.out _ b5).mono ?_; rintro e w6 ⟨v6, rfl, n6, k6⟩; obtain ⟨p', cap', rfl⟩ := own_sliceC n6; have b6 := b5.trans (k6.mono b5.size))
      | (go_at_call 44; refine (c44.out _ b6).mono ?_; rintro e w7 ⟨rfl, m7, k7⟩; have b7 := b6.trans (k7.mono b6.size))
      | (go_at_call 28; refine (c28.out _ b7).mono ?_; rintro e w8 ⟨rfl, ca8, k8, hs8⟩; have b8 := b7.trans (k8.mono b7.size)))
  all_goals
    obtain ⟨b2, x2, hb2, S2, o2, k2⟩ := fin.out w5 w6 w7 w8 p' cap' b5 m5 k6 n6 k7 m7 k8 ca8 hs8
    replace S2 := Lib.hid S2
    replace o2 := Lib.hid o2
    replace k2 := Lib.hid k2
    have hb3 : Hid (w7.heap.size + 1 = b2) := by show _ = _; rw [← hs8]; exact hb2
    clear hb2
    clear fin m5 k6 n6 k7 m7 k8 ca8 hs8 sc c43 c42 c44 c28
    go_wp2_with fail
    go_ret
    exact ⟨b2, x2, by rw [← hb3.out]; rfl, S2.out, o2.out, k2.out⟩
end
end Go.Proofs.YtiidhcpflplpiaaGreatDoor

/-
  Layer 8: rows of structs of five cells, and the document's own service in memory ('Rf').
-/
set_option linter.unusedVariables false
namespace Go.Proofs.YtiidhcpflplpiaaGreatDoor
open Go.RowKit Crn Nxt Ste
set_option maxRecDepth 100000

def flatW {α : Type} (enc : α → List Value) : List α → List Value
  | [] => []
  | t :: l => enc t ++ flatW enc l
section
variable {α : Type} {enc : α → List Value}
theorem flatW_app (l m : List α) : flatW enc (l ++ m) = flatW enc l ++ flatW enc m := by
  induction l with
  | nil => rfl
  | cons t l ih => simp only [List.cons_append, flatW, ih, List.append_assoc]
theorem flatW_len (he : ∀ t, (enc t).length = 5) (l : List α) : (flatW enc l).length = l.length * 5 := by
  induction l with
  | nil => rfl
  | cons t l ih => simp only [flatW, List.length_append, ih, List.length_cons, he]; omega
theorem flatW_take (he : ∀ t, (enc t).length = 5) (l : List α) (k : Nat) (hk : k ≤ l.length) : flatW enc (l.take k) = (flatW enc l).take (k * 5) := by
  conv => rhs; rw [← List.take_append_drop k l, flatW_app]
  rw [List.take_left' (by rw [flatW_len he, List.length_take]; omega)]
theorem flatW_drop (he : ∀ t, (enc t).length = 5) (l : List α) (k : Nat) (hk : k ≤ l.length) : flatW enc (l.drop k) = (flatW enc l).drop (k * 5) := by
  conv => rhs; rw [← List.take_append_drop k l, flatW_app]
  rw [List.drop_left' (by rw [flatW_len he, List.length_take]; omega)]
theorem flatW_at (he : ∀ t, (enc t).length = 5) (l : List α) (i j : Nat) (hi : i < l.length) (hj : j < 5) : (flatW enc l)[i * 5 + j]? = (enc l[i])[j]? := by
  induction l generalizing i with
  | nil => simp at hi
  | cons t l ih =>
    have hl := he t
    cases i with
    | zero =>
      simp only [flatW, Nat.zero_mul, Nat.zero_add, List.getElem_cons_zero]
      rw [List.getElem?_append_left (by omega)]
    | succ i =>
      simp only [flatW, List.getElem_cons_succ]
      rw [List.getElem?_append_right (by rw [hl]; omega), hl, show (i + 1) * 5 + j - 5 = i * 5 + j by omega]
      exact ih i (by simpa using hi)
theorem flatW_one (h1 : ∀ t, ∀ u ∈ enc t, u.oneCell' = true) (l : List α) : ∀ u ∈ flatW enc l, u.oneCell' = true := by
  induction l with
  | nil => intro u hu; cases hu
  | cons t l ih =>
    intro u hu
    rcases List.mem_append.1 hu with g | g
    · exact h1 t u g
    · exact ih u g
theorem flatW_single (t : α) : flatW enc [t] = enc t := by simp [flatW]
end
theorem flatT_eq (l : List Tm) : flatT l = flatW encT l := by
  induction l with
  | nil => rfl
  | cons t l ih => simp only [flatT, flatW, ih]
def encK (k : Kn) : List Value := [.int .i64 k.client, .int .i64 k.req, .int .i64 k.rp.err, .int .i64 k.rp.gen, .int .i64 k.rp.due]
theorem encT_len (t : Tm) : (encT t).length = 5 := rfl
theorem encK_len (t : Kn) : (encK t).length = 5 := rfl
theorem encT_one (t : Tm) : ∀ u ∈ encT t, u.oneCell' = true := by
  intro u hu
  simp only [encT, List.mem_cons, List.not_mem_nil, or_false] at hu
  rcases hu with rfl | rfl | rfl | rfl | rfl <;> rfl
theorem encK_one (t : Kn) : ∀ u ∈ encK t, u.oneCell' = true := by
  intro u hu
  simp only [encK, List.mem_cons, List.not_mem_nil, or_false] at hu
  rcases hu with rfl | rfl | rfl | rfl | rfl <;> rfl
theorem info37 : (Tryz.prog.info? 37).map (fun i => (i.zero, i.size, i.bytes)) = some (some (.agg #[.int .i64 0, .int .i64 0, .int .i64 0, .int .i64 0, .string ⟨#[]⟩]), 5, 48) := by kernel_rfl
theorem info50 : (Tryz.prog.info? 50).map (fun i => (i.zero, i.size, i.bytes)) = some (some (.agg #[.int .i64 0, .int .i64 0, .int .i64 0, .int .i64 0, .int .i64 0]), 5, 40) := by kernel_rfl
theorem info_parts8 {e : TypeId} {z : Value} {size bytes : Nat} (h : (Tryz.prog.info? e).map (fun i => (i.zero, i.size, i.bytes)) = some (some z, size, bytes)) : ∃ i, Tryz.prog.info? e = some i ∧ i.zero = some z ∧ i.size = size ∧ i.bytes = bytes := by
  cases hi : Tryz.prog.info? e with
  | none => rw [hi] at h; cases h
  | some i =>
    rw [hi] at h
    simp only [Option.map_some, Option.some.injEq, Prod.mk.injEq] at h
    exact ⟨i, rfl, h.1, h.2.1, h.2.2⟩

/-- A row of structs of five cells. -/
def Ro {α : Type} (enc : α → List Value) (e : TypeId) (base : Nat) (w : World) (p : Option Addr) (cap : Nat) (l : List α) : Prop := w.ownsRow base e 5 (.slice p l.length cap) l.length (flatW enc l)
section
variable {α : Type} {enc : α → List Value} {e : TypeId} {base : Nat} {w w' : World} {p : Option Addr} {cap : Nat} {l : List α}
theorem Ro.form (t : Ro enc e base w p cap l) : (p = none ∧ cap = 0 ∧ l = []) ∨ ∃ g, p = some ⟨g, 0, none⟩ ∧ base ≤ g ∧ l.length ≤ cap ∧ cap ≤ maxLen := by
  rcases t.2 with ⟨h1, h2⟩ | ⟨g, cap', cur, h1, hb, _, h4, h5, _⟩
  · injection h1 with a1 a2 a3
    exact .inl ⟨a1, a3, List.length_eq_zero_iff.1 h2⟩
  · injection h1 with a1 a2 a3
    subst a3
    exact .inr ⟨g, a1, hb, h4, h5⟩
theorem Ro.same (t : Ro enc e base w p cap l) (hk : ∀ g, g ∈ rowOf p → w'.heap[g]? = w.heap[g]?) : Ro enc e base w' p cap l := row_same t fun g hg => hk g (own_row.1 hg)
theorem Ro.lt (t : Ro enc e base w p cap l) {g : Nat} (hg : g ∈ rowOf p) : base ≤ g ∧ g < w.heap.size := World.ownsRow.lt t g (own_row.2 hg)
theorem Ro.obj (t : Ro enc e base w p cap l) {g : Nat} (hg : g ∈ rowOf p) : ∃ cur, w.heap[g]? = some (.cells cur e (0, 0)) := row_at t (own_row.2 hg)
theorem Ro.below (t : Ro enc e base w p cap l) (k : Below w.heap.size w w') : Ro enc e base w' p cap l := t.same fun g hg => k.block g (t.lt hg).2
theorem Ro.low {b2 : Nat} (t : Ro enc e base w p cap l) (hb : b2 ≤ base) : Ro enc e b2 w p cap l := by
  refine ⟨t.1, ?_⟩
  rcases t.2 with h0 | ⟨g, cap, cur, h0, h1, hg, hr⟩
  · exact .inl h0
  · exact .inr ⟨g, cap, cur, h0, by omega, hg, hr⟩
theorem Ro.nil (base : Nat) (w : World) : Ro enc e base w none 0 [] := World.ownsRow_nil _ _ _ _
/-- The cells of the i-th one. -/
theorem Ro.cell (he : ∀ t, (enc t).length = 5) {g : Nat} (t : Ro enc e base w (some ⟨g, 0, none⟩) cap l) (i : Nat) (hi : i < l.length) {W : World} (hW : W.heap[g]? = w.heap[g]?) (j : Nat) (u : Value) (hu : (enc l[i])[j]? = some u) : W.cell? ⟨g, i * 5 + j, none⟩ = some u := by
  have hj : j < 5 := by
    have h1 : j < (enc l[i]).length := (List.getElem?_eq_some_iff.1 hu).1
    rw [he] at h1
    exact h1
  rw [World.cell?_of_block (w := w) hW]
  have hc := World.ownsRow.cells t (g := g) rfl (i * 5 + j) u (by rw [flatW_at he l i j hi hj]; exact hu)
  rw [Addr.add_lit] at hc
  simpa using hc
theorem Ro.front (he : ∀ t, (enc t).length = 5) {g : Nat} (t : Ro enc e base w (some ⟨g, 0, none⟩) cap l) (k : Nat) (hk : k ≤ l.length) (W : World) (hW : W.heap[g]? = w.heap[g]?) : ∀ j u, (flatW enc (l.take k))[j]? = some u → W.cell? ((⟨g, 0, none⟩ : Addr).add j) = some u := fun j u hu => by
  rw [flatW_take he l k hk, List.getElem?_take] at hu
  split at hu
  · have hc := World.ownsRow.cells t (g := g) rfl _ _ hu
    rw [Addr.add_lit] at hc ⊢
    rw [World.cell?_of_block (w := w) hW]
    exact hc
  · cases hu
/-- The cells from the k-th one on, where the cut's address is. -/
theorem Ro.cut (he : ∀ t, (enc t).length = 5) {g : Nat} (t : Ro enc e base w (some ⟨g, 0, none⟩) cap l) (k : Nat) (hk : k ≤ l.length) :
    ∃ A : Addr, (if cap = k then some (⟨g, 0, none⟩ : Addr) else some ⟨g, k * 5, none⟩) = some A ∧ ∀ W : World, W.heap[g]? = w.heap[g]? → ∀ j u, (flatW enc (l.drop k))[j]? = some u → W.cell? (A.add j) = some u := by
  by_cases h : cap = k
  · refine ⟨⟨g, 0, none⟩, by simp [h], fun W hW j u hu => ?_⟩
    have hl : l.length ≤ cap := by
      rcases t.form with ⟨e, _⟩ | ⟨g', e, _, h1, _⟩
      · cases e
      · exact h1
    have : (flatW enc (l.drop k)).length = 0 := by rw [flatW_len he, List.length_drop]; omega
    rw [List.length_eq_zero_iff.1 this] at hu
    simp at hu
  · refine ⟨⟨g, k * 5, none⟩, by simp [h], fun W hW j u hu => ?_⟩
    rw [flatW_drop he l k hk, List.getElem?_drop] at hu
    have hc := World.ownsRow.cells t (g := g) rfl _ _ hu
    rw [Addr.add_lit] at hc ⊢
    rw [World.cell?_of_block (w := w) hW]
    simpa using hc
end
/-- The document's service: its block, the rows of its timers and of its clients. -/
structure Rf (base : Nat) (w : World) (r : Nat) (s : St) (p : Option Addr) (cap : Nat) (q : Option Addr) (cq : Nat) : Prop where
  blk : w.heap[r]? = some (.cells #[.int .i64 (s.room : Int), .int .i64 (s.gens : Int), .slice p s.T.length cap, .slice q s.K.length cq] 47 (0, 0))
  tow : Ro encT 37 base w p cap s.T
  kow : Ro encK 50 base w q cq s.K
  lt : s.T.length ≤ 1000
  lk : s.K.length ≤ 1000
  hb : base ≤ r
section
variable {base : Nat} {w w' : World} {r : Nat} {s : St} {p : Option Addr} {cap : Nat} {q : Option Addr} {cq : Nat}
theorem Rf.c0 (h : Rf base w r s p cap q cq) : w.cell? ⟨r, 0, none⟩ = some (.int .i64 (s.room : Int)) := cell_in h.blk 0
theorem Rf.c1 (h : Rf base w r s p cap q cq) : w.cell? ⟨r, 1, none⟩ = some (.int .i64 (s.gens : Int)) := cell_in h.blk 1
theorem Rf.c2 (h : Rf base w r s p cap q cq) : w.cell? ⟨r, 2, none⟩ = some (.slice p s.T.length cap) := cell_in h.blk 2
theorem Rf.c3 (h : Rf base w r s p cap q cq) : w.cell? ⟨r, 3, none⟩ = some (.slice q s.K.length cq) := cell_in h.blk 3
theorem Rf.fz (h : Rf base w r s p cap q cq) (o : Nat) : w.frozen? ⟨r, o, none⟩ = false := free_in h.blk o
theorem Rf.rlt (h : Rf base w r s p cap q cq) : r < w.heap.size := lt_in h.blk
theorem Rf.same (h : Rf base w r s p cap q cq) (hk : ∀ g, (g = r ∨ g ∈ rowOf p ∨ g ∈ rowOf q) → w'.heap[g]? = w.heap[g]?) : Rf base w' r s p cap q cq :=
  ⟨(hk r (.inl rfl)).trans h.blk, h.tow.same fun g hg => hk g (.inr (.inl hg)), h.kow.same fun g hg => hk g (.inr (.inr hg)), h.lt, h.lk, h.hb⟩
theorem Rf.below (h : Rf base w r s p cap q cq) (k : Below w.heap.size w w') : Rf base w' r s p cap q cq := h.same fun g hg => k.block g (by
  rcases hg with rfl | hg | hg
  · exact h.rlt
  · exact (h.tow.lt hg).2
  · exact (h.kow.lt hg).2)
theorem Rf.nr (h : Rf base w r s p cap q cq) : r ∉ rowOf p ∧ r ∉ rowOf q := by
  refine ⟨fun g => ?_, fun g => ?_⟩
  · obtain ⟨cur, e⟩ := h.tow.obj g
    exact type_no h.blk e (by decide) rfl
  · obtain ⟨cur, e⟩ := h.kow.obj g
    exact type_no h.blk e (by decide) rfl
theorem Rf.at (h : Rf base w r s p cap q cq) (i : Nat) (hi : i < s.T.length) : ∃ g, p = some ⟨g, 0, none⟩ ∧ g < w.heap.size ∧ w.cell? ⟨g, i * 5, none⟩ = some (.int .i64 s.T[i].id) ∧ w.cell? ⟨g, i * 5 + 1, none⟩ = some (.int .i64 s.T[i].client) ∧ w.cell? ⟨g, i * 5 + 2, none⟩ = some (.int .i64 s.T[i].gen) ∧ w.cell? ⟨g, i * 5 + 3, none⟩ = some (.int .i64 s.T[i].due) ∧ w.cell? ⟨g, i * 5 + 4, none⟩ = some (.string s.T[i].cron) := by
  rcases h.tow.form with ⟨_, _, e⟩ | ⟨g, rfl, _, _, _⟩
  · rw [e] at hi; simp at hi
  · have hg : g ∈ rowOf (some (⟨g, 0, none⟩ : Addr)) := own_row (n := 0) (cap := 0).1 rfl
    have hc := h.tow.cell encT_len i hi (W := w) rfl
    exact ⟨g, rfl, (h.tow.lt hg).2, hc 0 _ rfl, hc 1 _ rfl, hc 2 _ rfl, hc 3 _ rfl, hc 4 _ rfl⟩
theorem Rf.atK (h : Rf base w r s p cap q cq) (i : Nat) (hi : i < s.K.length) : ∃ g, q = some ⟨g, 0, none⟩ ∧ g < w.heap.size ∧ w.cell? ⟨g, i * 5, none⟩ = some (.int .i64 s.K[i].client) ∧ w.cell? ⟨g, i * 5 + 1, none⟩ = some (.int .i64 s.K[i].req) ∧ w.cell? ⟨g, i * 5 + 2, none⟩ = some (.int .i64 s.K[i].rp.err) ∧ w.cell? ⟨g, i * 5 + 3, none⟩ = some (.int .i64 s.K[i].rp.gen) ∧ w.cell? ⟨g, i * 5 + 4, none⟩ = some (.int .i64 s.K[i].rp.due) := by
  rcases h.kow.form with ⟨_, _, e⟩ | ⟨g, rfl, _, _, _⟩
  · rw [e] at hi; simp at hi
  · have hg : g ∈ rowOf (some (⟨g, 0, none⟩ : Addr)) := own_row (n := 0) (cap := 0).1 rfl
    have hc := h.kow.cell encK_len i hi (W := w) rfl
    exact ⟨g, rfl, (h.kow.lt hg).2, hc 0 _ rfl, hc 1 _ rfl, hc 2 _ rfl, hc 3 _ rfl, hc 4 _ rfl⟩
end
end Go.Proofs.YtiidhcpflplpiaaGreatDoor

/-
  Layer 8: the document's own service: find, known, New, Get, Fires.
-/
set_option linter.unusedVariables false
namespace Go.Proofs.YtiidhcpflplpiaaGreatDoor
open Go.RowKit Crn Nxt Ste
set_option maxRecDepth 100000

/-- The place of an id, and of a client. -/
def plT (id : Int) (T : List Tm) : Nat := T.findIdx fun t => decide (t.id = id)
def plK (c : Int) (K : List Kn) : Nat := K.findIdx fun k => decide (k.client = c)
theorem plT_le (id : Int) (T : List Tm) : plT id T ≤ T.length := List.findIdx_le_length
theorem plK_le (c : Int) (K : List Kn) : plK c K ≤ K.length := List.findIdx_le_length
theorem plT_is {id : Int} {T : List Tm} (h : plT id T < T.length) : T[plT id T].id = id := by
  exact of_decide_eq_true (List.findIdx_getElem (w := h))
theorem plK_is {c : Int} {K : List Kn} (h : plK c K < K.length) : K[plK c K].client = c := by
  exact of_decide_eq_true (List.findIdx_getElem (w := h))
theorem plT_not {id : Int} {T : List Tm} {i : Nat} (h : i < plT id T) : (T[i]'(Nat.lt_of_lt_of_le h (plT_le id T))).id ≠ id := by
  have := List.not_of_lt_findIdx h
  simpa using this
theorem plK_not {c : Int} {K : List Kn} {i : Nat} (h : i < plK c K) : (K[i]'(Nat.lt_of_lt_of_le h (plK_le c K))).client ≠ c := by
  have := List.not_of_lt_findIdx h
  simpa using this
theorem plT_find {id : Int} {T : List Tm} : Ste.find id T = T[plT id T]? := by
  unfold Ste.find plT
  rw [List.find?_eq_getElem?_findIdx]
theorem plK_known {c : Int} {K : List Kn} : known c K = K[plK c K]? := by
  unfold Ste.known plK
  rw [List.find?_eq_getElem?_findIdx]
def atN (k n : Nat) : Int := if k < n then (k : Int) else -1

section
variable {base : Nat} {w : World} {r : Nat} {s : St} {p : Option Addr} {cap : Nat} {q : Option Addr} {cq : Nat}
theorem rfind_any (h : Rf base w r s p cap q cq) (id : Int) : Calls Tryz.prog 29 #[.pointer (some ⟨r, 0, none⟩), .int .i64 id] w fun e w' => e = .returned (.int .i64 (atN (plT id s.T) s.T.length)) ∧ w = w' := by
  obtain ⟨k, hke⟩ : ∃ k, plT id s.T = k := ⟨_, rfl⟩
  have hk := plT_le id s.T
  have hn0 : Hid (∀ i (hi : i < s.T.length), i < k → s.T[i].id ≠ id) := fun i hi hik => plT_not (by rw [hke]; exact hik)
  have he0 : Hid (∀ h : k < s.T.length, s.T[k].id = id) := fun h2 => by subst hke; exact plT_is h2
  rw [hke] at hk ⊢
  have hz0 : Hid (atN k s.T.length = if k < s.T.length then (k : Int) else -1) := rfl
  generalize atN k s.T.length = z at *
  have c2 := h.c2
  have hlen := h.lt
  have hat := Lib.hid h.at
  replace h := Lib.hid h
  clear hke
  obtain ⟨n, hnn⟩ : ∃ n, n = s.T.length := ⟨_, rfl⟩
  have hnn0 := Lib.hid hnn
  rw [← hnn] at hk c2 hlen
  clear hnn
  go_enter Tryz.func29, Tryz.ntmps29
  go_wp2_with fail
  go_loopw [5] (fun i wr => ∃ j : Nat, j ≤ k ∧ i = .int .i64 j ∧ wr = w) (fun i _ => n - (intOf i).toNat)
  case atStart => exact ⟨0, by omega, rfl, rfl⟩
  case round =>
    obtain ⟨j, hj, rfl, rfl⟩ := hrel
    by_cases hjn : j < n
    · obtain ⟨g, hp, _, ca, _, _, _, _⟩ := hat.out j (by rw [← hnn0.out]; exact hjn)
      subst hp
      by_cases hjk : j < k
      · have e0 : ((s.T[j]'(by rw [← hnn0.out]; exact hjn)).id == id) = false := by simpa using hn0.out j _ hjk
        generalize (s.T[j]'(by rw [← hnn0.out]; exact hjn)).id = x at *
        clear hat hn0 he0
        have hjn2 : (j : Int) < n := by omega
        go_wp2_with fail
        refine ⟨⟨j + 1, by omega, by go_num, by trivial⟩, ?_⟩
        simp [intOf]; omega
      · obtain rfl : j = k := by omega
        have e0 : ((s.T[j]'(by rw [← hnn0.out]; exact hjn)).id == id) = true := by simpa using he0.out (by rw [← hnn0.out]; exact hjn)
        have hz2 : Hid (z = (j : Int)) := by show z = _; rw [hz0.out, if_pos (by rw [← hnn0.out]; exact hjn)]
        generalize (s.T[j]'(by rw [← hnn0.out]; exact hjn)).id = x at *
        clear hat hn0 he0
        have hjn2 : (j : Int) < n := by omega
        go_wp2_with fail
        go_ret
        exact ⟨by rw [hz2.out]; rfl, rfl⟩
    · have hz2 : Hid (z = -1) := by show z = _; rw [hz0.out, if_neg (by rw [← hnn0.out]; omega)]
      clear hat hn0 he0
      have hjn2 : ¬ (j : Int) < n := by omega
      go_wp2_with fail
      go_ret
      exact ⟨by rw [hz2.out]; rfl, rfl⟩
theorem rknown_any (h : Rf base w r s p cap q cq) (id : Int) : Calls Tryz.prog 33 #[.pointer (some ⟨r, 0, none⟩), .int .i64 id] w fun e w' => e = .returned (.int .i64 (atN (plK id s.K) s.K.length)) ∧ w = w' := by
  obtain ⟨k, hke⟩ : ∃ k, plK id s.K = k := ⟨_, rfl⟩
  have hk := plK_le id s.K
  have hn0 : Hid (∀ i (hi : i < s.K.length), i < k → s.K[i].client ≠ id) := fun i hi hik => plK_not (by rw [hke]; exact hik)
  have he0 : Hid (∀ h : k < s.K.length, s.K[k].client = id) := fun h2 => by subst hke; exact plK_is h2
  rw [hke] at hk ⊢
  have hz0 : Hid (atN k s.K.length = if k < s.K.length then (k : Int) else -1) := rfl
  generalize atN k s.K.length = z at *
  have c2 := h.c3
  have hlen := h.lk
  have hat := Lib.hid h.atK
  replace h := Lib.hid h
  clear hke
  obtain ⟨n, hnn⟩ : ∃ n, n = s.K.length := ⟨_, rfl⟩
  have hnn0 := Lib.hid hnn
  rw [← hnn] at hk c2 hlen
  clear hnn
  go_enter Tryz.func33, Tryz.ntmps33
  go_wp2_with fail
  go_loopw [5] (fun i wr => ∃ j : Nat, j ≤ k ∧ i = .int .i64 j ∧ wr = w) (fun i _ => n - (intOf i).toNat)
  case atStart => exact ⟨0, by omega, rfl, rfl⟩
  case round =>
    obtain ⟨j, hj, rfl, rfl⟩ := hrel
    by_cases hjn : j < n
    · obtain ⟨g, hp, _, ca, _, _, _, _⟩ := hat.out j (by rw [← hnn0.out]; exact hjn)
      subst hp
      by_cases hjk : j < k
      · have e0 : ((s.K[j]'(by rw [← hnn0.out]; exact hjn)).client == id) = false := by simpa using hn0.out j _ hjk
        generalize (s.K[j]'(by rw [← hnn0.out]; exact hjn)).client = x at *
        clear hat hn0 he0
        have hjn2 : (j : Int) < n := by omega
        go_wp2_with fail
        refine ⟨⟨j + 1, by omega, by go_num, by trivial⟩, ?_⟩
        simp [intOf]; omega
      · obtain rfl : j = k := by omega
        have e0 : ((s.K[j]'(by rw [← hnn0.out]; exact hjn)).client == id) = true := by simpa using he0.out (by rw [← hnn0.out]; exact hjn)
        have hz2 : Hid (z = (j : Int)) := by show z = _; rw [hz0.out, if_pos (by rw [← hnn0.out]; exact hjn)]
        generalize (s.K[j]'(by rw [← hnn0.out]; exact hjn)).client = x at *
        clear hat hn0 he0
        have hjn2 : (j : Int) < n := by omega
        go_wp2_with fail
        go_ret
        exact ⟨by rw [hz2.out]; rfl, rfl⟩
    · have hz2 : Hid (z = -1) := by show z = _; rw [hz0.out, if_neg (by rw [← hnn0.out]; omega)]
      clear hat hn0 he0
      have hjn2 : ¬ (j : Int) < n := by omega
      go_wp2_with fail
      go_ret
      exact ⟨by rw [hz2.out]; rfl, rfl⟩
end
theorem rnew_any (base : Nat) (t : Int) (w : World) (hb : base ≤ w.heap.size) :
    Calls Tryz.prog 12 #[.int .i64 t] w fun e w' => e = .returned (.pointer (some ⟨w.heap.size, 0, none⟩)) ∧ Rf base w' w.heap.size (newN t) none 0 none 0 ∧ Below w.heap.size w w' := by
  have hr : min (max t 1) 16 = (((newN t).room : Nat) : Int) := by show _ = ((min (max t 1) 16).toNat : Int); omega
  replace hr := Lib.hid hr
  go_enter Tryz.func12, Tryz.ntmps12
  go_wp2_with fail
  go_ret
  refine ⟨rfl, ⟨?_, Ro.nil _ _, Ro.nil _ _, Nat.zero_le _, Nat.zero_le _, hb⟩, (Below.refl _ _).alloc (Nat.le_refl _) _⟩
  rw [← hr.out]
  exact heap_alloc_new w _
end Go.Proofs.YtiidhcpflplpiaaGreatDoor

/-
  Layer 8: the document's own service: away and put.
-/
set_option linter.unusedVariables false
namespace Go.Proofs.YtiidhcpflplpiaaGreatDoor
open Go.RowKit Crn Nxt Ste
set_option maxRecDepth 100000

theorem step_append_at {P : Program} {ops : Array Oper} {o : Oper} {a : Act} {w : World} {K : Act → World → Prop} {Q : Exit → Act → World → Prop} {E : Prop}
    (hg : o.guard = none) (d x : Operand) (dT sT : TypeId) (hop : o.op = Op.call { callee := Callee.builtin Builtin.append, args := #[d, x], argTypes := #[dT, sT] })
    (v u : Value) (hd : a.eval d = v) (hx : a.eval x = u) {v' : Value} {w' : World} (hr : (Builtin.append_ #[dT, sT] o.type #[v, u]).run P w = .ok v' w') (hK : K (a.put o.dst v') w') :
    if Region.wanted o (yielded ops a.tmps) = true then Oper.wp P o a w K Q else E := by
  have hw : Region.wanted o (yielded ops a.tmps) = true := by simp [Region.wanted, hg]
  rw [if_pos hw]
  unfold Oper.wp
  simp [execOp, hop, resolve, invoke, builtin, hd, hx, hr, Result.andThen]
  exact hK
theorem wpList_append_ati {P : Program} {ops : Array Oper} {rest : List Oper} {o : Oper} {a : Act} {w : World} {Q : Exit → Act → World → Prop} (hgd : o.guard = none) (d x : Operand) (dT sT : TypeId)
    (ho : o.op = .call { callee := .builtin .append, args := #[d, x], argTypes := #[dT, sT] }) (v u : Value) (hd : a.eval d = v) (hx : a.eval x = u) {v' : Value} {w' : World}
    (hr : (Builtin.append_ #[dT, sT] o.type #[v, u]).run P w = .ok v' w') (h : wpList P ops Q rest (a.put o.dst v') w') : wpList P ops Q (o :: rest) a w := by
  refine wpList_plain hgd fun K hK => ?_
  unfold Oper.wp execOp
  simp only [ho, resolve, invoke, builtin, Sem.run_bind, Sem.run_pure, Result.andThen_ok, List.map_toArray, List.map_cons, List.map_nil, hd, hx, hr]
  exact hK _ _ h

/-- The row is not among the blocks below B. -/
def FreshR (B : Nat) (p : Option Addr) : Prop := ∀ g, g ∈ rowOf p → B ≤ g
theorem own_slice8 {w : World} {base e size n : Nat} {v : Value} {xs : List Value} (h : w.ownsRow base e size v n xs) : ∃ p cap, v = .slice p n cap := by
  rcases h.2 with ⟨rfl, rfl⟩ | ⟨g, cap, cur, rfl, _⟩
  · exact ⟨none, 0, rfl⟩
  · exact ⟨_, cap, rfl⟩
section
variable {base : Nat} {w : World} {r : Nat} {s : St} {p : Option Addr} {cap : Nat} {q : Option Addr} {cq : Nat}
/-- The block written anew with another list of timers. -/
theorem Rf.setT {W : World} {p' : Option Addr} {n cap' : Nat} {T' : List Tm} (h : Rf base w r s p cap q cq) (hr : W.heap[r]? = w.heap[r]?) (hq : ∀ g, g ∈ rowOf q → W.heap[g]? = w.heap[g]?) (o : W.ownsRow base 37 5 (.slice p' n cap') n (flatW encT T')) (hn : n = T'.length) (hl : T'.length ≤ 1000) :
    Rf base (W.setCell ⟨r, 2, none⟩ (.slice p' n cap')) r { s with T := T' } p' cap' q cq := by
  subst hn
  have hb : W.heap[r]? = some (.cells #[.int .i64 (s.room : Int), .int .i64 (s.gens : Int), .slice p s.T.length cap, .slice q s.K.length cq] 47 (0, 0)) := hr.trans h.blk
  refine ⟨?_, ?_, ?_, hl, h.lk, h.hb⟩
  · rw [heap_setCell_same W r 2 _ _ _ hb]; rfl
  · exact Ro.same (w := W) o fun g hg => Below.heap_setCell _ _ _ _ (fun e => by
      obtain ⟨cur, hc⟩ := row_at o (own_row.2 hg)
      exact type_no hc hb (by decide) e)
  · exact (h.kow.same hq).same fun g hg => Below.heap_setCell _ _ _ _ (fun e => h.nr.2 (by have e2 : g = r := e; rw [← e2]; exact hg))
theorem kl_r {W : World} {v : Value} {j : Nat} (b : Below w.heap.size w W) : Kl [r] w (W.setCell ⟨r, j, none⟩ v) := (Kl.ofBelow b).setCell (by simp) j v

set_option maxHeartbeats 4000000 in
theorem raway_any (h : Rf base w r s p cap q cq) (i : Nat) (hi : i < s.T.length) :
    Calls Tryz.prog 35 #[.pointer (some ⟨r, 0, none⟩), .int .i64 i] w fun e w' => e = .returned (.tuple #[]) ∧ (∃ p' cap', Rf base w' r { s with T := s.T.take i ++ s.T.drop (i + 1) } p' cap' q cq ∧ FreshR w.heap.size p') ∧ Kl [r] w w' := by
  obtain ⟨i0, hi0, hz0, hzs, hzb⟩ := info_parts8 info37
  obtain ⟨g, rfl, hbg, hlc, hcm⟩ : ∃ g, p = some ⟨g, 0, none⟩ ∧ base ≤ g ∧ s.T.length ≤ cap ∧ cap ≤ maxLen := by
    rcases h.tow.form with ⟨_, _, e⟩ | h
    · rw [e] at hi; simp at hi
    · exact h
  have hgr : g ∈ rowOf (some (⟨g, 0, none⟩ : Addr)) := own_row (n := 0) (cap := 0).1 rfl
  have hgl := (h.tow.lt hgr).2
  have hrl := h.rlt
  have hlen := h.lt
  have k1 : Below w.heap.size w (w.alloc (.cells #[] 37)).drew := ((Below.refl _ _).alloc (Nat.le_refl _) _).drew
  have o0 : (w.alloc (.cells #[] 37)).drew.ownsRow w.heap.size 37 5 (.slice (some ⟨w.heap.size, 0, none⟩) 0 0) 0 [] := row_same (World.ownsRow_made w #[] 0 (Nat.le_refl _) (by unfold maxLen; omega) rfl) fun _ _ => rfl
  obtain ⟨v1, w1, r1, o1, g1, -⟩ := run_append_own (P := Tryz.prog) _ w.heap.size 43 43 37 i0 _ 5 48 Tryz.underlying43 hi0 hz0 hzs hzb rfl (by omega) _ 0 [] o0 ⟨g, 0, none⟩ i cap (flatW encT (s.T.take i)) (by rw [flatW_len encT_len, List.length_take]; omega) (h.tow.front encT_len i (by omega) _ (k1.block g hgl)) (flatW_one encT_one _) (by unfold maxLen; omega) (by omega) (k1.size)
  have hb1 : ∀ k, k < w.heap.size → w1.heap[k]? = w.heap[k]? := fun k hk => (g1.block k (Nat.lt_of_lt_of_le hk k1.size) (fun e => by simp [Value.ownBlock] at e; omega)).trans (k1.block k hk)
  obtain ⟨A, hA, hsrc⟩ := h.tow.cut encT_len (i + 1) (by omega)
  obtain ⟨v2, w2, r2, o2, g2, -⟩ := run_append_own (P := Tryz.prog) w1 w.heap.size 43 43 37 i0 _ 5 48 Tryz.underlying43 hi0 hz0 hzs hzb rfl (by omega) _ _ _ o1 A (s.T.length - (i + 1)) (cap - (i + 1)) (flatW encT (s.T.drop (i + 1))) (by rw [flatW_len encT_len, List.length_drop]) (hsrc w1 (hb1 g hgl)) (flatW_one encT_one _) (by unfold maxLen; omega) (by omega) (Nat.le_trans k1.size g1.size)
  have hb2 : ∀ k, k < w.heap.size → w2.heap[k]? = w.heap[k]? := fun k hk => (g2.block k (Nat.lt_of_lt_of_le hk (Nat.le_trans k1.size g1.size)) (fun e => by have := (o1.lt k e.symm).1; omega)).trans (hb1 k hk)
  rw [Nat.zero_add] at o2
  obtain ⟨p', cap', rfl⟩ := own_slice8 o2
  rw [List.nil_append, ← flatW_app] at o2
  have hll : i + (s.T.length - (i + 1)) = (s.T.take i ++ s.T.drop (i + 1)).length := by simp; omega
  have fin : Hid (Rf base (w2.setCell ⟨r, 2, none⟩ (.slice p' (i + (s.T.length - (i + 1))) cap')) r { s with T := s.T.take i ++ s.T.drop (i + 1) } p' cap' q cq) :=
    h.setT (hb2 r hrl) (fun g hg => hb2 g (h.kow.lt hg).2) (Ro.low (p := p') (cap := cap') (l := s.T.take i ++ s.T.drop (i + 1)) (base := w.heap.size) (by unfold Ro; rw [← hll]; exact o2) (by have := h.hb; omega) |> fun z => by unfold Ro at z; rw [← hll] at z; exact z) hll (by rw [← hll]; omega)
  have fr : Hid (FreshR w.heap.size p') := fun g hg => (World.ownsRow.lt o2 g (own_row.2 hg)).1
  have kp : Hid (Kl [r] w (w2.setCell ⟨r, 2, none⟩ (.slice p' (i + (s.T.length - (i + 1))) cap'))) := kl_r ⟨(g2.os.trans g1.os).trans k1.os, (g2.tape.trans g1.tape).trans k1.tape, (g2.output.trans g1.output).trans k1.output, Nat.le_trans k1.size (Nat.le_trans g1.size g2.size), hb2⟩
  have c1 := h.c2
  have c1a : (w.alloc (.cells #[] 37)).cell? ⟨r, 2, none⟩ = some (.slice (some ⟨g, 0, none⟩) s.T.length cap) := (World.cell?_of_block (w := w) (k1.block r hrl)).trans c1
  have c1b : w1.cell? ⟨r, 2, none⟩ = some (.slice (some ⟨g, 0, none⟩) s.T.length cap) := (World.cell?_of_block (w := w) (hb1 r hrl)).trans c1
  have c1c : w2.cell? ⟨r, 2, none⟩ = some (.slice (some ⟨g, 0, none⟩) s.T.length cap) := (World.cell?_of_block (w := w) (hb2 r hrl)).trans c1
  have f1c : w2.frozen? ⟨r, 2, none⟩ = false := (World.frozen?_of_block (w := w) (hb2 r hrl)).trans (h.fz 2)
  have hj1 : (0 : Int) ≤ (i : Int) := by omega
  have hj2 : (i : Int) ≤ (cap : Int) := by omega
  have hj3 : (0 : Int) ≤ (i : Int) + 1 := by omega
  have hj4 : (i : Int) + 1 ≤ (s.T.length : Int) := by omega
  have hj5 : (s.T.length : Int) ≤ (cap : Int) := by omega
  have hj6 : (cap : Int) ≤ 9223372036854775807 := by unfold maxLen at hcm; omega
  have hw1 : IntKind.i64.wrap ((i : Int) + 1) = (i : Int) + 1 := IntWalk.i64_in _ (by omega)
  have hic : i ≤ cap := by omega
  have hjc : i + 1 ≤ cap := by omega
  have hjn : i + 1 ≤ s.T.length := by omega
  replace r1 := Lib.hid r1
  replace r2 := Lib.hid r2
  clear h k1 o0 o1 g1 hb1 hsrc o2 g2 hb2 hll hi0 hz0 hzs hzb hcm
  go_enter Tryz.func35, Tryz.ntmps35
  go_wp2_with fail
  go_region_law (first | (refine step_append_at (by rfl) _ _ 43 43 (by rfl) _ _ (by rfl) (by rfl) r1.out ?_) | (refine step_append_at (by rfl) _ _ 43 43 (by rfl) _ _ (by rfl) (by rfl) r2.out ?_))
  all_goals
    clear r1 r2 c1 c1a c1b c1c f1c
    go_wp2_with fail
    first | go_end0 | (simp only [Exit.inBlock, Exit.then]; refine bodyPost_ret (results_none rfl _ _ _) rfl ?_) | trace_state
    exact ⟨rfl, ⟨_, _, fin.out, fr.out⟩, kp.out⟩
end
/-- A row that is cut to its length grows in a new block. -/
theorem grow_cut8 (w : World) (g k : Nat) (olds news : List Value) (A : Addr) (hlo : olds.length = k * 5) (holds : ∀ j u, olds[j]? = some u → w.cell? ((⟨g, 0, none⟩ : Addr).add j) = some u) (hl : news.length = 1 * 5) (hnews : ∀ j u, news[j]? = some u → w.cell? (A.add j) = some u) (hk : k ≤ 1000) :
    ∃ v' w', (Builtin.append_ #[43, 43] 43 #[.slice (some ⟨g, 0, none⟩) k k, .slice (some A) 1 1]).run Tryz.prog w = .ok v' w' ∧ w'.ownsRow w.heap.size 37 5 v' (k + 1) (olds ++ news) ∧ Below w.heap.size w w' := by
  obtain ⟨i0, hi0, hz0, hzs, hzb⟩ := info_parts8 info37
  have hr := run_append_grow (P := Tryz.prog) w 43 43 37 i0 _ Tryz.underlying43 hi0 hz0 ⟨g, 0, none⟩ k k olds (by rw [hzs]; exact hlo) holds A 1 1 news (by rw [hzs]; exact hl) hnews (by omega) (by omega) (by rw [hzb]; exact growslice_fits (by omega) (by omega))
  have hge := grownCap_ge w (k + 1) k 37
  have hcm : grownCap w (k + 1) k 37 ≤ maxLen := grownCap_le_maxLen w (k + 1) k 37 (by unfold maxLen; omega)
  have hzc : (Value.agg #[.int .i64 0, .int .i64 0, .int .i64 0, .int .i64 0, .string ⟨#[]⟩]).cells.size = 5 := rfl
  have hlen : (olds ++ news).length = (k + 1) * 5 := by rw [List.length_append, hlo, hl]; omega
  refine ⟨_, _, hr, ⟨hlen, .inr ⟨w.heap.size, _, _, rfl, Nat.le_refl _, heap_alloc_new w.drew _, hge, hcm, ?_, ?_⟩⟩, ((Below.refl _ _).drew).alloc (Nat.le_refl _) _⟩
  · simp only [Array.size_append, List.size_toArray, size_zeroCells, hzc, hlo, hl]
    omega
  · simp only [Array.toList_append, List.append_assoc]
    rw [← List.append_assoc, ← hlen]
    exact List.take_left
/-- A timer in a block of its own. -/
abbrev tmO (t : Tm) : Obj := .cells #[.int .i64 t.id, .int .i64 t.client, .int .i64 t.gen, .int .i64 t.due, .string t.cron] 37
theorem tm_new (W : World) (t : Tm) : ∀ j u, (flatW encT [t])[j]? = some u → (W.alloc (tmO t)).cell? ((⟨W.heap.size, 0, none⟩ : Addr).add j) = some u := fun j u hu => by
  rw [flatW_single] at hu
  rw [Addr.add_lit]
  match j, hu with
  | 0, hu => simp [encT] at hu; subst hu; simp
  | 1, hu => simp [encT] at hu; subst hu; simp
  | 2, hu => simp [encT] at hu; subst hu; simp
  | 3, hu => simp [encT] at hu; subst hu; simp
  | 4, hu => simp [encT] at hu; subst hu; simp
section
variable {base : Nat} {w : World} {r : Nat} {s : St} {p : Option Addr} {cap : Nat} {q : Option Addr} {cq : Nat}
/-- What put makes, where there is a row: the rest (w3), the front with the new one (w5), both together (w6). -/
structure Made (base : Nat) (w : World) (r : Nat) (s : St) (g cap : Nat) (q : Option Addr) (cq : Nat) (t : Tm) (k : Nat) (A : Addr) (v3 : Value) (w3 : World) (v5 : Value) (w5 : World) (p6 : Option Addr) (c6 : Nat) (w6 : World) : Prop where
  at_ : (if cap = k then some (⟨g, 0, none⟩ : Addr) else some ⟨g, k * 5, none⟩) = some A
  r3 : (Builtin.append_ #[43, 43] 43 #[.slice (some ⟨w.heap.size, 0, none⟩) 0 0, .slice (some A) (s.T.length - k) (cap - k)]).run Tryz.prog (w.alloc (.cells #[] 37)) = .ok v3 w3
  r5 : (Builtin.append_ #[43, 43] 43 #[.slice (some ⟨g, 0, none⟩) k k, .slice (some ⟨w3.heap.size, 0, none⟩) 1 1]).run Tryz.prog (w3.alloc (tmO t)).drew = .ok v5 w5
  r6 : (Builtin.append_ #[43, 43] 43 #[v5, v3]).run Tryz.prog w5 = .ok (.slice p6 (s.T.length + 1) c6) w6
  b3 : Below w.heap.size w w3
  b6 : Below w.heap.size w w6
  fin : Rf base (w6.setCell ⟨r, 2, none⟩ (.slice p6 (s.T.length + 1) c6)) r { s with T := s.T.take k ++ t :: s.T.drop k } p6 c6 q cq
  fr : FreshR w.heap.size p6
  kl : Kl [r] w (w6.setCell ⟨r, 2, none⟩ (.slice p6 (s.T.length + 1) c6))
theorem put_made {g : Nat} (h : Rf base w r s (some ⟨g, 0, none⟩) cap q cq) (t : Tm) (k : Nat) (hk : k ≤ s.T.length) (hl : s.T.length < 1000) :
    ∃ A v3 w3 v5 w5 p6 c6 w6, Made base w r s g cap q cq t k A v3 w3 v5 w5 p6 c6 w6 := by
  obtain ⟨i0, hi0, hz0, hzs, hzb⟩ := info_parts8 info37
  have hgr : g ∈ rowOf (some (⟨g, 0, none⟩ : Addr)) := own_row (n := 0) (cap := 0).1 rfl
  have hgl := (h.tow.lt hgr).2
  have hrl := h.rlt
  obtain ⟨A, hA, hsrc⟩ := h.tow.cut encT_len k hk
  have z2 : Below w.heap.size w (w.alloc (.cells #[] 37)) := (Below.refl _ _).alloc (Nat.le_refl _) _
  have o2 : (w.alloc (.cells #[] 37)).ownsRow w.heap.size 37 5 (.slice (some ⟨w.heap.size, 0, none⟩) 0 0) 0 [] := World.ownsRow_made w #[] 0 (Nat.le_refl _) (by unfold maxLen; omega) rfl
  obtain ⟨v3, w3, r3, o3, g3', hv3⟩ := run_append_own (P := Tryz.prog) _ w.heap.size 43 43 37 i0 _ 5 48 Tryz.underlying43 hi0 hz0 hzs hzb rfl (by omega) _ 0 [] o2 A (s.T.length - k) (cap - k) (flatW encT (s.T.drop k)) (by rw [flatW_len encT_len, List.length_drop]) (hsrc _ (z2.block g hgl)) (flatW_one encT_one _) (by unfold maxLen; omega) (by omega) z2.size
  rw [Nat.zero_add, List.nil_append] at o3
  have b3 : Below w.heap.size w w3 := z2.grown g3' z2.size (fun k hk => by simp [Value.ownBlock] at hk; omega)
  obtain ⟨c3, g3, rfl⟩ : ∃ c3 g3, v3 = .slice (some ⟨g3, 0, none⟩) (s.T.length - k) c3 := by
    rcases o3.2 with ⟨e, _⟩ | ⟨g3, c3, cur, e, _⟩
    · exact absurd (hv3.1 e).1 (by simp)
    · exact ⟨c3, g3, e⟩
  have hg3 := (World.ownsRow.lt o3 g3 rfl).2
  have z4 : Below w3.heap.size w3 (w3.alloc (tmO t)).drew := ((Below.refl _ _).alloc (Nat.le_refl _) _).drew
  have hgl3 : g < w3.heap.size := Nat.lt_of_lt_of_le hgl b3.size
  obtain ⟨v5, w5, r5, o5, b5⟩ := grow_cut8 (w3.alloc (tmO t)).drew g k (flatW encT (s.T.take k)) (flatW encT [t]) ⟨w3.heap.size, 0, none⟩ (by rw [flatW_len encT_len, List.length_take]; omega) (h.tow.front encT_len k hk _ ((z4.block g hgl3).trans (b3.block g hgl))) rfl (tm_new w3 t) (by omega)
  have hg5 : w5.heap[g3]? = w3.heap[g3]? := (b5.block g3 (Nat.lt_of_lt_of_le hg3 z4.size)).trans (z4.block g3 hg3)
  obtain ⟨v6, w6, r6, o6, g6, -⟩ := run_append_own (P := Tryz.prog) w5 _ 43 43 37 i0 _ 5 48 Tryz.underlying43 hi0 hz0 hzs hzb rfl (by omega) v5 _ _ o5 ⟨g3, 0, none⟩ (s.T.length - k) c3 (flatW encT (s.T.drop k)) (by rw [flatW_len encT_len, List.length_drop]) (fun j u hu => (World.cell?_of_block (w := w3) (a := (⟨g3, 0, none⟩ : Addr).add j) (by rw [Addr.add_lit]; exact hg5)).trans (World.ownsRow.cells o3 (g := g3) rfl j u hu)) (flatW_one encT_one _) (by unfold maxLen; omega) (by omega) b5.size
  have b6 : Below w.heap.size w w6 := by
    have h1 : Below w.heap.size w w5 := (b3.trans (z4.mono b3.size)).trans (b5.mono (Nat.le_trans b3.size z4.size))
    exact h1.grown g6 h1.size (fun k hk => by have := (World.ownsRow.lt o5 k hk).1; have := b3.size; have := z4.size; omega)
  rw [show k + 1 + (s.T.length - k) = s.T.length + 1 by omega] at o6
  obtain ⟨p6, c6, rfl⟩ := own_slice8 o6
  rw [← flatW_app, ← flatW_app] at o6
  have hll : s.T.length + 1 = (s.T.take k ++ t :: s.T.drop k).length := by simp; omega
  have hbb : w.heap.size ≤ (w3.alloc (tmO t)).drew.heap.size := Nat.le_trans b3.size z4.size
  have frs : FreshR w.heap.size p6 := fun g hg => by have := (World.ownsRow.lt o6 g (own_row.2 hg)).1; omega
  rw [List.append_assoc, List.singleton_append] at o6
  have fin := h.setT (T' := s.T.take k ++ t :: s.T.drop k) (b6.block r hrl) (fun g hg => b6.block g (h.kow.lt hg).2) (Ro.low (p := p6) (cap := c6) (l := s.T.take k ++ t :: s.T.drop k) (base := (w3.alloc (tmO t)).drew.heap.size) (b2 := base) (by unfold Ro; rw [← hll]; exact o6) (by have := h.hb; omega) |> fun z => by unfold Ro at z; rw [← hll] at z; exact z) hll (by rw [← hll]; omega)
  exact ⟨A, _, w3, v5, w5, p6, c6, w6, hA, r3, r5, r6, b3, b6, fin, frs, kl_r b6⟩
end
end Go.Proofs.YtiidhcpflplpiaaGreatDoor

/-
  Layer 8: the document's own service: put.
-/
set_option linter.unusedVariables false
namespace Go.Proofs.YtiidhcpflplpiaaGreatDoor
open Go.RowKit Crn Nxt Ste
set_option maxRecDepth 100000
section
variable {base : Nat} {w : World} {r : Nat} {s : St} {p : Option Addr} {cap : Nat} {q : Option Addr} {cq : Nat}
/-- The same where there is no row yet. -/
structure Made0 (base : Nat) (w : World) (r : Nat) (s : St) (q : Option Addr) (cq : Nat) (t : Tm) (v5 : Value) (w5 : World) (p6 : Option Addr) (c6 : Nat) (w6 : World) : Prop where
  r3 : (Builtin.append_ #[43, 43] 43 #[.slice (some ⟨w.heap.size, 0, none⟩) 0 0, .slice none 0 0]).run Tryz.prog (w.alloc (.cells #[] 37)) = .ok (.slice (some ⟨w.heap.size, 0, none⟩) 0 0) (w.alloc (.cells #[] 37))
  r5 : (Builtin.append_ #[43, 43] 43 #[.slice none 0 0, .slice (some ⟨w.heap.size + 1, 0, none⟩) 1 1]).run Tryz.prog ((w.alloc (.cells #[] 37)).alloc (tmO t)).drew = .ok v5 w5
  r6 : (Builtin.append_ #[43, 43] 43 #[v5, .slice (some ⟨w.heap.size, 0, none⟩) 0 0]).run Tryz.prog w5 = .ok (.slice p6 1 c6) w6
  b6 : Below w.heap.size w w6
  fin : Rf base (w6.setCell ⟨r, 2, none⟩ (.slice p6 1 c6)) r { s with T := [t] } p6 c6 q cq
  fr : FreshR w.heap.size p6
  kl : Kl [r] w (w6.setCell ⟨r, 2, none⟩ (.slice p6 1 c6))
theorem put_made0 (h : Rf base w r s none 0 q cq) (t : Tm) (he : s.T = []) : ∃ v5 w5 p6 c6 w6, Made0 base w r s q cq t v5 w5 p6 c6 w6 := by
  obtain ⟨i0, hi0, hz0, hzs, hzb⟩ := info_parts8 info37
  have hrl := h.rlt
  have z2 : Below w.heap.size w (w.alloc (.cells #[] 37)) := (Below.refl _ _).alloc (Nat.le_refl _) _
  have o2 : (w.alloc (.cells #[] 37)).ownsRow w.heap.size 37 5 (.slice (some ⟨w.heap.size, 0, none⟩) 0 0) 0 [] := World.ownsRow_made w #[] 0 (Nat.le_refl _) (by unfold maxLen; omega) rfl
  have r3 := run_append_owned_none (P := Tryz.prog) (w.alloc (.cells #[] 37)) w.heap.size 43 43 37 i0 5 Tryz.underlying43 hi0 _ 0 [] o2
  have hsz : (w.alloc (.cells #[] 37)).heap.size = w.heap.size + 1 := by simp
  generalize hw3 : w.alloc (.cells #[] 37) = w3 at *
  have z4 : Below w3.heap.size w3 (w3.alloc (tmO t)).drew := ((Below.refl _ _).alloc (Nat.le_refl _) _).drew
  obtain ⟨v5, w5, r5, o5, g5, -⟩ := run_append_own (P := Tryz.prog) (w3.alloc (tmO t)).drew (w3.alloc (tmO t)).drew.heap.size 43 43 37 i0 _ 5 48 Tryz.underlying43 hi0 hz0 hzs hzb rfl (by omega) (.slice none 0 0) 0 [] (World.ownsRow_nil _ _ _ _) ⟨w3.heap.size, 0, none⟩ 1 1 (flatW encT [t]) rfl (tm_new w3 t) (flatW_one encT_one _) (by unfold maxLen; omega) (by omega) (Nat.le_refl _)
  rw [Nat.zero_add, List.nil_append] at o5
  have b5 : Below w.heap.size w w5 := (z2.trans (z4.mono z2.size)).grown g5 (Nat.le_trans z2.size z4.size) (fun k hk => by simp [Value.ownBlock] at hk)
  have hb5 : w.heap.size ≤ (w3.alloc (tmO t)).drew.heap.size := Nat.le_trans z2.size z4.size
  obtain ⟨v7, w7, r7, o7, g7, -⟩ := run_append_own (P := Tryz.prog) w5 (w3.alloc (tmO t)).drew.heap.size 43 43 37 i0 _ 5 48 Tryz.underlying43 hi0 hz0 hzs hzb rfl (by omega) _ _ _ o5 ⟨w.heap.size, 0, none⟩ 0 0 [] rfl (fun j u hu => by simp at hu) (fun u hu => by simp at hu) (by unfold maxLen; omega) (by omega) g5.size
  rw [Nat.add_zero, List.append_nil] at o7
  obtain ⟨p6, c6, rfl⟩ := own_slice8 o7
  have b6 : Below w.heap.size w w7 := b5.grown g7 b5.size (fun k hk => by have := (World.ownsRow.lt o5 k hk).1; omega)
  have frs : FreshR w.heap.size p6 := fun g hg => by have := (World.ownsRow.lt o7 g (own_row.2 hg)).1; omega
  have fin := h.setT (T' := [t]) (b6.block r hrl) (fun g hg => b6.block g (h.kow.lt hg).2) (Ro.low (p := p6) (cap := c6) (l := [t]) (base := (w3.alloc (tmO t)).drew.heap.size) (b2 := base) o7 (by have := h.hb; omega)) rfl (by simp)
  rw [hsz] at r5
  exact ⟨v5, w5, p6, c6, w7, by rw [hw3]; exact r3, by rw [hw3]; exact r5, r7, b6, fin, frs, kl_r b6⟩
theorem put_one {t : Tm} : put t [] = [t] := rfl

set_option maxHeartbeats 16000000 in
theorem rput_any (h : Rf base w r s p cap q cq) (t : Tm) (hup : Up s.T) (hn : ∀ u ∈ s.T, u.id ≠ t.id) (hl : s.T.length < 1000) :
    Calls Tryz.prog 37 #[.pointer (some ⟨r, 0, none⟩), tmV t] w fun e w' => e = .returned (.tuple #[]) ∧ (∃ p' cap', Rf base w' r { s with T := put t s.T } p' cap' q cq ∧ FreshR w.heap.size p') ∧ Kl [r] w w' := by
  have k1 := Lib.hid ((Below.refl w.heap.size w).alloc (Nat.le_refl _) (tmO t))
  have hbx := Go.heap_alloc_new w (tmO t)
  have hb1 : Hid (Below (w.alloc (tmO t)).heap.size (w.alloc (tmO t)) (w.alloc (tmO t))) := Below.refl _ _
  have hbl : w.heap.size < (w.alloc (tmO t)).heap.size := by simp
  replace h := Lib.hid h
  replace hup := Lib.hid hup
  replace hn := Lib.hid hn
  have hl2 : (s.T.length : Int) ≤ 1000 := by omega
  obtain ⟨tid, tc, tg, td, tcr⟩ := t
  simp only [tmV, tmO] at *
  go_enter Tryz.func37, Tryz.ntmps37
  go_wp2_with fail
  generalize hw1 : w.alloc (.cells #[.int .i64 tid, .int .i64 tc, .int .i64 tg, .int .i64 td, .string tcr] 37) = w1 at *
  go_loopw [4] (fun v wr => ∃ k : Nat, v = .int .i64 k ∧ (k : Int) ≤ s.T.length ∧ Hid (∀ j (hj : j < s.T.length), j < k → s.T[j].id < tid) ∧ Hid (Below w1.heap.size w1 wr)) (fun v _ => ((s.T.length : Int) - intOf v).toNat)
  case atStart => exact ⟨0, rfl, by omega, fun j hj h => by omega, hb1⟩
  case round =>
    obtain ⟨k, rfl, hk, hlo, hb⟩ := hrel
    have hB := Lib.hid (k1.out.trans (hb.out.mono k1.out.size))
    have hR := Lib.hid (h.out.below hB.out)
    have c2 := hR.out.c2
    have hbo := (hb.out.block w.heap.size hbl).trans hbx
    have x0 := cell_in hbo 0
    have x1 := cell_in hbo 1
    have x2 := cell_in hbo 2
    have x3 := cell_in hbo 3
    have x4 := cell_in hbo 4
    clear hb1
    by_cases hlt : (k : Int) < s.T.length
    · obtain ⟨g, rfl, hg, y0, y1, y2, y3, y4⟩ := hR.out.at k (by omega)
      have hk0 : (0 : Int) ≤ (k : Int) := by omega
      have hd1 : decide (k < s.T.length) = true := by simp; omega
      have hne : Hid ((s.T[k]'(by omega)).id ≠ tid) := hn.out _ (List.getElem_mem _)
      have hlo2 : Hid ((s.T[k]'(by omega)).id < tid → ∀ j (hj : j < s.T.length), j < k + 1 → s.T[j].id < tid) := fun e j hj h => by
        by_cases e2 : j = k
        · subst e2; exact e
        · exact hlo.out j hj (by omega)
      have hpl : Hid (¬ (s.T[k]'(by omega)).id < tid → s.T.take k ++ (⟨tid, tc, tg, td, tcr⟩ : Tm) :: s.T.drop k = put ⟨tid, tc, tg, td, tcr⟩ s.T) := fun e => put_at hup.out (by omega) (fun j hj => hlo.out j (by omega) hj) (fun hj => by
        have := hne.out
        show tid < (s.T[k]'(by omega)).id
        omega)
      generalize (s.T[k]'(by omega)).id = t0 at *
      by_cases hc : t0 < tid
      · have hlo3 := Lib.hid (hlo2.out hc)
        have hcd : decide (t0 < tid) = true := by simpa using hc
        clear hlo2 hpl
        go_wp2_with fail
        go_quiet (fail)
        go_wp2_with fail
        exact ⟨⟨k + 1, by go_num, by omega, hlo3, below_dN hb.out nq⟩, by simp [intOf]; omega⟩
      · have hpl2 := Lib.hid (hpl.out hc)
        have hcd : decide (t0 < tid) = false := by simpa using hc
        clear hlo2 hpl
        go_wp2_with fail
        go_quiet (fail)
        have hBq := Lib.hid (k1.out.trans ((below_dN hb.out nq).mono k1.out.size))
        have hRq := Lib.hid (h.out.below hBq.out)
        have hboq : (wr.drewN nq).heap[w.heap.size]? = _ := (below_dN hb.out nq).block w.heap.size hbl |>.trans hbx
        clear c2 hB hR hbo x0 x1 x2 x3 x4 hb y0 y1 y2 y3 y4
        generalize wr.drewN nq = w2 at *
        have c2 := hRq.out.c2
        have hrl := hRq.out.rlt
        have hbxl : w.heap.size < w2.heap.size := lt_in hboq
        obtain ⟨A, v3, w3, v5, w5, p6, c6, w6, M⟩ := put_made hRq.out ⟨tid, tc, tg, td, tcr⟩ k (by omega) hl
        obtain ⟨hcm1, hcm2⟩ : s.T.length ≤ cap ∧ cap ≤ maxLen := by
          rcases hRq.out.tow.form with ⟨e, _⟩ | ⟨g', _, _, h1, h2⟩
          · cases e
          · exact ⟨h1, h2⟩
        have r3 := Lib.hid M.r3
        have r5 := Lib.hid M.r5
        have r6 := Lib.hid M.r6
        have hA := M.at_
        have z2 : Below w2.heap.size w2 (w2.alloc (.cells #[] 37)) := (Below.refl _ _).alloc (Nat.le_refl _) _
        have c2a := (z2.cell (p := ⟨r, 2, none⟩) hrl).trans c2
        have c2b := (M.b3.cell (p := ⟨r, 2, none⟩) hrl).trans c2
        have c2c := (M.b6.cell (p := ⟨r, 2, none⟩) hrl).trans c2
        have f2c : w6.frozen? ⟨r, 2, none⟩ = false := (World.frozen?_of_block (w := w2) (M.b6.block r hrl)).trans (hRq.out.fz 2)
        have hbo3 := (M.b3.block _ hbxl).trans hboq
        have x0 := cell_in hbo3 0
        have x1 := cell_in hbo3 1
        have x2 := cell_in hbo3 2
        have x3 := cell_in hbo3 3
        have x4 := cell_in hbo3 4
        have zA : Below w3.heap.size w3 (w3.alloc (.cells #[.int .i64 tid, .int .i64 tc, .int .i64 tg, .int .i64 td, .string tcr] 37)) := (Below.refl _ _).alloc (Nat.le_refl _) _
        have c2d := (zA.cell (p := ⟨r, 2, none⟩) (Nat.lt_of_lt_of_le hrl M.b3.size)).trans c2b
        have fin := Lib.hid M.fin
        have fr : Hid (FreshR w.heap.size p6) := fun g hg => Nat.le_trans hBq.out.size (M.fr g hg)
        have kl : Hid (Kl [r] w (w6.setCell ⟨r, 2, none⟩ (.slice p6 (s.T.length + 1) c6))) := (Kl.ofBelow hBq.out).trans M.kl
        have hq1 : (0 : Int) ≤ (k : Int) := by omega
        have hq2 : (k : Int) ≤ (s.T.length : Int) := by omega
        have hq3 : (s.T.length : Int) ≤ (cap : Int) := by omega
        have hq4 : (cap : Int) ≤ 9223372036854775807 := by unfold maxLen at hcm2; omega
        have hq5 : k ≤ cap := by omega
        clear M z2 zA hcm2 hRq hboq hbo3 h hBq k1 hbx hup hn
        have hAe : A = ⟨g, k * 5, none⟩ := by rw [if_neg (by omega)] at hA; exact (Option.some.inj hA).symm
        subst hAe
        go_wp2_with (at_builtin; refine wpList_append_ati rfl _ _ 43 43 rfl _ _ rfl rfl r3.out ?_; clear r3)
        go_region_law (first | (refine step_append_at (by rfl) _ _ 43 43 (by rfl) _ _ (by rfl) (by rfl) r5.out ?_) | (refine step_append_at (by rfl) _ _ 43 43 (by rfl) _ _ (by rfl) (by rfl) r6.out ?_))
        all_goals
          clear r5 r6 c2 c2a c2b c2c c2d f2c x0 x1 x2 x3 x4
          go_wp2_with fail
          first | go_end0 | (simp only [Exit.inBlock, Exit.then]; refine bodyPost_ret (results_none rfl _ _ _) rfl ?_)
          exact ⟨rfl, ⟨p6, c6, by rw [← hpl2.out]; exact fin.out, fr.out⟩, kl.out⟩
    · have hpl2 : Hid (s.T.take k ++ (⟨tid, tc, tg, td, tcr⟩ : Tm) :: s.T.drop k = put ⟨tid, tc, tg, td, tcr⟩ s.T) := put_at hup.out (by omega) (fun j hj => hlo.out j (by omega) hj) (fun hj => by omega)
      have hkn : k = s.T.length := by omega
      have hd1 : decide (k < s.T.length) = false := by simp; omega
      replace hkn := Lib.hid hkn
      go_wp2_with fail
      go_quiet (fail)
      rcases h.out.tow.form with ⟨hp1, hp2, hp3⟩ | ⟨g, hp1, _⟩
      · subst hp1
        subst hp2
        have hk0 : k = 0 := by have h1 := hkn.out; rw [hp3] at h1; simpa using h1
        subst hk0
        have hBq := Lib.hid (k1.out.trans ((below_dN hb.out nq).mono k1.out.size))
        have hRq := Lib.hid (h.out.below hBq.out)
        have hboq : (wr.drewN nq).heap[w.heap.size]? = _ := (below_dN hb.out nq).block w.heap.size hbl |>.trans hbx
        clear c2 hB hR hbo x0 x1 x2 x3 x4 hb hd1
        generalize wr.drewN nq = w2 at *
        have c2 := hRq.out.c2
        have hrl := hRq.out.rlt
        have hbxl : w.heap.size < w2.heap.size := lt_in hboq
        obtain ⟨v5, w5, p6, c6, w6, M⟩ := put_made0 hRq.out ⟨tid, tc, tg, td, tcr⟩ hp3
        have r3 := Lib.hid M.r3
        have r5 := Lib.hid M.r5
        have r6 := Lib.hid M.r6
        have hl0 : s.T.length = 0 := by rw [hp3]; rfl
        rw [hl0] at c2
        have z2 : Below w2.heap.size w2 (w2.alloc (.cells #[] 37)) := (Below.refl _ _).alloc (Nat.le_refl _) _
        have c2a := (z2.cell (p := ⟨r, 2, none⟩) hrl).trans c2
        have zA : Below (w2.alloc (.cells #[] 37)).heap.size (w2.alloc (.cells #[] 37)) ((w2.alloc (.cells #[] 37)).alloc (.cells #[.int .i64 tid, .int .i64 tc, .int .i64 tg, .int .i64 td, .string tcr] 37)) := (Below.refl _ _).alloc (Nat.le_refl _) _
        have c2d := (zA.cell (p := ⟨r, 2, none⟩) (Nat.lt_of_lt_of_le hrl z2.size)).trans c2a
        have c2c := (M.b6.cell (p := ⟨r, 2, none⟩) hrl).trans c2
        have f2c : w6.frozen? ⟨r, 2, none⟩ = false := (World.frozen?_of_block (w := w2) (M.b6.block r hrl)).trans (hRq.out.fz 2)
        have hbo3 := (z2.block _ hbxl).trans hboq
        have x0 := cell_in hbo3 0
        have x1 := cell_in hbo3 1
        have x2 := cell_in hbo3 2
        have x3 := cell_in hbo3 3
        have x4 := cell_in hbo3 4
        have fin := Lib.hid M.fin
        have fr : Hid (FreshR w.heap.size p6) := fun g hg => Nat.le_trans hBq.out.size (M.fr g hg)
        have kl : Hid (Kl [r] w (w6.setCell ⟨r, 2, none⟩ (.slice p6 1 c6))) := (Kl.ofBelow hBq.out).trans M.kl
        have hpl3 : Hid ([(⟨tid, tc, tg, td, tcr⟩ : Tm)] = put ⟨tid, tc, tg, td, tcr⟩ s.T) := by show _ = _; rw [hp3]; rfl
        clear M z2 zA hRq hboq hbo3 h hBq k1 hbx hup hn hpl2 hlo hkn hlt hl hl2 hk hl0 hp3
        go_wp2_with (at_builtin; refine wpList_append_ati rfl _ _ 43 43 rfl _ _ rfl rfl r3.out ?_; clear r3)
        go_region_law (first | (refine step_append_at (by rfl) _ _ 43 43 (by rfl) _ _ (by rfl) (by rfl) r5.out ?_) | (refine step_append_at (by rfl) _ _ 43 43 (by rfl) _ _ (by rfl) (by rfl) r6.out ?_))
        all_goals
          clear r5 r6 c2 c2a c2c c2d f2c x0 x1 x2 x3 x4
          go_wp2_with fail
          first | go_end0 | (simp only [Exit.inBlock, Exit.then]; refine bodyPost_ret (results_none rfl _ _ _) rfl ?_)
          exact ⟨rfl, ⟨p6, c6, by rw [← hpl3.out]; exact fin.out, fr.out⟩, kl.out⟩
      · subst hp1
        have hBq := Lib.hid (k1.out.trans ((below_dN hb.out nq).mono k1.out.size))
        have hRq := Lib.hid (h.out.below hBq.out)
        have hboq : (wr.drewN nq).heap[w.heap.size]? = _ := (below_dN hb.out nq).block w.heap.size hbl |>.trans hbx
        clear c2 hB hR hbo x0 x1 x2 x3 x4 hb hd1
        generalize wr.drewN nq = w2 at *
        have c2 := hRq.out.c2
        have hrl := hRq.out.rlt
        have hbxl : w.heap.size < w2.heap.size := lt_in hboq
        obtain ⟨A, v3, w3, v5, w5, p6, c6, w6, M⟩ := put_made hRq.out ⟨tid, tc, tg, td, tcr⟩ k (by omega) hl
        obtain ⟨hcm1, hcm2⟩ : s.T.length ≤ cap ∧ cap ≤ maxLen := by
          rcases hRq.out.tow.form with ⟨e, _⟩ | ⟨g', _, _, h1, h2⟩
          · cases e
          · exact ⟨h1, h2⟩
        have r3 := Lib.hid M.r3
        have r5 := Lib.hid M.r5
        have r6 := Lib.hid M.r6
        have hA := M.at_
        have z2 : Below w2.heap.size w2 (w2.alloc (.cells #[] 37)) := (Below.refl _ _).alloc (Nat.le_refl _) _
        have c2a := (z2.cell (p := ⟨r, 2, none⟩) hrl).trans c2
        have c2b := (M.b3.cell (p := ⟨r, 2, none⟩) hrl).trans c2
        have c2c := (M.b6.cell (p := ⟨r, 2, none⟩) hrl).trans c2
        have f2c : w6.frozen? ⟨r, 2, none⟩ = false := (World.frozen?_of_block (w := w2) (M.b6.block r hrl)).trans (hRq.out.fz 2)
        have hbo3 := (M.b3.block _ hbxl).trans hboq
        have x0 := cell_in hbo3 0
        have x1 := cell_in hbo3 1
        have x2 := cell_in hbo3 2
        have x3 := cell_in hbo3 3
        have x4 := cell_in hbo3 4
        have zA : Below w3.heap.size w3 (w3.alloc (.cells #[.int .i64 tid, .int .i64 tc, .int .i64 tg, .int .i64 td, .string tcr] 37)) := (Below.refl _ _).alloc (Nat.le_refl _) _
        have c2d := (zA.cell (p := ⟨r, 2, none⟩) (Nat.lt_of_lt_of_le hrl M.b3.size)).trans c2b
        have fin := Lib.hid M.fin
        have fr : Hid (FreshR w.heap.size p6) := fun g hg => Nat.le_trans hBq.out.size (M.fr g hg)
        have kl : Hid (Kl [r] w (w6.setCell ⟨r, 2, none⟩ (.slice p6 (s.T.length + 1) c6))) := (Kl.ofBelow hBq.out).trans M.kl
        have hq1 : (0 : Int) ≤ (k : Int) := by omega
        have hq2 : (k : Int) ≤ (s.T.length : Int) := by omega
        have hq3 : (s.T.length : Int) ≤ (cap : Int) := by omega
        have hq4 : (cap : Int) ≤ 9223372036854775807 := by unfold maxLen at hcm2; omega
        have hq5 : k ≤ cap := by omega
        clear M z2 zA hcm2 hRq hboq hbo3 h hBq k1 hbx hup hn
        go_wp2_with (at_builtin; refine wpList_append_ati rfl _ _ 43 43 rfl _ _ rfl rfl r3.out ?_; clear r3)
        go_region_law (first | (refine step_append_at (by rfl) _ _ 43 43 (by rfl) _ _ (by rfl) (by rfl) r5.out ?_) | (refine step_append_at (by rfl) _ _ 43 43 (by rfl) _ _ (by rfl) (by rfl) r6.out ?_))
        all_goals
          clear r5 r6 c2 c2a c2b c2c c2d f2c x0 x1 x2 x3 x4
          go_wp2_with fail
          first | go_end0 | (simp only [Exit.inBlock, Exit.then]; refine bodyPost_ret (results_none rfl _ _ _) rfl ?_)
          exact ⟨rfl, ⟨p6, c6, by rw [← hpl2.out]; exact fin.out, fr.out⟩, kl.out⟩
end
end Go.Proofs.YtiidhcpflplpiaaGreatDoor

/-
  Layer 8: the document's own service: Get, after, Fires.
-/
set_option linter.unusedVariables false
namespace Go.Proofs.YtiidhcpflplpiaaGreatDoor
open Go.RowKit Crn Nxt Ste
set_option maxRecDepth 100000

theorem after_is (s : ByteArray) (sec : Int) : afterN s sec = ((parse s.data.toList).bind fun x => nextN x sec).getD 0 := by
  unfold afterN
  cases parse s.data.toList with
  | none => rfl
  | some x => rfl
set_option maxHeartbeats 2000000 in
/-- The first time of a text behind a second, of a text that is one. -/
theorem rafter_any (str : ByteArray) (sec : Int) (hs : str.size ≤ 400) (h1 : i64 sec) (hb : badB str = false) (w : World) :
    Calls Tryz.prog 36 #[.string str, .int .i64 sec] w fun e w' => e = .returned (.int .i64 (afterN str sec)) ∧ Below w.heap.size w w' := by
  obtain ⟨x, hpx⟩ : ∃ x, parse str.data.toList = some x := by
    unfold badB at hb
    cases hp : parse str.data.toList with
    | none => rw [hp] at hb; cases hb
    | some x => exact ⟨x, rfl⟩
  have hfx := right_fits (parse_right hpx)
  have hA : afterN str sec = (nextN x sec).getD 0 := by rw [after_is, hpx]; rfl
  have cP := fun W => refParse_any str W (by omega)
  rw [hpx] at cP
  simp only [answerP, Option.getD_some, Option.isSome_some, specV, cellsN] at cP
  have cX := fun W => refNext_any x hfx sec h1.1 h1.2 W
  simp only [specV, cellsN, answerX] at cX
  replace cP := Lib.hid cP
  replace cX := Lib.hid cX
  rw [hA]
  clear hA hfx hb hpx hs h1
  generalize nextN x sec = r at *
  go_enter Tryz.func36, Tryz.ntmps36
  go_wp2_with fail
  refine (cP.out _).mono ?_
  rintro e w1 ⟨rfl, k1⟩
  have k2 := Lib.hid (k1.alloc k1.size (.cells #[.int .u64 (x.min : Nat), .int .u64 (x.hour : Nat), .int .u64 (x.dom : Nat), .int .u64 (x.mon : Nat), .int .u64 (x.dow : Nat), .bool x.anyDom, .bool x.anyDow, .int .i64 x.ahead] 64))
  clear k1 cP
  go_wp2_with fail
  refine (cX.out _).mono ?_
  rintro e w3 ⟨rfl, k3⟩
  have k4 := Lib.hid (k2.out.trans (k3.mono k2.out.size))
  clear k2 k3 cX
  cases r with
  | none =>
    simp only [Option.getD_none, Option.isSome_none]
    go_wp2_with fail
    go_ret
    exact ⟨rfl, k4.out⟩
  | some t =>
    simp only [Option.getD_some, Option.isSome_some]
    go_wp2_with fail
    go_ret
    exact ⟨rfl, k4.out⟩
section
variable {base : Nat} {w : World} {r : Nat} {s : St} {p : Option Addr} {cap : Nat} {q : Option Addr} {cq : Nat}
theorem place_val {id : Int} {T : List Tm} (h : plT id T < T.length) : valT T id = T[plT id T] ∧ hasT T id = true := by
  unfold valT hasT
  rw [plT_find, List.getElem?_eq_getElem h]
  exact ⟨rfl, rfl⟩
theorem place_none {id : Int} {T : List Tm} (h : ¬ plT id T < T.length) : valT T id = zTm ∧ hasT T id = false := by
  unfold valT hasT
  rw [plT_find, List.getElem?_eq_none (by omega)]
  exact ⟨rfl, rfl⟩
set_option maxHeartbeats 2000000 in
theorem rget_any (h : Rf base w r s p cap q cq) (id : Int) : Calls Tryz.prog 18 #[.pointer (some ⟨r, 0, none⟩), .int .i64 id] w fun e w' => e = .returned (.tuple #[tmV (valT s.T id), .int .i64 (getE s.T id)]) ∧ Below w.heap.size w w' := by
  have k1 := Lib.hid ((Below.refl w.heap.size w).alloc (Nat.le_refl _) zCells)
  have hR := Lib.hid (h.below k1.out)
  have cf := Lib.hid (rfind_any hR.out id)
  have hlen := h.lt
  have c2 := hR.out.c2
  by_cases hp : plT id s.T < s.T.length
  · obtain ⟨v1, v2⟩ := place_val hp
    have hge : getE s.T id = 0 := by unfold getE; rw [v2]; rfl
    obtain ⟨g, rfl, hg, y0, y1, y2, y3, y4⟩ := hR.out.at (plT id s.T) hp
    have hat : atN (plT id s.T) s.T.length = ((plT id s.T : Nat) : Int) := by unfold atN; rw [if_pos hp]
    rw [hat] at cf
    rw [v1, hge]
    generalize s.T[plT id s.T] = t at *
    generalize plT id s.T = k at *
    have hk0 : (0 : Int) ≤ (k : Int) := by omega
    have hk1 : (k : Int) < (s.T.length : Int) := by omega
    have hd : decide ((k : Int) < 0) = false := by simp
    clear v1 v2 hge hat h
    go_enter Tryz.func18, Tryz.ntmps18
    go_wp2_with fail
    refine cf.out.mono ?_
    rintro e w2 ⟨rfl, rfl⟩
    clear cf
    go_wp2_with fail
    refine bodyPost_ret (v := .tuple #[tmV t, .int .i64 0]) ?_ rfl ?_
    · rw [results_cell_tmp rfl]
      go_simp
      try exact ⟨rfl, rfl, rfl, rfl, rfl⟩
    · exact ⟨rfl, (Below.refl _ _).alloc (Nat.le_refl _) _⟩
  · obtain ⟨v1, v2⟩ := place_none hp
    have hge : getE s.T id = 6 := by unfold getE; rw [v2]; rfl
    have hat : atN (plT id s.T) s.T.length = -1 := by unfold atN; rw [if_neg hp]
    rw [hat] at cf
    rw [v1, hge]
    clear v1 v2 hge hat h hp
    unfold zTm at *
    go_enter Tryz.func18, Tryz.ntmps18
    go_wp2_with fail
    refine cf.out.mono ?_
    rintro e w2 ⟨rfl, rfl⟩
    clear cf
    go_wp2_with fail
    refine bodyPost_ret (v := .tuple #[tmV zTm, .int .i64 6]) ?_ rfl ?_
    · rw [results_cell_tmp rfl]
      go_simp
      try exact ⟨rfl, rfl, rfl, rfl, rfl⟩
    · exact ⟨rfl, (Below.refl _ _).alloc (Nat.le_refl _) _⟩
end
end Go.Proofs.YtiidhcpflplpiaaGreatDoor

/-
  Layer 8: the document's own service: Fires.
-/
set_option linter.unusedVariables false
namespace Go.Proofs.YtiidhcpflplpiaaGreatDoor
open Go.RowKit Crn Nxt Ste
set_option maxRecDepth 100000
section
variable {base : Nat} {w : World} {r : Nat} {s : St} {p : Option Addr} {cap : Nat} {q : Option Addr} {cq : Nat}
set_option maxHeartbeats 4000000 in
theorem rfires_any (h : Rf base w r s p cap q cq) (o : OpN) : Calls Tryz.prog 14 #[.pointer (some ⟨r, 0, none⟩), opV o] w fun e w' => e = .returned (.bool (firesB s o)) ∧ Below w.heap.size w w' := by
  have k1 := Lib.hid ((Below.refl w.heap.size w).alloc (Nat.le_refl _) (opO o))
  have hR := Lib.hid (h.below k1.out)
  have cf := Lib.hid (rfind_any hR.out o.id)
  obtain ⟨z0, z1, z2, z3, z4, z5, z6, z7, z8, z9⟩ := op_cells (Go.heap_alloc_new w (opO o))
  have c2 := hR.out.c2
  have hlen : (s.T.length : Int) ≤ 1000 := by have := h.lt; omega
  clear h
  by_cases hk : o.kind = 3
  · have hf := fires_is (s := s) hk
    rw [hk] at z0
    by_cases hp : plT o.id s.T < s.T.length
    · obtain ⟨v1, v2⟩ := place_val hp
      rw [v1, v2] at hf
      obtain ⟨g, rfl, hg, y0, y1, y2, y3, y4⟩ := hR.out.at (plT o.id s.T) hp
      have hat : atN (plT o.id s.T) s.T.length = ((plT o.id s.T : Nat) : Int) := by unfold atN; rw [if_pos hp]
      rw [hat] at cf
      generalize s.T[plT o.id s.T] = t at *
      generalize plT o.id s.T = k at *
      have hk0 : (0 : Int) ≤ (k : Int) := by omega
      have hk1 : (k : Int) < (s.T.length : Int) := by omega
      have hd0 : decide ((0 : Int) ≤ (k : Int)) = true := by simp
      have hd1 : decide (k < s.T.length) = true := by simp; omega
      clear v1 v2 hat
      replace hk := Lib.hid hk
      simp only [Bool.true_and] at hf
      generalize firesB s o = fb at *
      obtain ⟨okind, oclient, oreq, oid, ogen, oocc, odue, ostamp, oepoch, ocron⟩ := o
      obtain ⟨tid, tc, tg, td, tcr⟩ := t
      simp only [opV, opC, opO] at *
      by_cases b1 : tg = ogen
      · subst b1
        by_cases b2 : td = oocc
        · subst b2
          by_cases b3 : 0 < td
          · have e3 : decide (0 < td) = true := by simpa using b3
            by_cases b4 : td ≤ ostamp
            · have e4 : decide (td ≤ ostamp) = true := by simpa using b4
              obtain rfl : fb = true := by rw [hf, e3, e4]; simp
              clear hf
              go_enter Tryz.func14, Tryz.ntmps14
              go_wp2_with fail
              refine cf.out.mono ?_
              rintro e w2 ⟨rfl, rfl⟩
              clear cf
              go_wp2_with fail
              go_quiet (fail)
              go_wp2_with fail
              go_ret
              exact ⟨rfl, below_dN k1.out nq⟩
            · have e4 : decide (td ≤ ostamp) = false := by simpa using b4
              obtain rfl : fb = false := by rw [hf, e3, e4]; simp
              clear hf
              go_enter Tryz.func14, Tryz.ntmps14
              go_wp2_with fail
              refine cf.out.mono ?_
              rintro e w2 ⟨rfl, rfl⟩
              clear cf
              go_wp2_with fail
              go_quiet (fail)
              go_wp2_with fail
              go_ret
              exact ⟨rfl, below_dN k1.out nq⟩
          · have e3 : decide (0 < td) = false := by simpa using b3
            obtain rfl : fb = false := by rw [hf, e3]; simp
            clear hf
            go_enter Tryz.func14, Tryz.ntmps14
            go_wp2_with fail
            refine cf.out.mono ?_
            rintro e w2 ⟨rfl, rfl⟩
            clear cf
            go_wp2_with fail
            go_quiet (fail)
            go_wp2_with fail
            go_ret
            exact ⟨rfl, below_dN k1.out nq⟩
        · have e2 : (td == oocc) = false := by simpa using b2
          obtain rfl : fb = false := by rw [hf]; simp [b2]
          clear hf
          replace b2 := Lib.hid b2
          go_enter Tryz.func14, Tryz.ntmps14
          go_wp2_with fail
          refine cf.out.mono ?_
          rintro e w2 ⟨rfl, rfl⟩
          clear cf
          go_wp2_with fail
          go_quiet (fail)
          go_wp2_with fail
          go_ret
          exact ⟨rfl, below_dN k1.out nq⟩
      · have e1 : (tg == ogen) = false := by simpa using b1
        obtain rfl : fb = false := by rw [hf]; simp [b1]
        clear hf
        replace b1 := Lib.hid b1
        go_enter Tryz.func14, Tryz.ntmps14
        go_wp2_with fail
        refine cf.out.mono ?_
        rintro e w2 ⟨rfl, rfl⟩
        clear cf
        go_wp2_with fail
        go_quiet (fail)
        go_wp2_with fail
        go_ret
        exact ⟨rfl, below_dN k1.out nq⟩
    · obtain ⟨v1, v2⟩ := place_none hp
      have hat : atN (plT o.id s.T) s.T.length = -1 := by unfold atN; rw [if_neg hp]
      rw [hat] at cf
      obtain hfb : firesB s o = false := by rw [hf, v2]; rfl
      rw [hfb]
      clear hf v1 v2 hat hp hfb
      replace hk := Lib.hid hk
      obtain ⟨okind, oclient, oreq, oid, ogen, oocc, odue, ostamp, oepoch, ocron⟩ := o
      simp only [opV, opC, opO] at *
      go_enter Tryz.func14, Tryz.ntmps14
      go_wp2_with fail
      refine cf.out.mono ?_
      rintro e w2 ⟨rfl, rfl⟩
      clear cf
      go_wp2_with fail
      go_quiet (fail)
      go_wp2_with fail
      go_ret
      exact ⟨rfl, below_dN k1.out nq⟩
  · have hfb := fires_kind (s := s) hk
    have e0 : (o.kind == 3) = false := by simpa using hk
    rw [hfb]
    clear hfb
    replace hk := Lib.hid hk
    generalize atN (plT o.id s.T) s.T.length = z at *
    obtain ⟨okind, oclient, oreq, oid, ogen, oocc, odue, ostamp, oepoch, ocron⟩ := o
    simp only [opV, opC, opO] at *
    go_enter Tryz.func14, Tryz.ntmps14
    go_wp2_with fail
    refine cf.out.mono ?_
    rintro e w2 ⟨rfl, rfl⟩
    clear cf
    go_wp2_with fail
    go_quiet (fail)
    go_wp2_with fail
    go_ret
    exact ⟨rfl, below_dN k1.out nq⟩
end
end Go.Proofs.YtiidhcpflplpiaaGreatDoor

/-
  Layer 8: the document's own service: set, where it is refused.
-/
set_option linter.unusedVariables false
namespace Go.Proofs.YtiidhcpflplpiaaGreatDoor
open Go.RowKit Crn Nxt Ste
set_option maxRecDepth 100000
/-- What is said behind a call of the document's service. -/
structure Rg (base : Nat) (w : World) (r : Nat) (p q : Option Addr) (w' : World) (s' : St) : Prop where
  ex : ∃ p' cap' q' cq', Rf base w' r s' p' cap' q' cq' ∧ (∀ g, g ∈ rowOf p' → g ∈ rowOf p ∨ w.heap.size ≤ g) ∧ ∀ g, g ∈ rowOf q' → g ∈ rowOf q ∨ w.heap.size ≤ g
  kl : Kl [r] w w'
section
variable {base : Nat} {w : World} {r : Nat} {s : St} {p : Option Addr} {cap : Nat} {q : Option Addr} {cq : Nat}
theorem Rg.same {w' : World} (h : Rf base w r s p cap q cq) (k : Below w.heap.size w w') : Rg base w r p q w' s := ⟨⟨p, cap, q, cq, h.below k, fun _ hg => .inl hg, fun _ hg => .inl hg⟩, Kl.ofBelow k⟩
theorem bad_set {s : St} {o : OpN} (h : settableB o = false) : (setN s o) = (s, ⟨1, 0, 0⟩) := by unfold setN; rw [if_pos h]
set_option maxHeartbeats 4000000 in
theorem rset_bad (h : Rf base w r s p cap q cq) (o : OpN) (hb : settableB o = false) : Calls Tryz.prog 34 #[.pointer (some ⟨r, 0, none⟩), opV o] w fun e w' => e = .returned (rpV (setN s o).2) ∧ Rg base w r p q w' (setN s o).1 := by
  rw [bad_set hb]
  have k1 := Lib.hid (((Below.refl w.heap.size w).alloc (Nat.le_refl _) (opO o)).alloc (by simp) (.cells #[.int .i64 1, .int .i64 0, .int .i64 0] 34))
  have fin : Hid (Rg base w r p q ((w.alloc (opO o)).alloc (.cells #[.int .i64 1, .int .i64 0, .int .i64 0] 34)) s) := Rg.same h k1.out
  clear h k1
  unfold settableB at hb
  obtain ⟨okind, oclient, oreq, oid, ogen, oocc, odue, ostamp, oepoch, ocron⟩ := o
  simp only [opV, opC, opO] at *
  have cases5 : oid < 0 ∨ (0 ≤ oid ∧ 1000 < oid) ∨ (0 ≤ oid ∧ oid ≤ 1000 ∧ odue < 0) ∨ (0 ≤ oid ∧ oid ≤ 1000 ∧ 0 ≤ odue ∧ 1099511627776 < odue) ∨ (0 ≤ oid ∧ oid ≤ 1000 ∧ 0 ≤ odue ∧ odue ≤ 1099511627776 ∧ ¬ ocron.size = 0 ∧ odue ≠ 0) := by
    by_cases hz : ocron.size = 0
    · simp only [hz, if_true, Bool.and_eq_false_iff, decide_eq_false_iff_not] at hb
      omega
    · simp only [hz, if_false, Bool.and_eq_false_iff, decide_eq_false_iff_not] at hb
      omega
  clear hb
  rcases cases5 with h1 | ⟨h1, h2⟩ | ⟨h1, h2, h3⟩ | ⟨h1, h2, h3, h4⟩ | ⟨h1, h2, h3, h4, h5, h6⟩
  · go_enter Tryz.func34, Tryz.ntmps34
    go_wp2_with fail
    refine bodyPost_ret (v := rpV ⟨1, 0, 0⟩) ?_ rfl ?_
    · rw [results_cellA rfl]
      go_simp
    · exact ⟨rfl, fin.out⟩
  · have e1 : decide (oid < 0) = false := by simp; omega
    have e2 : decide (1000 < oid) = true := by simp; omega
    go_enter Tryz.func34, Tryz.ntmps34
    go_wp2_with fail
    refine bodyPost_ret (v := rpV ⟨1, 0, 0⟩) ?_ rfl ?_
    · rw [results_cellA rfl]
      go_simp
    · exact ⟨rfl, fin.out⟩
  · have e1 : decide (oid < 0) = false := by simp; omega
    have e2 : decide (1000 < oid) = false := by simp; omega
    have e3 : decide (odue < 0) = true := by simp; omega
    go_enter Tryz.func34, Tryz.ntmps34
    go_wp2_with fail
    refine bodyPost_ret (v := rpV ⟨1, 0, 0⟩) ?_ rfl ?_
    · rw [results_cellA rfl]
      go_simp
    · exact ⟨rfl, fin.out⟩
  · have e1 : decide (oid < 0) = false := by simp; omega
    have e2 : decide (1000 < oid) = false := by simp; omega
    have e3 : decide (odue < 0) = false := by simp; omega
    have e4 : decide (1099511627776 < odue) = true := by simp; omega
    replace h4 := Lib.hid h4
    go_enter Tryz.func34, Tryz.ntmps34
    go_wp2_with fail
    refine bodyPost_ret (v := rpV ⟨1, 0, 0⟩) ?_ rfl ?_
    · rw [results_cellA rfl]
      go_simp
    · exact ⟨rfl, fin.out⟩
  · have e1 : decide (oid < 0) = false := by simp; omega
    have e2 : decide (1000 < oid) = false := by simp; omega
    have e3 : decide (odue < 0) = false := by simp; omega
    have e4 : decide (1099511627776 < odue) = false := by simp; omega
    have e5 := empty_no h5
    have e6 : (odue == 0) = false := by simpa using h6
    replace h4 := Lib.hid h4
    replace h5 := Lib.hid h5
    replace h6 := Lib.hid h6
    go_enter Tryz.func34, Tryz.ntmps34
    go_wp2_with fail
    refine bodyPost_ret (v := rpV ⟨1, 0, 0⟩) ?_ rfl ?_
    · rw [results_cellA rfl]
      go_simp
    · exact ⟨rfl, fin.out⟩
end
end Go.Proofs.YtiidhcpflplpiaaGreatDoor

/-
  Layer 8: the document's own service: set.
-/
set_option linter.unusedVariables false
namespace Go.Proofs.YtiidhcpflplpiaaGreatDoor
open Go.RowKit Crn Nxt Ste
set_option maxRecDepth 100000
section
variable {base : Nat} {w : World} {r : Nat} {s : St} {p : Option Addr} {cap : Nat} {q : Option Addr} {cq : Nat}
theorem Rf.setG (h : Rf base w r s p cap q cq) (n : Nat) : Rf base (w.setCell ⟨r, 1, none⟩ (.int .i64 (n : Int))) r { s with gens := n } p cap q cq :=
  ⟨by rw [heap_setCell_same w r 1 _ _ _ h.blk]; rfl, h.tow.same fun g hg => Below.heap_setCell _ _ _ _ (fun e => h.nr.1 (by have e2 : g = r := e; rw [← e2]; exact hg)), h.kow.same fun g hg => Below.heap_setCell _ _ _ _ (fun e => h.nr.2 (by have e2 : g = r := e; rw [← e2]; exact hg)), h.lt, h.lk, h.hb⟩
theorem rg_fin (h : Rf base w r s p cap q cq) {wx w8 : World} (hb : Below w.heap.size w wx) (hk : Kl [r] wx w8) {s8 : St} {p8 : Option Addr} {cap8 : Nat} (R8 : Rf base w8 r s8 p8 cap8 q cq) (fr : ∀ g, g ∈ rowOf p8 → g ∈ rowOf p ∨ w.heap.size + 1 < g) (v0 v1 v2 : Value) :
    Rg base w r p q (((w8.setCell ⟨w.heap.size + 1, 0, none⟩ v0).setCell ⟨w.heap.size + 1, 1, none⟩ v1).setCell ⟨w.heap.size + 1, 2, none⟩ v2) s8 := by
  have hne : ∀ g, (g = r ∨ g ∈ rowOf p8 ∨ g ∈ rowOf q) → g ≠ w.heap.size + 1 := fun g hg => by
    rcases hg with rfl | hg | hg
    · have := h.rlt; omega
    · rcases fr g hg with g1 | g1
      · have := (h.tow.lt g1).2; omega
      · omega
    · have := (h.kow.lt hg).2; omega
  have hkl : Kl [r, w.heap.size + 1] w w8 := ((Kl.ofBelow hb).trans hk).mono fun k hk => by simp only [List.mem_singleton] at hk; subst hk; simp
  refine ⟨⟨p8, cap8, q, cq, R8.same fun g hg => ?_, fun g hg => ?_, fun g hg => .inl hg⟩, ?_⟩
  · exact ((Below.heap_setCell _ _ _ _ (hne g hg)).trans (Below.heap_setCell _ _ _ _ (hne g hg))).trans (Below.heap_setCell _ _ _ _ (hne g hg))
  · rcases fr g hg with g1 | g1
    · exact .inl g1
    · exact .inr (by omega)
  · exact (((hkl.setCell (by simp) _ _).setCell (by simp) _ _).setCell (by simp) _ _).mono fun k hk => by
      simp only [List.mem_cons, List.not_mem_nil, or_false] at hk
      rcases hk with rfl | rfl
      · simp
      · exact .inr (by omega)
abbrev rp0 : Obj := .cells #[.int .i64 0, .int .i64 0, .int .i64 0] 34
set_option maxHeartbeats 8000000 in
theorem rset_ok (h : Rf base w r s p cap q cq) (ok : Ok s) (hg : s.gens < 1000000) (o : OpN) (ho : OpOk o) (hb : settableB o = true) : Calls Tryz.prog 34 #[.pointer (some ⟨r, 0, none⟩), opV o] w fun e w' => e = .returned (rpV (setN s o).2) ∧ Rg base w r p q w' (setN s o).1 := by
  have k1 : Below w.heap.size w ((w.alloc (opO o)).alloc rp0) := ((Below.refl w.heap.size w).alloc (Nat.le_refl _) (opO o)).alloc (by simp) rp0
  have hbx : ((w.alloc (opO o)).alloc rp0).heap[w.heap.size]? = some (opO o) := (alloc_old (by simp)).trans (Go.heap_alloc_new w (opO o))
  have hbr : ((w.alloc (opO o)).alloc rp0).heap[w.heap.size + 1]? = some rp0 := by
    have := Go.heap_alloc_new (w.alloc (opO o)) rp0
    simpa using this
  have hlt : Hid (w.heap.size + 1 < ((w.alloc (opO o)).alloc rp0).heap.size) := by show _ < _; simp
  have hid := settable_id hb
  have hS : setN s o = if o.cron.size ≠ 0 ∧ badB o.cron = true then (s, ⟨7, 0, 0⟩) else if Ste.find o.id s.T = none ∧ s.room ≤ s.T.length then (s, ⟨5, 0, 0⟩) else ({ s with gens := s.gens + 1, T := put ⟨o.id, o.client, (s.gens + 1 : Nat), dueN o, o.cron⟩ (away o.id s.T) }, ⟨0, (s.gens + 1 : Nat), dueN o⟩) := by
    unfold setN
    rw [if_neg (by rw [hb]; simp)]
  have hdr := dueN_range hb
  have hcs := ho.cron
  have hst := ho.stamp
  have hsb := hb
  unfold settableB at hsb
  simp only [Bool.and_eq_true, decide_eq_true_eq] at hsb
  obtain ⟨⟨⟨s1, s2⟩, s3⟩, s4⟩ := hsb
  have e1 : decide (o.id < 0) = false := by simp; omega
  have e2 : decide (1000 < o.id) = false := by simp; omega
  have e3 : decide (o.due < 0) = false := by simp; omega
  have e4 : decide (1099511627776 < o.due) = false := by
    split at s4 <;> (simp; omega)
  have hz5 : Hid (¬ o.cron.size = 0 → o.due = 0) := fun hz => by rw [if_neg hz] at s4; omega
  have cP := Lib.hid (fun W => refParse_any o.cron W (by omega))
  have cA := Lib.hid (fun hb2 W => rafter_any o.cron o.stamp hcs hst hb2 W)
  have hD0 : Hid (o.cron.size = 0 → dueN o = o.due) := fun hz => by unfold dueN; rw [if_pos hz]
  have hD1 : Hid (¬ o.cron.size = 0 → dueN o = afterN o.cron o.stamp) := fun hz => by unfold dueN; rw [if_neg hz]
  have h7 : Hid (¬ o.cron.size = 0 → badB o.cron = true → Rg base w r p q ((w.alloc (opO o)).alloc rp0) s ∧ setN s o = (s, ⟨7, 0, 0⟩)) := fun hz hb2 => ⟨Rg.same h k1, by rw [hS, if_pos ⟨hz, hb2⟩]⟩
  clear s1 s2 s3 s4 hid hdr hb hst
  generalize setN s o = PS at *
  generalize hDD : dueN o = D at *
  clear hDD
  have hem : Hid (o.cron.size = 0 ∨ ¬ o.cron.size = 0) := Decidable.em _
  obtain ⟨okind, oclient, oreq, oid, ogen, oocc, odue, ostamp, oepoch, ocron⟩ := o
  simp only [opV, opC, opO, rp0] at *
  have e6 : Hid (¬ ocron.size = 0 → (odue == 0) = true) := fun hz => by simp [hz5.out hz]
  have hzD : Hid (ocron.size = 0 → D = odue) := hD0
  generalize hw1 : (w.alloc (.cells #[.int .i64 okind, .int .i64 oclient, .int .i64 oreq, .int .i64 oid, .int .i64 ogen, .int .i64 oocc, .int .i64 odue, .int .i64 ostamp, .int .i64 oepoch, .string ocron] 30)).alloc (.cells #[.int .i64 0, .int .i64 0, .int .i64 0] 34) = w1 at *
  obtain ⟨z0, z1, z2, z3, z4, z5, z6, z7, z8, z9⟩ := op_cells (o := ⟨okind, oclient, oreq, oid, ogen, oocc, odue, ostamp, oepoch, ocron⟩) hbx
  obtain ⟨y0, y1, y2, y3, y4, y5⟩ := rp_cells hbr
  simp only [] at z0 z1 z2 z3 z4 z5 z6 z7 z8 z9
  have hw1' := Lib.hid hw1
  go_enter Tryz.func34, Tryz.ntmps34
  go_upto_region 1 with fail
  try rw [hw1]
  clear hw1
  rcases hem.out with hz | hz
  case' inl =>
    obtain rfl := size_no hz
    have hD := hzD.out hz
    have hS2 : Hid (PS = if Ste.find oid s.T = none ∧ s.room ≤ s.T.length then (s, ⟨5, 0, 0⟩) else ({ s with gens := s.gens + 1, T := put ⟨oid, oclient, (s.gens + 1 : Nat), D, ⟨#[]⟩⟩ (away oid s.T) }, ⟨0, (s.gens + 1 : Nat), D⟩)) := by
      show _ = _
      rw [hS, if_neg (by rintro ⟨g, _⟩; exact g rfl)]
    clear cP cA hD1 h7 hz5 e6 hem hD0 hzD hS
    replace hz := Lib.hid hz
    replace hD := Lib.hid hD
    go_upto_region 9 with fail
    rw [← hD.out]
    generalize hxx : w1 = wx
    have hB : Hid (Below w1.heap.size w1 wx) := by subst hxx; exact Below.refl _ _
    clear hxx hD
    generalize hcc : (⟨#[]⟩ : ByteArray) = ocron at *
    clear hcc
  case' inr =>
    have hq := empty_no hz
    have e7 := e6.out hz
    have hD := hD1.out hz
    by_cases hbb : badB ocron = true
    case pos =>
      obtain ⟨g1, g2⟩ := h7.out hz hbb
      have hpn : parse ocron.data.toList = none := by
        unfold badB at hbb
        cases hp : parse ocron.data.toList with
        | none => rfl
        | some x => rw [hp] at hbb; cases hbb
      have cQ := fun W => cP.out W
      rw [hpn] at cQ
      simp only [answerP, Option.getD_none, Option.isSome_none, specV, cellsN, Crn.zero] at cQ
      replace cQ := Lib.hid cQ
      have hR7 : Hid (Rf base w r s p cap q cq) := h
      replace g2 := Lib.hid g2
      clear cP cA hD1 h7 hz5 e6 hem hD0 hzD hS hbb hpn hD g1
      replace hz := Lib.hid hz
      go_wp2_with fail
      refine (cQ.out _).mono ?_
      rintro e w2 ⟨rfl, k2⟩
      have hB1 := Lib.hid (k2.alloc k2.size (.cells #[.int .u64 0, .int .u64 0, .int .u64 0, .int .u64 0, .int .u64 0, .bool false, .bool false, .int .i64 0] 64))
      have hbr2 := (hB1.out.block (w.heap.size + 1) hlt.out).trans hbr
      obtain ⟨a0, a1, a2, a3, a4, a5⟩ := rp_cells hbr2
      have hB2 := Lib.hid (k1.trans (hB1.out.mono k1.size))
      clear k2 cQ hB1
      go_wp2_with fail
      refine bodyPost_ret (v := rpV ⟨7, 0, 0⟩) ?_ rfl ?_
      · rw [results_cellA rfl]
        go_simp
      · rw [g2.out]
        exact ⟨rfl, Rg.same hR7.out (((hB2.out.setCell (by simp) _).setCell (by simp) _).setCell (by simp) _)⟩
    case' neg =>
      have hbf : badB ocron = false := by simpa using hbb
      obtain ⟨x, hpx⟩ : ∃ x, parse ocron.data.toList = some x := by
        unfold badB at hbf
        cases hp : parse ocron.data.toList with
        | none => rw [hp] at hbf; cases hbf
        | some x => exact ⟨x, rfl⟩
      have hS2 : Hid (PS = if Ste.find oid s.T = none ∧ s.room ≤ s.T.length then (s, ⟨5, 0, 0⟩) else ({ s with gens := s.gens + 1, T := put ⟨oid, oclient, (s.gens + 1 : Nat), D, ocron⟩ (away oid s.T) }, ⟨0, (s.gens + 1 : Nat), D⟩)) := by
        show _ = _
        rw [hS, if_neg (by rintro ⟨_, g⟩; rw [hbf] at g; cases g)]
      have cQ := fun W => cP.out W
      rw [hpx] at cQ
      simp only [answerP, Option.getD_some, Option.isSome_some, specV, cellsN] at cQ
      replace cQ := Lib.hid cQ
      have cB := fun W => cA.out hbf W
      rw [← hD] at cB
      replace cB := Lib.hid cB
      clear cP cA hD1 h7 hz5 e6 hem hD0 hzD hS hbb hbf hpx hD
      replace hz := Lib.hid hz
      go_wp2_with fail
      refine (cQ.out _).mono ?_
      rintro e w2 ⟨rfl, k2⟩
      have hB1 := Lib.hid (k2.alloc k2.size (.cells #[.int .u64 (x.min : Nat), .int .u64 (x.hour : Nat), .int .u64 (x.dom : Nat), .int .u64 (x.mon : Nat), .int .u64 (x.dow : Nat), .bool x.anyDom, .bool x.anyDow, .int .i64 x.ahead] 64))
      have hbx2 := (hB1.out.block w.heap.size (by have := hlt.out; omega)).trans hbx
      obtain ⟨b0, b1, b2, b3, b4, b5, b6, b7, b8, b9⟩ := op_cells (o := ⟨okind, oclient, oreq, oid, ogen, oocc, odue, ostamp, oepoch, ocron⟩) hbx2
      simp only [] at b0 b1 b2 b3 b4 b5 b6 b7 b8 b9
      clear k2 cQ
      go_wp2_with fail
      refine (cB.out _).mono ?_
      rintro e wx ⟨rfl, k3⟩
      have hB : Hid (Below w1.heap.size w1 wx) := hB1.out.trans (k3.mono hB1.out.size)
      clear hB1 k3 cB hbx2 b0 b1 b2 b3 b4 b5 b6 b7 b8 b9
      go_upto_region 9 with fail
  all_goals
    have hB0 := Lib.hid (k1.trans (hB.out.mono k1.size))
    have hRx := Lib.hid (h.below hB0.out)
    have hbxx := (hB.out.block w.heap.size (by have := hlt.out; omega)).trans hbx
    have hbrx := (hB.out.block (w.heap.size + 1) hlt.out).trans hbr
    have hnr1 : w.heap.size ≠ r := by have := h.rlt; omega
    have hnr2 : w.heap.size + 1 ≠ r := by have := h.rlt; omega
    clear z0 z1 z2 z3 z4 z5 z6 z7 z8 z9 y0 y1 y2 y3 y4 y5
    obtain ⟨z0, z1, z2, z3, z4, z5, z6, z7, z8, z9⟩ := op_cells (o := ⟨okind, oclient, oreq, oid, ogen, oocc, odue, ostamp, oepoch, ocron⟩) hbxx
    obtain ⟨y0, y1, y2, y3, y4, y5⟩ := rp_cells hbrx
    simp only [] at z0 z1 z2 z3 z4 z5 z6 z7 z8 z9
    have cf := Lib.hid (rfind_any hRx.out oid)
    have c0 := hRx.out.c0
    have c2 := hRx.out.c2
    have hlen : (s.T.length : Int) ≤ 1000 := by have := h.lt; omega
    by_cases hp : plT oid s.T < s.T.length
    · have hat : atN (plT oid s.T) s.T.length = ((plT oid s.T : Nat) : Int) := by unfold atN; rw [if_pos hp]
      rw [hat] at cf
      have hfn : Ste.find oid s.T ≠ none := by rw [plT_find, List.getElem?_eq_getElem hp]; simp
      have hS3 : Hid (PS = ({ s with gens := s.gens + 1, T := put ⟨oid, oclient, (s.gens + 1 : Nat), D, ocron⟩ (away oid s.T) }, ⟨0, (s.gens + 1 : Nat), D⟩)) := by
        show _ = _
        rw [hS2.out, if_neg (by rintro ⟨g, _⟩; exact hfn g)]
      have haw : s.T.take (plT oid s.T) ++ s.T.drop (plT oid s.T + 1) = away oid s.T := by
        have := away_at ok.up hp
        rw [plT_is hp] at this
        exact this
      have cR := Lib.hid (fun W (hR : Rf base W r s p cap q cq) => raway_any hR (plT oid s.T) hp)
      rw [haw] at cR
      generalize plT oid s.T = k at *
      have hd0 : decide ((k : Int) < 0) = false := by simp
      have hd0' : decide ((0 : Int) ≤ (k : Int)) = true := by simp
      clear hp hat hfn haw hS2
      go_wp2_with fail
      refine cf.out.mono ?_
      rintro e w4 ⟨rfl, rfl⟩
      clear cf
      go_wp2_with fail
      go_quiet (fail)
      go_wp2_with fail
      refine (cR.out _ (hRx.out.below (below_dN (Below.refl _ _) nq))).mono ?_
      rintro e w5 ⟨rfl, ⟨p1, cap1, R1, fr1⟩, kl1⟩
      have hB5 : Hid (Below wx.heap.size wx (wx.drewN nq)) := below_dN (Below.refl _ _) nq
      have hk5 : Hid (Kl [r] wx w5) := (Kl.ofBelow hB5.out).trans kl1
      have hbx5 := (hk5.out.block w.heap.size (by have := hlt.out; have := hB.out.size; omega) (by simp [hnr1])).trans hbxx
      have hbr5 := (hk5.out.block (w.heap.size + 1) (by have := hlt.out; have := hB.out.size; omega) (by simp [hnr2])).trans hbrx
      replace R1 := Lib.hid R1
      replace fr1 := Lib.hid fr1
      clear kl1 cR z0 z1 z2 z3 z4 z5 z6 z7 z8 z9 y0 y1 y2 y3 y4 y5 c0 c2
      obtain ⟨z0, z1, z2, z3, z4, z5, z6, z7, z8, z9⟩ := op_cells (o := ⟨okind, oclient, oreq, oid, ogen, oocc, odue, ostamp, oepoch, ocron⟩) hbx5
      obtain ⟨y0, y1, y2, y3, y4, y5⟩ := rp_cells hbr5
      simp only [] at z0 z1 z2 z3 z4 z5 z6 z7 z8 z9
      have c1 := R1.out.c1
      have f1 := R1.out.fz 1
      have R2 : Hid (Rf base (w5.setCell ⟨r, 1, none⟩ (.int .i64 ((s.gens : Int) + 1))) r { s with gens := s.gens + 1, T := away oid s.T } p1 cap1 q cq) := by
        have h2 := R1.out.setG (s.gens + 1)
        rw [show ((s.gens + 1 : Nat) : Int) = (s.gens : Int) + 1 by omega] at h2
        exact h2
      have hn6 : Hid (∀ u ∈ away oid s.T, u.id ≠ oid) := fun u hu => (mem_away.1 hu).2
      have hup6 : Hid (Up (away oid s.T)) := away_up ok.up
      have hl6 : Hid ((away oid s.T).length < 1000) := by have := R1.out.lt; have h3 := List.length_filter_le (fun t => decide (t.id ≠ oid)) s.T; have := ok.full; have := ok.room1; show (List.filter _ _).length < 1000; omega
      have cPt := Lib.hid (fun W (hR : Rf base W r { s with gens := s.gens + 1, T := away oid s.T } p1 cap1 q cq) => rput_any hR ⟨oid, oclient, (s.gens + 1 : Nat), D, ocron⟩ hup6.out hn6.out hl6.out)
      have hk6 : Hid (Kl [r] wx (w5.setCell ⟨r, 1, none⟩ (.int .i64 ((s.gens : Int) + 1)))) := hk5.out.setCell (by simp) 1 _
      have hbx6 := (hk6.out.block w.heap.size (by have := hlt.out; have := hB.out.size; omega) (by simp [hnr1])).trans hbxx
      have hbr6 := (hk6.out.block (w.heap.size + 1) (by have := hlt.out; have := hB.out.size; omega) (by simp [hnr2])).trans hbrx
      have hwg : IntKind.i64.wrap ((s.gens : Int) + 1) = ((s.gens + 1 : Nat) : Int) := by rw [IntWalk.i64_in _ (by omega)]; omega
      simp only [] at c1
      go_upto_region 15 with fail
      clear z0 z1 z2 z3 z4 z5 z6 z7 z8 z9 y0 y1 y2 y3 y4 y5 c1 f1
      generalize w5.setCell ⟨r, 1, none⟩ (.int .i64 ((s.gens : Int) + 1)) = w6 at *
      have c1 := R2.out.c1
      obtain ⟨z0, z1, z2, z3, z4, z5, z6, z7, z8, z9⟩ := op_cells (o := ⟨okind, oclient, oreq, oid, ogen, oocc, odue, ostamp, oepoch, ocron⟩) hbx6
      simp only [] at z0 z1 z2 z3 z4 z5 z6 z7 z8 z9 c1
      go_still_tail 13, (by kernel_rfl)
      change wpList _ _ _ _ _ w6.drew
      have hdw : Below w6.heap.size w6 w6.drew := below_dN (Below.refl _ _) 1
      have R6d := Lib.hid (R2.out.below hdw)
      have hk7 := Lib.hid (hk6.out.trans (Kl.ofBelow hdw))
      clear hdw z0 z1 z2 z3 z4 z5 z6 z7 z8 z9 c1 R1 R2 hk5 hbx5 hbr5 hk6 hbx6 hbr6
      generalize w6.drew = w7 at *
      go_wp2_with fail
      refine (cPt.out _ R6d.out).mono ?_
      rintro e w8 ⟨rfl, ⟨p8, cap8, R8, fr8⟩, kl8⟩
      have hk9 : Hid (Kl [r] wx w8) := hk7.out.trans kl8
      have hbr8 := (hk9.out.block (w.heap.size + 1) (by have := hlt.out; have := hB.out.size; omega) (by simp [hnr2])).trans hbrx
      obtain ⟨y0, y1, y2, y3, y4, y5⟩ := rp_cells hbr8
      have c1 := R8.c1
      simp only [] at c1
      have hfin : Hid (Rg base w r p q (((w8.setCell ⟨w.heap.size + 1, 0, none⟩ (.int .i64 0)).setCell ⟨w.heap.size + 1, 1, none⟩ (.int .i64 ((s.gens + 1 : Nat) : Int))).setCell ⟨w.heap.size + 1, 2, none⟩ (.int .i64 D)) { s with gens := s.gens + 1, T := put ⟨oid, oclient, (s.gens + 1 : Nat), D, ocron⟩ (away oid s.T) }) := rg_fin h hB0.out hk9.out R8 (fun g hg => .inr (by have := fr8 g hg; have := hk7.out.size; have := hB.out.size; have := hlt.out; omega)) _ _ _
      clear cPt R6d hk7 fr8 kl8
      go_wp2_with fail
      refine bodyPost_ret (v := rpV ⟨0, (s.gens + 1 : Nat), D⟩) ?_ rfl ?_
      · rw [results_cellA rfl]
        go_simp
      · rw [hS3.out]
        exact ⟨rfl, hfin.out⟩
    · have hat : atN (plT oid s.T) s.T.length = -1 := by unfold atN; rw [if_neg hp]
      rw [hat] at cf
      have hfn : Ste.find oid s.T = none := by rw [plT_find, List.getElem?_eq_none (by omega)]
      have haw : away oid s.T = s.T := away_none (find_none hfn)
      have hd0 : decide ((0 : Int) ≤ (-1 : Int)) = false := by simp
      by_cases hfull : s.room ≤ s.T.length
      · have hS3 : Hid (PS = (s, ⟨5, 0, 0⟩)) := by
          show _ = _
          rw [hS2.out, if_pos ⟨hfn, hfull⟩]
        have hf1 : decide (s.room ≤ s.T.length) = true := by simpa using hfull
        have hf2 : decide ((s.room : Int) ≤ (s.T.length : Int)) = true := by simp; omega
        clear hat hfn haw hS2 hp
        replace hfull := Lib.hid hfull
        go_wp2_with fail
        refine cf.out.mono ?_
        rintro e w4 ⟨rfl, rfl⟩
        clear cf
        go_wp2_with fail
        go_quiet (fail)
        have hbr5 := ((below_dN (Below.refl wx.heap.size wx) nq).block (w.heap.size + 1) (by have := hlt.out; have := hB.out.size; omega)).trans hbrx
        have hfin : Hid (Rg base w r p q ((((wx.drewN nq).setCell ⟨w.heap.size + 1, 0, none⟩ (.int .i64 5)).setCell ⟨w.heap.size + 1, 1, none⟩ (.int .i64 0)).setCell ⟨w.heap.size + 1, 2, none⟩ (.int .i64 0)) s) := rg_fin h hB0.out (Kl.ofBelow (below_dN (Below.refl _ _) nq)) (hRx.out.below (below_dN (Below.refl _ _) nq)) (fun g hg => .inl hg) _ _ _
        obtain ⟨y0, y1, y2, y3, y4, y5⟩ := rp_cells hbr5
        generalize wx.drewN nq = w5 at *
        go_wp2_with fail
        refine bodyPost_ret (v := rpV ⟨5, 0, 0⟩) ?_ rfl ?_
        · rw [results_cellA rfl]
          go_simp
        · rw [hS3.out]
          exact ⟨rfl, hfin.out⟩
      · have hS3 : Hid (PS = ({ s with gens := s.gens + 1, T := put ⟨oid, oclient, (s.gens + 1 : Nat), D, ocron⟩ (away oid s.T) }, ⟨0, (s.gens + 1 : Nat), D⟩)) := by
          show _ = _
          rw [hS2.out, if_neg (by rintro ⟨_, g⟩; exact hfull g)]
        have hf1 : decide (s.room ≤ s.T.length) = false := by simpa using hfull
        have hf2 : decide ((s.room : Int) ≤ (s.T.length : Int)) = false := by simp; omega
        have hr0 : ∀ W, Rf base W r s p cap q cq → Rf base W r { s with T := away oid s.T } p cap q cq := fun W hW => by rw [haw]; exact hW
        clear hat hfn haw hS2 hp
        replace hfull := Lib.hid hfull
        replace hr0 := Lib.hid hr0
        go_wp2_with fail
        refine cf.out.mono ?_
        rintro e w4 ⟨rfl, rfl⟩
        clear cf
        go_wp2_with fail
        go_quiet (fail)
        have R1 := hr0.out _ (hRx.out.below (below_dN (Below.refl _ _) nq))
        have hk5 : Hid (Kl [r] wx (wx.drewN nq)) := Kl.ofBelow (below_dN (Below.refl _ _) nq)
        have hbx5 := (hk5.out.block w.heap.size (by have := hlt.out; have := hB.out.size; omega) (by simp [hnr1])).trans hbxx
        have hbr5 := (hk5.out.block (w.heap.size + 1) (by have := hlt.out; have := hB.out.size; omega) (by simp [hnr2])).trans hbrx
        generalize wx.drewN nq = w5 at *
        replace R1 := Lib.hid R1
        clear z0 z1 z2 z3 z4 z5 z6 z7 z8 z9 y0 y1 y2 y3 y4 y5 c0 c2
        obtain ⟨z0, z1, z2, z3, z4, z5, z6, z7, z8, z9⟩ := op_cells (o := ⟨okind, oclient, oreq, oid, ogen, oocc, odue, ostamp, oepoch, ocron⟩) hbx5
        obtain ⟨y0, y1, y2, y3, y4, y5⟩ := rp_cells hbr5
        simp only [] at z0 z1 z2 z3 z4 z5 z6 z7 z8 z9
        have c1 := R1.out.c1
        have f1 := R1.out.fz 1
        have R2 : Hid (Rf base (w5.setCell ⟨r, 1, none⟩ (.int .i64 ((s.gens : Int) + 1))) r { s with gens := s.gens + 1, T := away oid s.T } p cap q cq) := by
          have h2 := R1.out.setG (s.gens + 1)
          rw [show ((s.gens + 1 : Nat) : Int) = (s.gens : Int) + 1 by omega] at h2
          exact h2
        have hn6 : Hid (∀ u ∈ away oid s.T, u.id ≠ oid) := fun u hu => (mem_away.1 hu).2
        have hup6 : Hid (Up (away oid s.T)) := away_up ok.up
        have hl6 : Hid ((away oid s.T).length < 1000) := by have := R1.out.lt; have h3 := List.length_filter_le (fun t => decide (t.id ≠ oid)) s.T; have := ok.full; have := ok.room1; show (List.filter _ _).length < 1000; omega
        have cPt := Lib.hid (fun W (hR : Rf base W r { s with gens := s.gens + 1, T := away oid s.T } p cap q cq) => rput_any hR ⟨oid, oclient, (s.gens + 1 : Nat), D, ocron⟩ hup6.out hn6.out hl6.out)
        have hk6 : Hid (Kl [r] wx (w5.setCell ⟨r, 1, none⟩ (.int .i64 ((s.gens : Int) + 1)))) := hk5.out.setCell (by simp) 1 _
        have hbx6 := (hk6.out.block w.heap.size (by have := hlt.out; have := hB.out.size; omega) (by simp [hnr1])).trans hbxx
        have hbr6 := (hk6.out.block (w.heap.size + 1) (by have := hlt.out; have := hB.out.size; omega) (by simp [hnr2])).trans hbrx
        have hwg : IntKind.i64.wrap ((s.gens : Int) + 1) = ((s.gens + 1 : Nat) : Int) := by rw [IntWalk.i64_in _ (by omega)]; omega
        simp only [] at c1
        go_upto_region 15 with fail
        clear z0 z1 z2 z3 z4 z5 z6 z7 z8 z9 y0 y1 y2 y3 y4 y5 c1 f1
        generalize w5.setCell ⟨r, 1, none⟩ (.int .i64 ((s.gens : Int) + 1)) = w6 at *
        have c1 := R2.out.c1
        obtain ⟨z0, z1, z2, z3, z4, z5, z6, z7, z8, z9⟩ := op_cells (o := ⟨okind, oclient, oreq, oid, ogen, oocc, odue, ostamp, oepoch, ocron⟩) hbx6
        simp only [] at z0 z1 z2 z3 z4 z5 z6 z7 z8 z9 c1
        go_still_tail 13, (by kernel_rfl)
        change wpList _ _ _ _ _ w6.drew
        have hdw : Below w6.heap.size w6 w6.drew := below_dN (Below.refl _ _) 1
        have R6d := Lib.hid (R2.out.below hdw)
        have hk7 := Lib.hid (hk6.out.trans (Kl.ofBelow hdw))
        clear hdw z0 z1 z2 z3 z4 z5 z6 z7 z8 z9 c1 R1 R2 hk5 hbx5 hbr5 hk6 hbx6 hbr6
        generalize w6.drew = w7 at *
        go_wp2_with fail
        refine (cPt.out _ R6d.out).mono ?_
        rintro e w8 ⟨rfl, ⟨p8, cap8, R8, fr8⟩, kl8⟩
        have hk9 : Hid (Kl [r] wx w8) := hk7.out.trans kl8
        have hbr8 := (hk9.out.block (w.heap.size + 1) (by have := hlt.out; have := hB.out.size; omega) (by simp [hnr2])).trans hbrx
        obtain ⟨y0, y1, y2, y3, y4, y5⟩ := rp_cells hbr8
        have c1 := R8.c1
        simp only [] at c1
        have hfin : Hid (Rg base w r p q (((w8.setCell ⟨w.heap.size + 1, 0, none⟩ (.int .i64 0)).setCell ⟨w.heap.size + 1, 1, none⟩ (.int .i64 ((s.gens + 1 : Nat) : Int))).setCell ⟨w.heap.size + 1, 2, none⟩ (.int .i64 D)) { s with gens := s.gens + 1, T := put ⟨oid, oclient, (s.gens + 1 : Nat), D, ocron⟩ (away oid s.T) }) := rg_fin h hB0.out hk9.out R8 (fun g hg => .inr (by have := fr8 g hg; have := hk7.out.size; have := hB.out.size; have := hlt.out; omega)) _ _ _
        clear cPt R6d hk7 fr8 kl8
        go_wp2_with fail
        refine bodyPost_ret (v := rpV ⟨0, (s.gens + 1 : Nat), D⟩) ?_ rfl ?_
        · rw [results_cellA rfl]
          go_simp
        · rw [hS3.out]
          exact ⟨rfl, hfin.out⟩
end
end Go.Proofs.YtiidhcpflplpiaaGreatDoor

/-
  Layer 8: the document's own service: what is remembered of its clients, as a row that is copied, written and grown.
-/
set_option linter.unusedVariables false
namespace Go.Proofs.YtiidhcpflplpiaaGreatDoor
open Go.RowKit Crn Nxt Ste
set_option maxRecDepth 100000
section
variable {base : Nat} {w : World} {r : Nat} {s : St} {p : Option Addr} {cap : Nat} {q : Option Addr} {cq : Nat}
/-- The block written anew with another list of clients. -/
theorem Rf.setK {W : World} {q' : Option Addr} {n cq' : Nat} {K' : List Kn} (h : Rf base w r s p cap q cq) (hr : W.heap[r]? = w.heap[r]?) (hp : ∀ g, g ∈ rowOf p → W.heap[g]? = w.heap[g]?) (o : W.ownsRow base 50 5 (.slice q' n cq') n (flatW encK K')) (hn : n = K'.length) (hl : K'.length ≤ 1000) :
    Rf base (W.setCell ⟨r, 3, none⟩ (.slice q' n cq')) r { s with K := K' } p cap q' cq' := by
  subst hn
  have hb : W.heap[r]? = some (.cells #[.int .i64 (s.room : Int), .int .i64 (s.gens : Int), .slice p s.T.length cap, .slice q s.K.length cq] 47 (0, 0)) := hr.trans h.blk
  refine ⟨?_, ?_, ?_, h.lt, hl, h.hb⟩
  · rw [heap_setCell_same W r 3 _ _ _ hb]; rfl
  · exact (h.tow.same hp).same fun g hg => Below.heap_setCell _ _ _ _ (fun e => h.nr.1 (by have e2 : g = r := e; rw [← e2]; exact hg))
  · exact Ro.same (w := W) o fun g hg => Below.heap_setCell _ _ _ _ (fun e => by
      obtain ⟨cur, hc⟩ := row_at o (own_row.2 hg)
      exact type_no hc hb (by decide) e)
theorem flatW_set {α : Type} {enc : α → List Value} (he : ∀ t, (enc t).length = 5) (l : List α) (i : Nat) (x : α) (v0 v1 v2 v3 v4 : Value) (hx : enc x = [v0, v1, v2, v3, v4]) (hi : i < l.length) :
    (((((flatW enc l).set (i * 5) v0).set (i * 5 + 1) v1).set (i * 5 + 2) v2).set (i * 5 + 3) v3).set (i * 5 + 4) v4 = flatW enc (l.set i x) := by
  induction l generalizing i with
  | nil => simp at hi
  | cons t l ih =>
    have hl := he t
    cases i with
    | zero =>
      simp only [flatW, List.set_cons_zero, hx]
      match ht : enc t, hl with
      | [a0, a1, a2, a3, a4], _ => simp
    | succ i =>
      simp only [flatW, List.set_cons_succ]
      rw [← ih i (by simpa using hi)]
      rw [List.set_append_right _ _ (by omega), List.set_append_right _ _ (by omega), List.set_append_right _ _ (by omega), List.set_append_right _ _ (by omega), List.set_append_right _ _ (by omega)]
      congr 1
      rw [hl, show (i + 1) * 5 - 5 = i * 5 by omega, show (i + 1) * 5 + 1 - 5 = i * 5 + 1 by omega, show (i + 1) * 5 + 2 - 5 = i * 5 + 2 by omega, show (i + 1) * 5 + 3 - 5 = i * 5 + 3 by omega, show (i + 1) * 5 + 4 - 5 = i * 5 + 4 by omega]
/-- One that is remembered, written anew in its place. -/
theorem Rf.putK {g : Nat} (h : Rf base w r s p cap (some ⟨g, 0, none⟩) cq) (i : Nat) (hi : i < s.K.length) (k : Kn) :
    Rf base (((((w.setCell ⟨g, i * 5, none⟩ (.int .i64 k.client)).setCell ⟨g, i * 5 + 1, none⟩ (.int .i64 k.req)).setCell ⟨g, i * 5 + 2, none⟩ (.int .i64 k.rp.err)).setCell ⟨g, i * 5 + 3, none⟩ (.int .i64 k.rp.gen)).setCell ⟨g, i * 5 + 4, none⟩ (.int .i64 k.rp.due)) r { s with K := s.K.set i k } p cap (some ⟨g, 0, none⟩) cq := by
  have hgr : g ∈ rowOf (some (⟨g, 0, none⟩ : Addr)) := own_row (n := 0) (cap := 0).1 rfl
  have o5 := World.ownsRow.stored ((World.ownsRow.stored ((World.ownsRow.stored ((World.ownsRow.stored ((World.ownsRow.stored h.kow (i * 5) (.int .i64 k.client)).1) (i * 5 + 1) (.int .i64 k.req)).1) (i * 5 + 2) (.int .i64 k.rp.err)).1) (i * 5 + 3) (.int .i64 k.rp.gen)).1) (i * 5 + 4) (.int .i64 k.rp.due) |>.1
  rw [flatW_set encK_len s.K i k _ _ _ _ _ rfl hi] at o5
  have hne : ∀ j, j ≠ g → (((((w.setCell ⟨g, i * 5, none⟩ (.int .i64 k.client)).setCell ⟨g, i * 5 + 1, none⟩ (.int .i64 k.req)).setCell ⟨g, i * 5 + 2, none⟩ (.int .i64 k.rp.err)).setCell ⟨g, i * 5 + 3, none⟩ (.int .i64 k.rp.gen)).setCell ⟨g, i * 5 + 4, none⟩ (.int .i64 k.rp.due)).heap[j]? = w.heap[j]? := fun j hj =>
    (Below.heap_setCell _ _ _ _ hj).trans ((Below.heap_setCell _ _ _ _ hj).trans ((Below.heap_setCell _ _ _ _ hj).trans ((Below.heap_setCell _ _ _ _ hj).trans (Below.heap_setCell _ _ _ _ hj))))
  have hrg : r ≠ g := fun e => h.nr.2 (by rw [e]; exact hgr)
  have hpg : ∀ j, j ∈ rowOf p → j ≠ g := fun j hj e => by
    obtain ⟨c1, e1⟩ := h.tow.obj hj
    obtain ⟨c2, e2⟩ := h.kow.obj hgr
    exact type_no e1 e2 (by decide) e
  refine ⟨?_, h.tow.same fun j hj => hne j (hpg j hj), ?_, h.lt, ?_, h.hb⟩
  · rw [hne r hrg, h.blk]
    simp
  · unfold Ro
    rw [List.length_set]
    exact o5
  · rw [List.length_set]; exact h.lk
end
theorem renew_set {k : Kn} {K : List Kn} (h : Apart K) {i : Nat} (hi : i < K.length) (e : K[i].client = k.client) : K.set i k = renew k K := by
  unfold renew
  apply List.ext_getElem
  · simp
  intro j h1 h2
  rw [List.getElem_map, List.getElem_set]
  rw [List.length_set] at h1
  by_cases hj : i = j
  · subst hj
    rw [if_pos rfl, if_pos e]
  · rw [if_neg hj, if_neg]
    intro e2
    rcases Nat.lt_or_gt_of_ne hj with g | g
    · exact List.pairwise_iff_getElem.1 h i j hi h1 g (e.trans e2.symm)
    · exact List.pairwise_iff_getElem.1 h j i h1 hi g (e2.trans e.symm)

theorem set_K (s : St) (o : OpN) : (setN s o).1.K = s.K := by
  unfold setN
  split
  · rfl
  split
  · rfl
  split
  · rfl
  · rfl
theorem row_lowK {w : World} {base b2 e size n : Nat} {v : Value} {xs : List Value} (h : w.ownsRow base e size v n xs) (hb : b2 ≤ base) : w.ownsRow b2 e size v n xs := by
  refine ⟨h.1, ?_⟩
  rcases h.2 with h0 | ⟨g, cap, cur, h0, h1, hg, hr⟩
  · exact .inl h0
  · exact .inr ⟨g, cap, cur, h0, by omega, hg, hr⟩
/-- append at a step of a region that draws, where what it gives is known by what it is. -/
theorem step_append_ex {P : Program} {ops : Array Oper} {o : Oper} {a : Act} {w : World} {K : Act → World → Prop} {Q : Exit → Act → World → Prop} {E : Prop}
    (hg : o.guard = none) (d x : Operand) (dT sT : TypeId) (hop : o.op = Op.call { callee := Callee.builtin Builtin.append, args := #[d, x], argTypes := #[dT, sT] })
    (v u : Value) (hd : a.eval d = v) (hx : a.eval x = u) {R : Value → World → Prop} (hr : ∃ v' w', (Builtin.append_ #[dT, sT] o.type #[v, u]).run P w = .ok v' w' ∧ R v' w') (hK : ∀ v' w', R v' w' → K (a.put o.dst v') w') :
    if Region.wanted o (yielded ops a.tmps) = true then Oper.wp P o a w K Q else E := by
  obtain ⟨v', w', h1, h2⟩ := hr
  exact step_append_at hg d x dT sT hop v u hd hx h1 (hK v' w' h2)
theorem step_append_w {P : Program} {ops : Array Oper} {o : Oper} {a : Act} {w w0 : World} {K : Act → World → Prop} {Q : Exit → Act → World → Prop} {E : Prop} (hw : w = w0)
    (hg : o.guard = none) (d x : Operand) (dT sT : TypeId) (hop : o.op = Op.call { callee := Callee.builtin Builtin.append, args := #[d, x], argTypes := #[dT, sT] })
    (v u : Value) (hd : a.eval d = v) (hx : a.eval x = u) {R : Value → World → Prop} (hr : ∃ v' w', (Builtin.append_ #[dT, sT] o.type #[v, u]).run P w0 = .ok v' w' ∧ R v' w') (hK : ∀ v' w', R v' w' → K (a.put o.dst v') w') :
    if Region.wanted o (yielded ops a.tmps) = true then Oper.wp P o a w K Q else E := by
  subst hw
  exact step_append_ex hg d x dT sT hop v u hd hx hr hK
/-- A copy of a row into an empty one. -/
def Cp (B : Nat) (X : World) (g0 : Nat) (K : List Kn) (v : Value) (w3 : World) : Prop :=
  ∃ g3 c3, v = .slice (some ⟨g3, 0, none⟩) K.length c3 ∧ w3.ownsRow B 50 5 v K.length (flatW encK K) ∧ (g3 = g0 ∨ g3 = X.heap.size) ∧ Below X.heap.size X w3
theorem kcopy {X : World} {B g0 b2 : Nat} {q : Option Addr} {cq : Nat} {K : List Kn} (o : X.ownsRow B 50 5 (.slice (some ⟨g0, 0, none⟩) 0 0) 0 []) (hq : Ro encK 50 b2 X q cq K) (hl : K.length ≤ 1000) (hB : B ≤ X.heap.size) :
    ∃ v w3, (Builtin.append_ #[45, 45] 45 #[.slice (some ⟨g0, 0, none⟩) 0 0, .slice q K.length cq]).run Tryz.prog X = .ok v w3 ∧ Cp B X g0 K v w3 := by
  obtain ⟨i0, hi0, hz0, hzs, hzb⟩ := info_parts8 info50
  rcases hq.form with ⟨rfl, rfl, rfl⟩ | ⟨g, rfl, _, hlc, hcm⟩
  · exact ⟨_, _, run_append_owned_none (P := Tryz.prog) X B 45 45 50 i0 5 Tryz.underlying45 hi0 _ 0 [] o, g0, 0, rfl, o, .inl rfl, Below.refl _ _⟩
  · by_cases hK : K.length = 0
    · obtain rfl := List.length_eq_zero_iff.1 hK
      refine ⟨_, X, ?_, g0, 0, rfl, o, .inl rfl, Below.refl _ _⟩
      simp [Builtin.append_, run_underlying Tryz.underlying45, sizeOf, typeInfo, hi0, Builtin.lenOf, Builtin.firstCells, storeCells, loadCells, loadCellsFrom, Result.andThen]
    · have hr := run_append_grow (P := Tryz.prog) X 45 45 50 i0 _ Tryz.underlying45 hi0 hz0 ⟨g0, 0, none⟩ 0 0 [] (by simp) (fun j u hu => by simp at hu) ⟨g, 0, none⟩ K.length cq (flatW encK K) (by rw [hzs, flatW_len encK_len]) (fun j u hu => World.ownsRow.cells hq (g := g) rfl j u hu) (by omega) (by omega) (by rw [hzb]; exact growslice_fits (by omega) (by omega))
      have hge := grownCap_ge X (0 + K.length) 0 50
      have hcm2 : grownCap X (0 + K.length) 0 50 ≤ maxLen := grownCap_le_maxLen X (0 + K.length) 0 50 (by unfold maxLen; omega)
      have hzc : (Value.agg #[.int .i64 0, .int .i64 0, .int .i64 0, .int .i64 0, .int .i64 0]).cells.size = 5 := rfl
      have hlen : (flatW encK K).length = K.length * 5 := flatW_len encK_len K
      generalize hG : grownCap X (0 + K.length) 0 50 = G at *
      rw [Nat.zero_add] at hr hge
      refine ⟨_, _, hr, X.heap.size, G, rfl, ⟨hlen, .inr ⟨X.heap.size, G, _, rfl, hB, heap_alloc_new X.drew _, hge, hcm2, ?_, ?_⟩⟩, .inr rfl, ((Below.refl _ _).drew).alloc (Nat.le_refl _) _⟩
      · simp only [Array.size_append, List.size_toArray, size_zeroCells, hzc, hlen, List.length_nil]
        omega
      · simp only [Array.toList_append, List.nil_append]
        rw [← hlen]
        exact List.take_left
def Mr (B : Nat) (Y : World) (K : List Kn) (k : Kn) (v : Value) (w6 : World) : Prop := ∃ p6 c6, v = .slice p6 (K.length + 1) c6 ∧ w6.ownsRow B 50 5 v (K.length + 1) (flatW encK (K ++ [k])) ∧ Below B Y w6
/-- One more behind it. -/
theorem kmore {Y : World} {B n c3 c : Nat} {p3 : Option Addr} {K : List Kn} {k : Kn} (hn : n = K.length) (o3 : Y.ownsRow B 50 5 (.slice p3 n c3) n (flatW encK K)) (hc : Y.heap[c]? = some (.cells (encK k).toArray 50)) (hl : K.length ≤ 1000) (hB : B ≤ Y.heap.size) :
    ∃ v w6, (Builtin.append_ #[45, 45] 45 #[.slice p3 n c3, .slice (some ⟨c, 0, none⟩) 1 1]).run Tryz.prog Y = .ok v w6 ∧ Mr B Y K k v w6 := by
  obtain ⟨i0, hi0, hz0, hzs, hzb⟩ := info_parts8 info50
  subst hn
  have hn2 : ∀ j u, (flatW encK [k])[j]? = some u → Y.cell? ((⟨c, 0, none⟩ : Addr).add j) = some u := fun j u hu => by
    rw [flatW_single] at hu
    rw [Addr.add_lit]
    have := cell_in hc j
    simpa using this.trans (by simpa using hu)
  obtain ⟨v, w6, r6, o6, g6, -⟩ := run_append_own (P := Tryz.prog) Y B 45 45 50 i0 _ 5 40 Tryz.underlying45 hi0 hz0 hzs hzb rfl (by omega) _ _ _ o3 ⟨c, 0, none⟩ 1 1 (flatW encK [k]) rfl hn2 (flatW_one encK_one _) (by unfold maxLen; omega) (by omega) hB
  rw [← flatW_app] at o6
  obtain ⟨p6, c6, rfl⟩ := own_slice8 o6
  refine ⟨_, w6, r6, p6, c6, rfl, o6, ⟨g6.os, g6.tape, g6.output, g6.size, fun j hj => g6.block j (by omega) fun e => ?_⟩⟩
  have := (World.ownsRow.lt o3 j e.symm).1
  omega
end Go.Proofs.YtiidhcpflplpiaaGreatDoor
