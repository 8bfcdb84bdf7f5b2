/-
  Layer 8: texts laid into one (a claim has 60 files at most): SShelf, SSort, SIter, SCollect, SList, SNone, SInts, SRun, SAwake.
-/
import Derived.Shelf.SlSortCmp.WholeK
import Derived.Shelf.SlicesG.Cmp
import Derived.Test.YtiidhcpflplpiaaGreatDoorProg
import Derived.Test.YtiidhcpflplpiaaGreatDoorSA
import Derived.Shelf.SlSortCmp.NoneTotal
import Derived.RangeFuncGives
import Derived.Sort.MapsRangeIn
import Derived.Maps.RangeRun
import Derived.Maps.AppendAt
import Derived.Shelf.AbstractIn
import Derived.Shelf.SlIter.Collect
import Derived.WalkKit
import Derived.OwnWalkIn
import Derived.TacticsInMore
import Derived.RegionIn
import Derived.LoopNIn
import Derived.LoopIn
import Derived.Shelf.Abstract
import Derived.BigQuiet
import Derived.Deep.DeepCutAuto
import Derived.Deep.RegionHeld3
/-
  The library's sort of a slice of timers, and cmp.Compare, at this program. Laid by the guide's own tool (lay-plain.mjs).
-/
namespace Go.Proofs
open Go.Shelf
def Tryz.sortT_ren : Go.Shelf.Ren := ⟨fun | 6 => 59 | 15 => 81 | 14 => 80 | 28 => 109 | 29 => 110 | 20 => 101 | 21 => 102 | 22 => 103 | 23 => 104 | 24 => 105 | 25 => 106 | 26 => 107 | 27 => 108 | 46 => 128 | 47 => 129 | 48 => 130 | 49 => 131 | 50 => 132 | 57 => 153 | n => n, fun | 22 => 43 | 24 => 37 | 25 => 88 | 3 => 3 | 39 => 57 | 0 => 0 | 53 => 115 | 55 => 62 | 4 => 4 | 46 => 162 | 45 => 161 | 50 => 68 | 5 => 5 | 9 => 9 | 66 => 190 | 70 => 194 | 76 => 213 | 77 => 214 | n => n, fun | n => n⟩
theorem Tryz.sortT : Go.Proofs.SlLaysF0.n6 Tryz.prog Tryz.sortT_ren := {
  mixed := by kernel_rfl
  f6 := ⟨Tryz.f59.name, by decide, Tryz.func59.trans (congrArg some (by kernel_rfl))⟩
  f14 := ⟨Tryz.f80.name, by decide, Tryz.func80.trans (congrArg some (by kernel_rfl))⟩
  f15 := Tryz.func81.trans (congrArg some (by kernel_rfl))
  f20 := ⟨Tryz.f101.name, by decide, Tryz.func101.trans (congrArg some (by kernel_rfl))⟩
  f21 := ⟨Tryz.f102.name, by decide, Tryz.func102.trans (congrArg some (by kernel_rfl))⟩
  f22 := ⟨Tryz.f103.name, by decide, Tryz.func103.trans (congrArg some (by kernel_rfl))⟩
  f23 := ⟨Tryz.f104.name, by decide, Tryz.func104.trans (congrArg some (by kernel_rfl))⟩
  f24 := ⟨Tryz.f105.name, by decide, Tryz.func105.trans (congrArg some (by kernel_rfl))⟩
  f25 := ⟨Tryz.f106.name, by decide, Tryz.func106.trans (congrArg some (by kernel_rfl))⟩
  f26 := ⟨Tryz.f107.name, by decide, Tryz.func107.trans (congrArg some (by kernel_rfl))⟩
  f27 := ⟨Tryz.f108.name, by decide, Tryz.func108.trans (congrArg some (by kernel_rfl))⟩
  f28 := Tryz.func109.trans (congrArg some (by kernel_rfl))
  f29 := Tryz.func110.trans (congrArg some (by kernel_rfl))
  f46 := ⟨Tryz.f128.name, by decide, Tryz.func128.trans (congrArg some (by kernel_rfl))⟩
  f47 := Tryz.func129.trans (congrArg some (by kernel_rfl))
  f48 := Tryz.func130.trans (congrArg some (by kernel_rfl))
  f49 := ⟨Tryz.f131.name, by decide, Tryz.func131.trans (congrArg some (by kernel_rfl))⟩
  f50 := ⟨Tryz.f132.name, by decide, Tryz.func132.trans (congrArg some (by kernel_rfl))⟩
  f57 := ⟨Tryz.f153.name, by decide, Tryz.func153.trans (congrArg some (by kernel_rfl))⟩
  t0 := Tryz.underlying0
  a0 := Tryz.isAgg0
  z0 := Tryz.sizeOf0
  v0 := Tryz.zeroValue0
  t3 := Tryz.underlying3
  a3 := Tryz.isAgg3
  z3 := Tryz.sizeOf3
  v3 := Tryz.zeroValue3
  t4 := Tryz.underlying4
  a4 := Tryz.isAgg4
  z4 := Tryz.sizeOf4
  v4 := Tryz.zeroValue4
  t5 := Tryz.underlying5
  a5 := Tryz.isAgg5
  z5 := Tryz.sizeOf5
  v5 := Tryz.zeroValue5
  t9 := Tryz.underlying9
  a9 := Tryz.isAgg9
  z9 := Tryz.sizeOf9
  v9 := Tryz.zeroValue9
  t22 := Tryz.underlying43
  a22 := Tryz.isAgg43
  z22 := Tryz.sizeOf43
  v22 := Tryz.zeroValue43
  t25 := Tryz.underlying88
  a25 := Tryz.isAgg88
  z25 := Tryz.sizeOf88
  v25 := Tryz.zeroValue88
  t39 := Tryz.underlying57
  a39 := Tryz.isAgg57
  z39 := Tryz.sizeOf57
  v39 := Tryz.zeroValue57
  t45 := Tryz.underlying161
  a45 := Tryz.isAgg161
  z45 := Tryz.sizeOf161
  v45 := Tryz.zeroValue161
  t46 := Tryz.underlying162
  a46 := Tryz.isAgg162
  z46 := Tryz.sizeOf162
  v46 := Tryz.zeroValue162
  t50 := Tryz.underlying68
  a50 := Tryz.isAgg68
  z50 := Tryz.sizeOf68
  v50 := Tryz.zeroValue68
  t53 := Tryz.underlying115
  a53 := Tryz.isAgg115
  z53 := Tryz.sizeOf115
  v53 := Tryz.zeroValue115
  t55 := Tryz.underlying62
  a55 := Tryz.isAgg62
  z55 := Tryz.sizeOf62
  v55 := Tryz.zeroValue62
  t66 := Tryz.underlying190
  a66 := Tryz.isAgg190
  z66 := Tryz.sizeOf190
  v66 := Tryz.zeroValue190
  t70 := Tryz.underlying194
  a70 := Tryz.isAgg194
  z70 := Tryz.sizeOf194
  v70 := Tryz.zeroValue194
  t76 := Tryz.underlying213
  a76 := Tryz.isAgg213
  z76 := Tryz.sizeOf213
  v76 := Tryz.zeroValue213
  t77 := Tryz.underlying214
  a77 := Tryz.isAgg214
  z77 := Tryz.sizeOf214
  v77 := Tryz.zeroValue214 }
def Tryz.cmpI_ren : Go.Shelf.Ren := ⟨fun | 5 => 41 | 7 => 61 | n => n, fun | 22 => 3 | 3 => 3 | 4 => 4 | n => n, fun | n => n⟩
theorem Tryz.cmpI : Go.Proofs.SlLaysC2.n5 Tryz.prog Tryz.cmpI_ren := {
  mixed := by kernel_rfl
  f5 := ⟨Tryz.f41.name, by decide, Tryz.func41.trans (congrArg some (by kernel_rfl))⟩
  f7 := ⟨Tryz.f61.name, by decide, Tryz.func61.trans (congrArg some (by kernel_rfl))⟩
  t3 := Tryz.underlying3
  a3 := Tryz.isAgg3
  z3 := Tryz.sizeOf3
  v3 := Tryz.zeroValue3
  t4 := Tryz.underlying4
  a4 := Tryz.isAgg4
  z4 := Tryz.sizeOf4
  v4 := Tryz.zeroValue4
  t22 := Tryz.underlying3
  a22 := Tryz.isAgg3
  z22 := Tryz.sizeOf3
  v22 := Tryz.zeroValue3 }
end Go.Proofs

/-
  Layer 8: a row of timers in memory, and the library's sort of one by their ids.
-/
set_option linter.unusedVariables false
namespace Go.Proofs.YtiidhcpflplpiaaGreatDoor
open Go.RowKit Crn Nxt Ste
set_option maxRecDepth 100000
instance tmInh : Inhabited Tm := ⟨⟨0, 0, 0, 0, ⟨#[]⟩⟩⟩
def encT (t : Tm) : List Value := [.int .i64 t.id, .int .i64 t.client, .int .i64 t.gen, .int .i64 t.due, .string t.cron]
def flatT : List Tm → List Value
  | [] => []
  | t :: l => encT t ++ flatT l
theorem flatT_len (l : List Tm) : (flatT l).length = l.length * 5 := by
  induction l with
  | nil => rfl
  | cons t l ih => simp only [flatT, List.length_append, ih, List.length_cons]; simp [encT]; omega
theorem flatT_app (l m : List Tm) : flatT (l ++ m) = flatT l ++ flatT m := by
  induction l with
  | nil => rfl
  | cons t l ih => simp only [List.cons_append, flatT, ih, List.append_assoc]
theorem flatT_one (t : Tm) : flatT [t] = encT t := by simp [flatT]
theorem flatT_at (l : List Tm) (i j : Nat) (hi : i < l.length) (hj : j < 5) : (flatT l)[i * 5 + j]? = (encT l[i])[j]? := by
  induction l generalizing i with
  | nil => simp at hi
  | cons t l ih =>
    cases i with
    | zero =>
      simp only [flatT, Nat.zero_mul, Nat.zero_add, List.getElem_cons_zero]
      rw [List.getElem?_append_left (by simp [encT]; omega)]
    | succ i =>
      simp only [flatT, List.getElem_cons_succ]
      have hl : (encT t).length = 5 := rfl
      rw [List.getElem?_append_right (by rw [hl]; omega), hl, show (i + 1) * 5 + j - 5 = i * 5 + j by omega]
      exact ih i (by simpa using hi)
theorem flatT_flat (l : List Tm) : (flatT l) = (Go.Sort.flatK encT 5 l.toArray).toList := by
  apply List.ext_getElem?
  intro t
  by_cases ht : t < l.length * 5
  · have h1 : t = t / 5 * 5 + t % 5 := by omega
    have h2 : t / 5 < l.length := by omega
    have h3 : t % 5 < 5 := Nat.mod_lt _ (by omega)
    have h4 := flatT_at l (t / 5) (t % 5) h2 h3
    rw [← h1] at h4
    have h5 := Go.Sort.get_flatK encT 5 l.toArray t (by simpa using ht)
    have h6 : t < (Go.Sort.flatK encT 5 l.toArray).size := by simpa using ht
    rw [h4]
    rw [show (Go.Sort.flatK encT 5 l.toArray).toList[t]? = (Go.Sort.flatK encT 5 l.toArray)[t]? from Array.getElem?_toList, Array.getElem?_eq_getElem h6, ← getElem!_pos (Go.Sort.flatK encT 5 l.toArray) t h6, h5]
    have h7 : l.toArray[t / 5]! = l[t / 5] := by rw [getElem!_pos _ _ (by simpa using h2)]; simp
    rw [h7]
    have h8 : t % 5 < (encT l[t / 5]).length := h3
    rw [List.getElem?_eq_getElem h8, ← getElem!_pos (encT l[t / 5]) (t % 5) h8]
  · have h1 : (flatT l).length ≤ t := by rw [flatT_len]; omega
    rw [List.getElem?_eq_none h1, List.getElem?_eq_none (by simp; omega)]
/-- A row of timers. -/
def Tms (base : Nat) (w : World) (v : Value) (l : List Tm) : Prop := w.ownsRow base 37 5 v l.length (flatT l)
theorem ltId (x y : Tm) : ltOf (fun x y : Tm => Lib.compareInt x.id y.id) x y = decide (x.id < y.id) := by
  unfold ltOf Lib.compareInt
  by_cases h1 : x.id < y.id
  · simp [h1]
  · by_cases h2 : y.id < x.id <;> simp [h1, h2]
theorem swoId : Go.Sort.SWO (ltOf fun x y : Tm => Lib.compareInt x.id y.id) where
  irrefl x := by rw [ltId]; simp
  trans x y z h1 h2 := by rw [ltId] at *; simp at *; omega
  ntrans x y z h1 h2 := by rw [ltId] at *; simp at *; omega
set_option maxHeartbeats 1000000 in
theorem closureT (x y : Tm) (W : World) : Calls Tryz.prog 40 #[.agg (encT x).toArray, .agg (encT y).toArray] W fun e w' => e = .returned (.int .i64 (Lib.compareInt x.id y.id)) ∧ ∃ q os', w' = Go.Sort.grow (W.drewN q) os' := by
  have hcon := fun W' => AnyG.cmp_Compare_int Tryz.cmpI x.id y.id W'
  change ∀ W', Calls Tryz.prog 41 _ _ _ at hcon
  generalize Lib.compareInt x.id y.id = r at hcon ⊢
  obtain ⟨xid, xclient, xgen, xdue, xcron⟩ := x
  obtain ⟨yid, yclient, ygen, ydue, ycron⟩ := y
  simp only [encT, List.toArray] at *
  go_enter Tryz.func40, Tryz.ntmps40
  go_wp2_with (go_at_call 41; refine (hcon _).mono ?_; rintro e w' ⟨rfl, rfl⟩)
  go_ret
  exact ⟨rfl, 0, _, by rw [Go.Sort.alloc_eq_grow, Go.Sort.alloc_eq_grow, Go.Sort.grow_grow]; rfl⟩
theorem sorted_one {l T : List Tm} (hp : l.Perm T) (hu : Up T) (hs : l.Pairwise fun x y => ¬ y.id < x.id) : l = T := by
  have hd : l.Pairwise fun x y => x.id ≠ y.id := (hp.pairwise_iff (fun {a b} g e => g e.symm)).2 (hu.imp fun {a b} g e => by rw [e] at g; omega)
  have h1 : Up l := (hs.and hd).imp fun {a b} ⟨g1, g2⟩ => by omega
  exact hp.eq_of_pairwise (fun a b _ _ g1 g2 => by omega) h1 hu
theorem sort_any (base : Nat) (v : Value) (l T : List Tm) (w : World) (h : Tms base w v l) (hp : l.Perm T) (hu : Up T) (hl : l.length ≤ 1000) (hb : base ≤ w.heap.size) :
    Calls Tryz.prog 59 #[v, .func (.func 40) #[] #[]] w fun e w' => e = .returned (.tuple #[]) ∧ Tms base w' v T ∧ Below base w w' := by
  rcases h.2 with ⟨rfl, h0⟩ | ⟨g, cap, cur, rfl, hbg, hg, h1, h2, h3, h4⟩
  · obtain rfl : l = [] := by simpa using h0
    obtain rfl : T = [] := by simpa using hp.length_eq.symm
    have hcon := AnyF.slices_SortFunc_none { Tryz.sortT with } none 0 (.func (.func 40) #[] #[]) w
    exact hcon.mono fun e w' ⟨he, hw⟩ => ⟨he, by rw [hw]; exact ⟨h, Below.refl _ _⟩⟩
  · have hgl := lt_in hg
    have eg : ∀ args w, (callFunc 40 args).run Tryz.prog w = .ok (.enter 40 args) w := enters_of Tryz.func40 (by kernel_rfl) rfl
    have hH : Go.Sort.HoldsK encT 5 w g 0 l.toArray := by
      intro j hj
      have hj2 : j < l.length * 5 := by simpa using hj
      have e1 := cell_in hg j
      have e2 : cur[j]? = some (Go.Sort.flatK encT 5 l.toArray)[j]! := by
        have e3 : (cur.toList.take (l.length * 5))[j]? = (flatT l)[j]? := by rw [h4]
        rw [List.getElem?_take_of_lt hj2, flatT_flat] at e3
        rw [show cur.toList[j]? = cur[j]? from Array.getElem?_toList, show (Go.Sort.flatK encT 5 l.toArray).toList[j]? = (Go.Sort.flatK encT 5 l.toArray)[j]? from Array.getElem?_toList, Array.getElem?_eq_getElem hj, ← getElem!_pos (Go.Sort.flatK encT 5 l.toArray) j hj] at e3
        exact e3
      rw [Nat.zero_add]
      exact ⟨e1.trans e2, free_in hg j⟩
    have hcon := AnyQ.slices_SortFunc Tryz.sortT 5 Tryz.isAgg37 Tryz.sizeOf37 encT (fun _ => rfl) (fun x v hv => by simp [encT] at hv; rcases hv with rfl | rfl | rfl | rfl | rfl <;> rfl) (fun x y => Lib.compareInt x.id y.id) swoId 40 #[] g 0 cap l.toArray w eg (fun _ _ _ _ x y => closureT x y _) hH hgl (by simp; omega)
    change Calls Tryz.prog 59 _ _ _ at hcon
    rw [show l.toArray.size = l.length from List.size_toArray] at hcon
    refine hcon.mono ?_
    rintro e w' ⟨rfl, d', n, os, hP, hS, rfl⟩
    have hsz : d'.size = l.length := by simpa using hP.1
    have hperm : d'.toList.Perm l := by
      have e := hP.2.2
      have e1 : d'.extract 0 l.length = d' := by rw [← hsz]; exact Array.extract_size
      have e2 : l.toArray.extract 0 l.length = l.toArray := by rw [← List.size_toArray]; exact Array.extract_size
      rw [e1, e2] at e
      simpa using e
    have hsorted : d'.toList.Pairwise fun x y => ¬ y.id < x.id := by
      rw [List.pairwise_iff_getElem]
      intro i j hi hj hij
      have hi' : i < d'.size := by simpa using hi
      have hj' : j < d'.size := by simpa using hj
      have e := hS i j (Nat.zero_le _) hij (by omega)
      rw [ltId, getElem!_pos d' j hj', getElem!_pos d' i hi'] at e
      simpa using e
    have hT : d'.toList = T := sorted_one (hperm.trans hp) hu hsorted
    have hlT : T.length = l.length := hp.length_eq.symm
    have hflat : (Go.Sort.flatK encT 5 d').toList = flatT T := by rw [flatT_flat, ← hT]
    have hold : ∀ k, k < w.heap.size → k ≠ g → (sortWorldK encT 5 w g 0 n d' os).heap[k]? = w.heap[k]? := fun k hk hn => by
      unfold sortWorldK
      rw [Go.Sort.heap_grow_old _ _ (by simp [Go.Sort.putRowK, Go.Sort.putRow, Go.Sort.mapBlock, Go.Sort.ahead]; exact hk)]
      simp [Go.Sort.putRowK, Go.Sort.putRow, Go.Sort.mapBlock, Go.Sort.ahead, Array.getElem?_modify, Ne.symm hn]
    have hnew : (sortWorldK encT 5 w g 0 n d' os).heap[g]? = some (.cells (Go.Sort.putCells id 0 (Go.Sort.flatK encT 5 d') cur) 37 (0, 0)) := by
      unfold sortWorldK
      rw [Go.Sort.heap_grow_old _ _ (by simp [Go.Sort.putRowK, Go.Sort.putRow, Go.Sort.mapBlock, Go.Sort.ahead]; exact hgl)]
      simp [Go.Sort.putRowK, Go.Sort.putRow, Go.Sort.mapBlock, Go.Sort.ahead, Array.getElem?_modify, hg, Go.Sort.onCells]
    refine ⟨rfl, ⟨by rw [flatT_len], .inr ⟨g, cap, _, by rw [hlT], hbg, hnew, by rw [hlT]; exact h1, h2, by simp [Go.Sort.putCells, h3], ?_⟩⟩, ?_⟩
    · apply List.ext_getElem?
      intro i
      rw [← hflat, hlT, show (Go.Sort.flatK encT 5 d').toList[i]? = (Go.Sort.flatK encT 5 d')[i]? from Array.getElem?_toList]
      by_cases hi : i < l.length * 5
      · have hi2 : i < (Go.Sort.flatK encT 5 d').size := by rw [Go.Sort.size_flatK, hsz]; exact hi
        have hc : i < cur.size := by rw [h3]; have := Nat.mul_le_mul_right 5 h1; omega
        rw [List.getElem?_take_of_lt hi, show (Go.Sort.putCells id 0 (Go.Sort.flatK encT 5 d') cur).toList[i]? = (Go.Sort.putCells id 0 (Go.Sort.flatK encT 5 d') cur)[i]? from Array.getElem?_toList, Array.getElem?_eq_getElem hi2]
        simp [Go.Sort.putCells, hc, getElem!_pos, hsz, hi]
      · rw [List.getElem?_eq_none (by rw [List.length_take]; omega), Array.getElem?_eq_none (by rw [Go.Sort.size_flatK, hsz]; omega)]
    · exact ⟨rfl, rfl, rfl, by simp [sortWorldK, Go.Sort.putRowK, Go.Sort.putRow, Go.Sort.mapBlock, Go.Sort.ahead], fun k hk => hold k (by omega) (by omega)⟩
end Go.Proofs.YtiidhcpflplpiaaGreatDoor

/-
  Layer 8: maps.Values over the map of timers: an iterator that gives each timer once, in some order.
-/
set_option linter.unusedVariables false
namespace Go.Proofs.YtiidhcpflplpiaaGreatDoor
open Go.RowKit Ste Go.MapKept Go.ChangeMaps
set_option maxRecDepth 100000

section
variable {F : Fence} {n : Nat} {P : Program} {w : World} {ops : Array Oper} {rest : List Oper} {o : Oper} {a : Act} {Q : Exit → Act → World → Prop}
theorem wpListIn_range_raw (hg : o.guard = none) (m : Operand) (t : TypeId) (hop : o.op = Op.range t m) (v : Value) (hm : a.eval m = v) (r : Value) (w' : World) (hrun : (Instr.range t v).run P w = .ok r w')
    (hK : wpListIn F n P ops Q rest (a.put o.dst r) w') : wpListIn F n P ops Q (o :: rest) a w := by
  refine wpListIn_plain hg fun K' hK' => ?_
  unfold Oper.wpIn
  refine ⟨by simp [Oper.about, hop], ?_⟩
  rw [Oper.semAt_plain F _ _ (by rw [hop]; intro c hc'; cases hc')]
  simp [execOp, hop, hm, hrun, Result.andThen]
  exact hK' _ _ hK
theorem wpListIn_next_raw (hg : o.guard = none) (it : Operand) (hop : o.op = Op.next it false) (v : Value) (hm : a.eval it = v) (r : Value) (w' : World) (hrun : ∀ ty, (Instr.next v false ty).run P w = .ok r w')
    (hK : wpListIn F n P ops Q rest (a.put o.dst r) w') : wpListIn F n P ops Q (o :: rest) a w := by
  refine wpListIn_plain hg fun K' hK' => ?_
  unfold Oper.wpIn
  refine ⟨by simp [Oper.about, hop], ?_⟩
  rw [Oper.semAt_plain F _ _ (by rw [hop]; intro c hc'; cases hc')]
  simp [execOp, hop, hm, hrun, Result.andThen]
  exact hK' _ _ hK
end

/-- A range over the map under way: what has come, and how many are left. -/
def VR (w : World) (b r : Nat) (tl got : List Tm) (cnt : Nat) : Prop :=
  ∃ es clock since seen c0, w.heap[b]? = some (.map es clock) ∧ Stamped es clock ∧ es.toList.map (·.val) = tl.map tmV ∧ w.heap[r]? = some (.mapIter (some b) since seen c0) ∧ (∀ x ∈ es.toList, x.born < since) ∧ since ≤ c0 ∧ since ≤ clock ∧
    (leftOf es seen).size = cnt ∧ (got.map tmV ++ (leftOf es seen).toList.map (·.val)).Perm (tl.map tmV)
theorem left_perm {es : Array MapEntry} {seen : Array Nat} (hn : (es.toList.map (·.born)).Nodup) {e : MapEntry} (he : e ∈ (leftOf es seen).toList) : (leftOf es seen).toList.Perm (e :: (leftOf es (seen.push e.born)).toList) := by
  have hsub : ∀ s : Array Nat, (leftOf es s).toList = es.toList.filter fun x => !s.contains x.born := fun s => by unfold leftOf; simp
  have hnd : ∀ s : Array Nat, (leftOf es s).toList.Nodup := fun s => by
    rw [hsub]
    exact List.Pairwise.filter _ ((List.pairwise_map.1 hn).imp fun h e => h (by rw [e]))
  have hm := mem_left he
  rw [List.perm_ext_iff_of_nodup (hnd seen) (List.nodup_cons.2 ⟨fun g => by
    rw [hsub, List.mem_filter, contains_push] at g
    simp at g, hnd _⟩)]
  intro x
  rw [List.mem_cons, hsub, hsub, List.mem_filter, List.mem_filter, contains_push]
  constructor
  · rintro ⟨h1, h2⟩
    by_cases hb : x.born = e.born
    · exact .inl (born_inj hn h1 hm.1 hb)
    · refine .inr ⟨h1, ?_⟩
      have h3 : (x.born == e.born) = false := by simpa using hb
      rw [h3, Bool.or_false]
      exact h2
  · rintro (rfl | ⟨h1, h2⟩)
    · exact ⟨hm.1, by rw [hm.2]; rfl⟩
    · refine ⟨h1, ?_⟩
      cases hc : seen.contains x.born with
      | false => rfl
      | true => rw [hc] at h2; simp at h2
theorem tmV_inj {x y : Tm} (h : tmV x = tmV y) : x = y := by
  obtain ⟨a1, a2, a3, a4, a5⟩ := x
  obtain ⟨b1, b2, b3, b4, b5⟩ := y
  simp [tmV] at h
  obtain ⟨h1, h2, h3, h4, h5⟩ := h
  subst h1; subst h2; subst h3; subst h4; subst h5
  rfl
def unTm : Value → Tm
  | .agg cs => match cs.toList with
    | [.int _ a, .int _ b, .int _ c, .int _ d, .string s] => ⟨a, b, c, d, s⟩
    | _ => ⟨0, 0, 0, 0, ⟨#[]⟩⟩
  | _ => ⟨0, 0, 0, 0, ⟨#[]⟩⟩
theorem unTm_tmV (t : Tm) : unTm (tmV t) = t := rfl
theorem perm_tmV {l m : List Tm} (h : (l.map tmV).Perm (m.map tmV)) : l.Perm m := by
  have e : ∀ k : List Tm, (k.map tmV).map unTm = k := fun k => by
    rw [List.map_map]
    conv => rhs; rw [← List.map_id k]
    rfl
  have := h.map unTm
  rwa [e, e] at this
theorem VMap.range {w : World} {b : Nat} {tl : List Tm} (h : VMap w b (tl.map tmP)) :
    ∃ w', (Instr.range mt (.map (some b))).run Tryz.prog w = .ok (.pointer (some ⟨w.heap.size, 0, none⟩)) w' ∧ VR w' b w.heap.size tl [] tl.length ∧ w.grownBy w' none := by
  have hlt := h.lt
  obtain ⟨es, clock, hb, hs, he⟩ := h
  have hv : es.toList.map (·.val) = tl.map tmV := by
    have := congrArg (List.map Prod.snd) he
    rw [List.map_map, List.map_map, List.map_map] at this
    exact this
  have hlen : es.size = tl.length := by
    have := congrArg List.length hv
    simpa using this
  have hle : leftOf es #[] = es := by simp [leftOf]
  refine ⟨_, run_range_map w mt 3 37 b es clock mapT hb, ⟨es, clock, clock, #[], clock, ((MapKept.heap_alloc w _).2 b hlt).trans hb, hs, hv, (MapKept.heap_alloc w _).1, hs.1, Nat.le_refl _, Nat.le_refl _, by rw [hle]; exact hlen, by rw [hle, hv]; exact List.Perm.refl _⟩, World.grownBy_alloc w _ none⟩
theorem VR.left_eq {w : World} {b r : Nat} {tl got : List Tm} {cnt : Nat} (h : VR w b r tl got cnt) : w.rangeLeft b r = cnt := by
  obtain ⟨es, clock, since, seen, c0, hb, _, _, hr, _, _, _, hc, _⟩ := h
  simp only [World.rangeLeft, hb, hr]
  exact hc
theorem VR.of_walks {w w' : World} {b r : Nat} {tl got : List Tm} {cnt : Nat} (h : VR w b r tl got cnt) (k : KeepsWalks w w') : VR w' b r tl got cnt := by
  obtain ⟨es, clock, since, seen, c0, hb, h2, h3, hr, rest⟩ := h
  exact ⟨es, clock, since, seen, c0, k.same b _ hb rfl, h2, h3, k.same r _ hr rfl, rest⟩
theorem VR.iter_walk {w : World} {b r : Nat} {tl got : List Tm} {cnt : Nat} (h : VR w b r tl got cnt) : ∃ o : Obj, w.heap[r]? = some o ∧ o.isWalk = true := by
  obtain ⟨es, clock, since, seen, c0, hb, h2, h3, hr, rest⟩ := h
  exact ⟨_, hr, rfl⟩
theorem VR.done {w : World} {b r : Nat} {tl got : List Tm} (h : VR w b r tl got 0) : got.Perm tl := by
  obtain ⟨es, clock, since, seen, c0, hb, _, _, hr, _, _, _, hc, hp⟩ := h
  have : (leftOf es seen).toList = [] := by
    have h0 : leftOf es seen = #[] := Array.eq_empty_of_size_eq_zero hc
    rw [h0]
  rw [this, List.map_nil, List.append_nil] at hp
  exact perm_tmV hp
theorem VR.next {w : World} {b r : Nat} {tl got : List Tm} {cnt : Nat} (h : VR w b r tl got cnt) :
    (cnt = 0 ∧ ∀ ty, (Instr.next (.pointer (some ⟨r, 0, none⟩)) false ty).run Tryz.prog w = .ok (.tuple #[.bool false]) w) ∨
    ∃ (key : Value) (x : Tm) (w' : World) (cnt' : Nat), (∀ ty, (Instr.next (.pointer (some ⟨r, 0, none⟩)) false ty).run Tryz.prog w = .ok (.tuple #[.bool true, key, tmV x]) w') ∧ VR w' b r tl (got ++ [x]) cnt' ∧ cnt' < cnt ∧ w.grownBy w' (some r) ∧ (Instr.entry (.pointer (some ⟨r, 0, none⟩))).run Tryz.prog w' = .ok (.tuple #[key, tmV x]) w' := by
  obtain ⟨es, clock, since, seen, c0, hb, hs, hv, hr, hold, hsc, hsk, rfl, hp⟩ := h
  have hne : r ≠ b := fun e => by rw [e, hb] at hr; cases hr
  rcases run_next_at (P := Tryz.prog) w 0 r b since c0 seen es clock hr hb hold hsc with ⟨h0, hrun⟩ | ⟨e, he, w1, hal, hrun⟩
  · exact .inl ⟨h0, fun ty => hrun⟩
  · have hnd := ((stamped_iff es clock).1 hs).2.1
    have hm := (mem_left he).1
    obtain ⟨x, hx, hxv⟩ : ∃ x ∈ tl, tmV x = e.val := by
      have : e.val ∈ tl.map tmV := by rw [← hv]; exact List.mem_map.2 ⟨e, hm, rfl⟩
      exact List.mem_map.1 this
    have hr1 : w1.heap[r]? = some (.mapIter (some b) since seen c0) := by rcases hal with rfl | rfl <;> exact hr
    have hb1 : w1.heap[b]? = some (.map es clock) := by rcases hal with rfl | rfl <;> exact hb
    have hset := heap_set (o' := .mapIter (some b) since (seen.push e.born) clock) hr1
    have hb' : (setBlock w1 r (.mapIter (some b) since (seen.push e.born) clock)).heap[b]? = some (.map es clock) := (hset.2 b (fun e1 => hne e1.symm)).trans hb1
    have hlp := (left_perm hnd he).map (·.val)
    refine .inr ⟨e.key, x, _, _, fun ty => by rw [hxv]; exact hrun, ⟨es, clock, since, seen.push e.born, clock, hb', hs, hv, hset.1, hold, hsk, hsk, rfl, ?_⟩, left_shrinks es seen e he, ?_, by rw [hxv]; exact run_entry_at _ r b since seen es clock e hset.1 hb' hm hnd⟩
    · rw [List.map_append, List.append_assoc]
      refine List.Perm.trans (List.Perm.append_left _ ?_) hp
      rw [List.map_cons, List.map_nil, List.singleton_append, hxv]
      exact hlp.symm
    · rcases hal with rfl | rfl <;> exact ⟨rfl, rfl, rfl, by simp [setBlock], fun i _ hi => hset.2 i (fun e1 => hi (by rw [e1]))⟩

set_option maxHeartbeats 1000000 in
theorem values1_in (F : Fence) (n : Nat) (h60 : F.fn 60) (hro : F.round = none) (hn : 1 ≤ n) (l Bm b : Nat) (tl : List Tm) (J : List Tm → World → Prop)
    (hY : ∀ pre x W, J pre W → pre.length < tl.length → YieldAt F (n - 1) Tryz.prog l #[tmV x] W fun e W' => e = .returned (.bool true) ∧ J (pre ++ [x]) W' ∧ KeepsWalks W W')
    (W : World) (hJ : AbidesFrom W.heap.size J) (hm : W.cell? ⟨Bm, 0, none⟩ = some (.map (some b))) (hv : VMap W b (tl.map tmP)) (h0 : J [] W) :
    CallsIn F n Tryz.prog 60 #[.func (.yield l) #[] #[], .pointer (some ⟨Bm, 0, none⟩)] W fun e W' => (∃ v, e = .returned v) ∧ ∃ ss : List Tm, ss.Perm tl ∧ J ss W' := by
  obtain ⟨w0, hrun0, hvr0, hg0⟩ := hv.range
  refine callsIn_of_wp Tryz.func60 rfl h60 ?_ hro
  simp only [Tryz.ntmps60, List.size_toArray, List.length_cons, List.length_nil, Nat.reduceAdd, Nat.reduceSub, Array.replicate_succ, Array.replicate_zero, List.push_toArray, List.append_toArray, List.nil_append, List.cons_append]
  gi_wp2_with (first
    | (gi_at_range; refine wpListIn_range_raw rfl _ mt rfl _ rfl _ _ hrun0 ?_)
    | gi_in)
  go_frame
  gi_loopw [4] (fun _ wr => ∃ (cnt : Nat) (ss : List Tm), VR wr b W.heap.size tl ss cnt ∧ ss.length + cnt ≤ tl.length ∧ J ss wr) (fun _ wr => wr.rangeLeft b W.heap.size)
  case atStart => exact ⟨_, [], hvr0, by simp, hJ [] W w0 none h0 hg0 (fun r e => by cases e)⟩
  case round =>
    obtain ⟨cnt, ss, hrg, hcs, hJs⟩ := hrel
    rcases hrg.next with ⟨rfl, hrun⟩ | ⟨key, x, w2, cnt2, hrun, hrg2, hlt, hg2, hen⟩
    · gi_wp2_with (first
        | (gi_at_next; refine wpListIn_next_raw rfl _ rfl _ rfl _ _ hrun ?_)
        | gi_in)
      go_end0
      exact ⟨⟨_, rfl⟩, ss, hrg.done, hJs⟩
    · have hJ2 : J ss w2 := hJ ss wr w2 (some W.heap.size) hJs hg2 (fun r e => by cases e; exact ⟨Nat.le_refl _, hrg.iter_walk⟩)
      have hJ3 : J ss (w2.alloc (.cells #[.int .i64 x.id, .int .i64 x.client, .int .i64 x.gen, .int .i64 x.due, .string x.cron] 37)) := hJ ss w2 _ none hJ2 (World.grownBy_alloc w2 _ none) (fun r e => by cases e)
      obtain ⟨fn, tmps, assign, body, hy, hR⟩ := hY ss x _ hJ3 (by omega)
      have hrg3 := hrg2.of_walks (KeepsWalks.alloc w2 (.cells #[.int .i64 x.id, .int .i64 x.client, .int .i64 x.gen, .int .i64 x.due, .string x.cron] 37))
      obtain ⟨xid, xclient, xgen, xdue, xcron⟩ := x
      simp only [tmV] at *
      gi_wp2_with (first
        | (gi_at_next; refine wpListIn_next_raw rfl _ rfl _ rfl _ _ hrun ?_)
        | gi_in)
      refine hR.mono ?_
      rintro e W3 ⟨rfl, hJ4, hk4⟩
      gi_wp2
      have hrg4 := hrg3.of_walks hk4
      go_roundw
      case rel => exact ⟨cnt2, ss ++ [⟨xid, xclient, xgen, xdue, xcron⟩], hrg4, by simp; omega, hJ4⟩
      case measure => rw [hrg4.left_eq, hrg.left_eq]; exact hlt
end Go.Proofs.YtiidhcpflplpiaaGreatDoor

/-
  Layer 8: slices.Collect over the map's values, the sort behind it, and List.
-/
set_option linter.unusedVariables false
namespace Go.Proofs.YtiidhcpflplpiaaGreatDoor
open Go.RowKit Ste Go.MapKept Go.ChangeMaps
set_option maxRecDepth 100000
theorem infoTm : (Tryz.prog.info? 37).map (fun i => (i.zero, i.size, i.bytes)) = some (some (.agg #[.int .i64 0, .int .i64 0, .int .i64 0, .int .i64 0, .string ⟨#[]⟩]), 5, 48) := by kernel_rfl
def apAssign : Code := (Code.region 2 #[{ dst := some 5, op := Op.alloc 37, type := 0, pos := "iter.go:51", after := #[], guard := none }, { dst := none, op := Op.store 37 (Operand.tmp 5) (Operand.tmp 7), type := 0, pos := "iter.go:51", after := #[{ on := 0, ground := Ground.data }, { on := 0, ground := Ground.phase }], guard := none }] false)
def apBody : Code := (Code.block 1 (Code.region 3 #[{ dst := some 8, op := Op.load 43 (Operand.tmp 2), type := 43, pos := "iter.go:52", after := #[], guard := none }, { dst := some 9, op := Op.load 37 (Operand.tmp 5), type := 37, pos := "iter.go:52", after := #[], guard := none }, { dst := some 10, op := Op.buildSlice 43 1 #[(0, Operand.tmp 9)], type := 43, pos := "iter.go:52", after := #[{ on := 1, ground := Ground.data }], guard := none }, { dst := some 11, op := Op.call { callee := Callee.builtin Builtin.append, args := #[Operand.tmp 8, Operand.tmp 10], argTypes := #[43, 43] }, type := 43, pos := "iter.go:52", after := #[{ on := 0, ground := Ground.data }, { on := 2, ground := Ground.data }], guard := none }, { dst := none, op := Op.store 43 (Operand.tmp 2) (Operand.tmp 11), type := 0, pos := "iter.go:52", after := #[{ on := 3, ground := Ground.data }, { on := 3, ground := Ground.chain }, { on := 0, ground := Ground.phase }, { on := 1, ground := Ground.phase }, { on := 2, ground := Ground.phase }, { on := 3, ground := Ground.phase }], guard := none }] false))
/-- The loop's record: AppendSeq's temporaries as they stood at the entering. -/
def apRec (fn : FuncId) (sv : Value) (Bs D : Nat) (st : LoopState) (pend : Option Code) : Loop :=
  { state := st, pending := pend, fn, tmps := #[.slice none 0 0, sv, .pointer (some ⟨Bs, 0, none⟩), undef, .slice none 0 0, undef, sv, undef, undef, undef, undef, undef, undef], params := #[7], assign := apAssign, body := apBody, defers := D }
structure ApAt (w0 : World) (fn : FuncId) (sv : Value) (Bs l D : Nat) (ss : List Tm) (W : World) : Prop where
  box : ∃ v, W.heap[Bs]? = some (.cells #[v] 43 (0, 0)) ∧ Tms w0.heap.size W v ss
  L : W.heap[l]? = some (.loop (apRec fn sv Bs D .ready none))
  K : W.heap[D]? = some (.deferred (some []))
  below : Below w0.heap.size w0 W
theorem ap_abides (w0 : World) (fn : FuncId) (sv : Value) (Bs l D B : Nat) (hB : w0.heap.size ≤ B) : AbidesFrom B (ApAt w0 fn sv Bs l D) := fun s W W' row h hg hrow => by
  have hrow' : ∀ r, row = some r → ∃ o : Obj, W.heap[r]? = some o ∧ o.isWalk = true := fun r e => (hrow r e).2
  obtain ⟨v, hv, hr⟩ := h.box
  exact ⟨⟨v, (grownBy_keeps hg hrow' hv rfl).trans hv, ownsRow_abides_a hr hg hrow'⟩, (grownBy_keeps hg hrow' h.L rfl).trans h.L, (grownBy_keeps hg hrow' h.K rfl).trans h.K,
    h.below.grown hg h.below.size (fun k e => Nat.le_trans hB (hrow k e).1)⟩
theorem cells_new (W : World) (x : Tm) : ∀ j u, (encT x)[j]? = some u → (W.alloc (.cells #[.int .i64 x.id, .int .i64 x.client, .int .i64 x.gen, .int .i64 x.due, .string x.cron] 37)).cell? ((⟨W.heap.size, 0, none⟩ : Addr).add j) = some u := by
  intro j u hu
  rw [Addr.add_lit]
  have e := cell_in (Go.heap_alloc_new W (.cells #[.int .i64 x.id, .int .i64 x.client, .int .i64 x.gen, .int .i64 x.due, .string x.cron] 37)) (0 + j)
  rw [e, Nat.zero_add, ← hu]
  match j with
  | 0 => rfl
  | 1 => rfl
  | 2 => rfl
  | 3 => rfl
  | 4 => rfl
  | j + 5 => simp [encT]
set_option maxHeartbeats 4000000 in
theorem apYield (F : Fence) (m : Nat) (w0 : World) (fn : FuncId) (hfn : F.fn fn) (sv : Value) (Bs l D : Nat) (hBl : Bs ≠ l) (hDl : D ≠ l) (hDB : D ≠ Bs) (h0B : w0.heap.size ≤ Bs) (h0l : w0.heap.size ≤ l)
    (N : Nat) (hN : N ≤ 1000) (ss : List Tm) (x : Tm) (W : World) (h : ApAt w0 fn sv Bs l D ss W) (hlen : ss.length < N) :
    YieldAt F m Tryz.prog l #[tmV x] W fun e W' => e = .returned (.bool true) ∧ ApAt w0 fn sv Bs l D (ss ++ [x]) W' ∧ KeepsWalks W W' := by
  obtain ⟨i0, hi, hz0, hz1, hz2⟩ := info_parts infoTm
  obtain ⟨v, hv, hrow⟩ := h.box
  refine ⟨fn, #[.slice none 0 0, sv, .pointer (some ⟨Bs, 0, none⟩), undef, .slice none 0 0, undef, sv, tmV x, undef, undef, undef, undef, undef], apAssign, apBody, by simpa [apRec] using run_yield (P := Tryz.prog) (args := #[tmV x]) h.L rfl, roundIn_of_wpIn hfn ?_⟩
  have hl : l < W.heap.size := (Array.getElem?_eq_some_iff.1 h.L).1
  obtain ⟨xid, xclient, xgen, xdue, xcron⟩ := x
  simp only [tmV] at *
  obtain ⟨W1, hW1⟩ : ∃ W1, W.alloc (.cells #[.int .i64 xid, .int .i64 xclient, .int .i64 xgen, .int .i64 xdue, .string xcron] 37) = W1 := ⟨_, rfl⟩
  have hold1 : ∀ k, k < W.heap.size → W1.heap[k]? = W.heap[k]? := fun k hk => by rw [← hW1]; exact Below.heap_alloc _ _ k hk
  have hL1 : W1.heap[l]? = some (.loop (apRec fn sv Bs D .ready none)) := (hold1 l hl).trans h.L
  have hT1 : W1.heap[W.heap.size]? = some (.cells #[.int .i64 xid, .int .i64 xclient, .int .i64 xgen, .int .i64 xdue, .string xcron] 37 (0, 0)) := by rw [← hW1]; exact Go.heap_alloc_new W _
  have hg1 : W.grownBy W1 none := by rw [← hW1]; exact World.grownBy_alloc W _ none
  have hk1 : KeepsWalks W W1 := by rw [← hW1]; exact KeepsWalks.alloc W _
  have hbr := run_beginRound (P := Tryz.prog) hL1 rfl
  obtain ⟨W2, hW2⟩ : ∃ W2, W1.putObj l (.loop { apRec fn sv Bs D .ready none with state := .busy }) = W2 := ⟨_, rfl⟩
  rw [hW2] at hbr
  have hBlt0 : Bs < W.heap.size := (Array.getElem?_eq_some_iff.1 hv).1
  have hDlt0 : D < W.heap.size := (Array.getElem?_eq_some_iff.1 h.K).1
  have hg2 : W1.grownBy W2 (some l) := by rw [← hW2]; exact grownBy_putObj_a _ _ _
  have hk2 : KeepsWalks W W2 := hk1.trans (by rw [← hW2]; exact KeepsWalks.putObj _ hL1 rfl)
  have hv2 : W2.heap[Bs]? = some (.cells #[v] 43 (0, 0)) := by rw [← hW2]; exact (World.putObj_heap_other hBl).trans ((hold1 _ hBlt0).trans hv)
  have hK2 : W2.heap[D]? = some (.deferred (some [])) := by rw [← hW2]; exact (World.putObj_heap_other hDl).trans ((hold1 _ hDlt0).trans h.K)
  have hL2 : W2.heap[l]? = some (.loop { apRec fn sv Bs D .ready none with state := .busy }) := by rw [← hW2]; exact World.putObj_heap_same (Array.getElem?_eq_some_iff.1 hL1).1
  have hT2 : W2.heap[W.heap.size]? = some (.cells #[.int .i64 xid, .int .i64 xclient, .int .i64 xgen, .int .i64 xdue, .string xcron] 37 (0, 0)) := by rw [← hW2]; exact (World.putObj_heap_other (by omega)).trans hT1
  have hrow1 : W1.ownsRow w0.heap.size 37 5 v ss.length (flatT ss) := by rw [← hW1]; exact World.ownsRow.alloc hrow _
  have hrow2 : W2.ownsRow w0.heap.size 37 5 v ss.length (flatT ss) := World.ownsRow.kept hrow1 hg2 (ownsRow_ne_a hrow1 hL1 (fun cur e => by cases e))
  have hb2 : Below w0.heap.size w0 W2 := (h.below.grown hg1 h.below.size (fun k e => by cases e)).grown hg2 (Nat.le_trans h.below.size hg1.size) (fun k e => by cases e; exact h0l)
  obtain ⟨hc2, hf2⟩ := cell_of_box_a hv2
  have hBlt : Bs < W2.heap.size := (Array.getElem?_eq_some_iff.1 hv2).1
  have hl2 : l < W2.heap.size := (Array.getElem?_eq_some_iff.1 hL2).1
  have hDlt : D < W2.heap.size := (Array.getElem?_eq_some_iff.1 hK2).1
  have ne_of : ∀ {j : Nat} {o : Obj}, W2.heap[j]? = some o → (∀ cur, o ≠ .cells cur 37 (0, 0)) → some j ≠ v.ownBlock := fun hj hno => by
    rcases ownsRow_ne_a hrow2 hj hno with e | e
    · rw [e]; simp
    · exact fun e' => e e'.symm
  clear hW2
  unfold apAssign
  gi_wp2_with gi_round_op_a
  have hc50 := cell_in hT2 0
  have hc51 := cell_in hT2 1
  have hc52 := cell_in hT2 2
  have hc53 := cell_in hT2 3
  have hc54 := cell_in hT2 4
  simp only [List.getElem?_toArray, List.getElem?_cons_zero, List.getElem?_cons_succ] at hc50 hc51 hc52 hc53 hc54
  generalize W.heap.size = g5 at *
  unfold apBody
  gi_wp2_with (first
    | (gi_at_builtin; refine wpListIn_append_own _ rfl _ _ 43 rfl w0.heap.size 37 i0 _ 5 48 Tryz.underlying43 hi hz0 hz1 hz2 rfl (by decide) _ _ _ rfl (hrow2.alloc _) ⟨W2.heap.size, 0, none⟩ 1 1 (encT ⟨xid, xclient, xgen, xdue, xcron⟩) rfl rfl (cells_new W2 ⟨xid, xclient, xgen, xdue, xcron⟩) (by intro u hu; simp [encT] at hu; rcases hu with rfl | rfl | rfl | rfl | rfl <;> rfl) (by unfold maxLen; omega) (by omega) (by have := hb2.size; simp; omega) ?_; intro v' w3 hown' hg3 hnil3
       have hv3 : w3.heap[Bs]? = some (.cells #[v] 43 (0, 0)) := (hg3.block Bs (by simp; omega) (ne_of hv2 (fun cur e => by injection e with _ e2 _; cases e2))).trans ((Below.heap_alloc _ _ Bs hBlt).trans hv2)
       obtain ⟨hc3, hf3⟩ := cell_of_box_a hv3
       obtain ⟨g', cap', rfl⟩ : ∃ g' cap', v' = .slice (some ⟨g', 0, none⟩) (ss.length + 1) cap' := by
         rcases hown'.2 with ⟨_, h0⟩ | ⟨g', cap', _, e, _⟩
         · exact absurd h0 (by omega)
         · exact ⟨g', cap', e⟩
       go_frame)
    | gi_round_op_a)
  have hg3' : (W2.alloc (.cells #[.int .i64 xid, .int .i64 xclient, .int .i64 xgen, .int .i64 xdue, .string xcron] 37)).grownBy w3 v.ownBlock := hg3
  have hL3 : w3.heap[l]? = some (.loop { apRec fn sv Bs D .ready none with state := .busy }) := (hg3'.block l (by simp; omega) (ne_of hL2 (fun cur e => by cases e))).trans ((Below.heap_alloc _ _ l hl2).trans hL2)
  have hK3 : w3.heap[D]? = some (.deferred (some [])) := (hg3'.block D (by simp; omega) (ne_of hK2 (fun cur e => by cases e))).trans ((Below.heap_alloc _ _ D hDlt).trans hK2)
  obtain ⟨w4, hw4⟩ : ∃ w4, w3.setCell ⟨Bs, 0, none⟩ (.slice (some ⟨g', 0, none⟩) (ss.length + 1) cap') = w4 := ⟨_, rfl⟩
  rw [hw4]
  have hg4 : w3.grownBy w4 (some Bs) := by rw [← hw4]; exact grownBy_setCell0_a _ _ _
  have hv4 : w4.heap[Bs]? = some (.cells #[.slice (some ⟨g', 0, none⟩) (ss.length + 1) cap'] 43 (0, 0)) := by rw [← hw4]; exact heap_setCell_box_a _ hv3
  have hL4 : w4.heap[l]? = some (.loop { apRec fn sv Bs D .ready none with state := .busy }) := (hg4.block l (Array.getElem?_eq_some_iff.1 hL3).1 (fun e => hBl (by cases e; rfl))).trans hL3
  have hK4 : w4.heap[D]? = some (.deferred (some [])) := (hg4.block D (Array.getElem?_eq_some_iff.1 hK3).1 (fun e => hDB (by cases e; rfl))).trans hK3
  have hrow4 := hown'.kept hg4 (ownsRow_ne_a hown' hv3 (fun cur e => by injection e with _ e2 _; cases e2))
  have hl4 : l < w4.heap.size := (Array.getElem?_eq_some_iff.1 hL4).1
  have hb3 : Below w0.heap.size w0 w3 := (hb2.alloc hb2.size _).grown hg3' (by have := hb2.size; simp; omega) (fun k e => (hrow2.lt k e).1)
  have hb4 : Below w0.heap.size w0 w4 := hb3.grown hg4 hb3.size (fun k e => by cases e; exact h0B)
  have hk4 : KeepsWalks W w4 := ((hk2.trans (KeepsWalks.alloc _ _)).trans (KeepsWalks.of_grownBy hg3' (ownsRow_not_walk_a (hrow2.alloc _)))).trans (by rw [← hw4]; exact KeepsWalks.setCell _ _ _)
  clear hw4
  refine ⟨_, _, run_endRound none hL4, rfl, ⟨⟨_, (World.putObj_heap_other hBl).trans hv4, ?_⟩, World.putObj_heap_same hl4, (World.putObj_heap_other hDl).trans hK4, hb4.grown (grownBy_putObj_a _ _ _) hb4.size (fun k e => by cases e; exact h0l)⟩, hk4.trans (KeepsWalks.putObj _ hL4 rfl)⟩
  have e := hrow4.kept (grownBy_putObj_a w4 l (.loop { { apRec fn sv Bs D .ready none with state := .busy } with state := if (none : Option Code).isNone then .ready else .done, pending := none })) (ownsRow_ne_a hrow4 hL4 (fun cur e => by cases e))
  unfold Tms
  rw [List.length_append, flatT_app, flatT_one]
  exact e

set_option maxHeartbeats 2000000 in
theorem appendSeq_in (F : Fence) (n : Nat) (h79 : F.fn 79) (hro : F.round = none) (hn : 2 ≤ n) (g : Nat) (lb : Array Value) (hFg : F.fn g) (eg : ∀ args w, (callFunc g args).run Tryz.prog w = .ok (.enter g args) w)
    (S : List Tm → Prop) (N : Nat) (hN : N ≤ 1000) (w : World) (hseq : SeqGives F (n - 1) Tryz.prog g lb tmV S N w) :
    CallsIn F n Tryz.prog 79 #[.slice none 0 0, .func (.func g) #[] lb] w fun e w' => ∃ (v : Value) (ss : List Tm), e = .returned v ∧ S ss ∧ Tms w.heap.size w' v ss ∧ Below w.heap.size w w' := by
  have h1 : 1 ≤ n := by omega
  refine callsIn_of_wp_marks Tryz.func79 rfl h79 ?_ hro
  simp only [Tryz.ntmps79, List.size_toArray, List.length_cons, List.length_nil, Nat.reduceAdd, Nat.reduceSub, Array.replicate_succ, Array.replicate_zero, List.push_toArray, List.append_toArray, List.nil_append, List.cons_append]
  gi_wp2
  refine wpIn_rangeFunc ?_
  intro fn hfn
  rw [hro]
  obtain ⟨W0, hW0⟩ : ∃ W0, w.alloc (.cells #[.slice none 0 0] 43) = W0 := ⟨_, rfl⟩
  have hs0 : W0.heap.size = w.heap.size + 1 := by rw [← hW0]; simp
  have hv0 : W0.heap[w.heap.size]? = some (.cells #[.slice none 0 0] 43 (0, 0)) := by rw [← hW0]; exact World.alloc_heap_new w _
  have hb0 : Below w.heap.size w W0 := by rw [← hW0]; exact (Below.refl _ w).alloc (Nat.le_refl _) _
  rw [hW0]
  obtain ⟨W1, hW1⟩ : ∃ W1, (W0.alloc (.deferred (some []))).alloc (.loop (apRec fn (.func (.func g) #[] lb) w.heap.size W0.heap.size .ready none)) = W1 := ⟨_, rfl⟩
  have hold : ∀ k, k < W0.heap.size → W1.heap[k]? = W0.heap[k]? := fun k hk => by
    rw [← hW1]; exact (Below.heap_alloc _ _ k (by simp; omega)).trans (Below.heap_alloc _ _ k hk)
  have hb1 : Below w.heap.size w W1 := by rw [← hW1]; exact (hb0.alloc hb0.size _).alloc (by have := hb0.size; simp; omega) _
  have hs1 : W1.heap.size = W0.heap.size + 2 := by rw [← hW1]; simp
  have hM : ApAt w fn (.func (.func g) #[] lb) w.heap.size (W0.heap.size + 1) W0.heap.size [] W1 :=
    ⟨⟨_, (hold w.heap.size (by omega)).trans hv0, ⟨rfl, .inl ⟨rfl, rfl⟩⟩⟩,
     by rw [← hW1]; have := World.alloc_heap_new (W0.alloc (.deferred (some []))) (.loop (apRec fn (.func (.func g) #[] lb) w.heap.size W0.heap.size .ready none)); rwa [World.size_alloc] at this,
     by rw [← hW1]; exact (Below.heap_alloc _ _ _ (by simp)).trans (World.alloc_heap_new W0 _), hb1⟩
  refine ⟨W0.heap.size + 1, [{ target := .collected W0.heap.size, args := #[] }], W1, { target := .fn (.func g) lb, args := #[.func (.yield (W0.heap.size + 1)) #[] #[]] }, W1, g,
    #[.func (.yield (W0.heap.size + 1)) #[] #[]] ++ lb, W1, ?_, ?_, ?_, ?_, fun _ => h1, ?_⟩
  · rw [← hW1]; exact run_enterLoop_outer _ _ _ _ _
  · simp [resolve, go_sem]
  · intro f' hf'; simp [Target.leads] at hf'; subst hf'; exact hFg
  · simp [invoke, go_sem, eg]
  · refine (hseq (W0.heap.size + 1) (ApAt w fn (.func (.func g) #[] lb) w.heap.size (W0.heap.size + 1) W0.heap.size) W1 hb1 (ap_abides _ _ _ _ _ _ _ hb1.size)
      (fun pre x W hJ hl => apYield F (n - 1 - 1) w fn hfn _ w.heap.size (W0.heap.size + 1) W0.heap.size (by omega) (by omega) (by omega) (Nat.le_refl _) (by omega) N hN pre x W hJ hl) hM).mono ?_
    rintro e W2 ⟨⟨v0, rfl⟩, ss, hS, h2⟩
    obtain ⟨v, hv, hrow⟩ := h2.box
    have hend := run_endLoop (P := Tryz.prog) h2.L (by simp [apRec])
    obtain ⟨W3, hW3⟩ : ∃ W3, W2.putObj (W0.heap.size + 1) (.loop { apRec fn (.func (.func g) #[] lb) w.heap.size W0.heap.size .ready none with state := .exhausted }) = W3 := ⟨_, rfl⟩
    rw [hW3] at hend
    have hg3 : W2.grownBy W3 (some (W0.heap.size + 1)) := by rw [← hW3]; exact grownBy_putObj_a _ _ _
    have hv3 : W3.heap[w.heap.size]? = some (.cells #[v] 43 (0, 0)) := by rw [← hW3]; exact (World.putObj_heap_other (by omega)).trans hv
    have hK3 : W3.heap[W0.heap.size]? = some (.deferred (some [])) := by rw [← hW3]; exact (World.putObj_heap_other (by omega)).trans h2.K
    have hrow3 := World.ownsRow.kept hrow hg3 (ownsRow_ne_a hrow h2.L (fun cur e => by cases e))
    have hb3 : Below w.heap.size w W3 := h2.below.grown hg3 h2.below.size (fun k e => by cases e; omega)
    obtain ⟨hc3, hf3⟩ := cell_of_box_a hv3
    clear hW3
    refine ⟨none, W3, hend, ?_⟩
    gi_wp2
    rw [← hs0]
    refine ⟨by simp, .inl ⟨_, _, rfl, run_takeDeferred hK3, ?_⟩⟩
    exact ⟨_, results_tmp rfl _ _ _, v, ss, rfl, hS, World.ownsRow.kept hrow3 (grownBy_putObj_a _ _ _) (ownsRow_ne_a hrow3 hK3 (fun cur e => by cases e)), hb3.grown (grownBy_putObj_a _ _ _) hb3.size (fun k e => by cases e; omega)⟩
set_option maxHeartbeats 1000000 in
theorem collect_in (F : Fence) (n : Nat) (h58 : F.fn 58) (h79 : F.fn 79) (hro : F.round = none) (hn : 3 ≤ n) (g : Nat) (lb : Array Value) (hFg : F.fn g) (eg : ∀ args w, (callFunc g args).run Tryz.prog w = .ok (.enter g args) w)
    (S : List Tm → Prop) (N : Nat) (hN : N ≤ 1000) (w : World) (hseq : SeqGives F (n - 1 - 1) Tryz.prog g lb tmV S N w) :
    CallsIn F n Tryz.prog 58 #[.func (.func g) #[] lb] w fun e w' => ∃ (v : Value) (ss : List Tm), e = .returned v ∧ S ss ∧ Tms w.heap.size w' v ss ∧ Below w.heap.size w w' := by
  have h1 : 1 ≤ n := by omega
  refine callsIn_of_wp Tryz.func58 rfl h58 ?_ hro
  simp only [Tryz.ntmps58, List.size_toArray, List.length_cons, List.length_nil, Nat.reduceAdd, Nat.reduceSub, Array.replicate_succ, Array.replicate_zero, List.push_toArray, List.append_toArray, List.nil_append, List.cons_append]
  gi_wp2_with (gi_at_call 79; refine (appendSeq_in F (n - 1) h79 hro (by omega) g lb hFg eg S N hN _ hseq).mono ?_; rintro e w' ⟨v, ss, rfl, hS, hrow, hb⟩)
  go_ret
  exact ⟨v, ss, rfl, hS, hrow, hb⟩
end Go.Proofs.YtiidhcpflplpiaaGreatDoor

/-
  Layer 8: List, where there is a service.
-/
set_option linter.unusedVariables false
namespace Go.Proofs.YtiidhcpflplpiaaGreatDoor
open Go.RowKit Ste Go.MapKept Go.ChangeMaps
set_option maxRecDepth 100000

theorem tms_le {base base' : Nat} {w : World} {v : Value} {l : List Tm} (h : Tms base w v l) (hb : base' ≤ base) : Tms base' w v l := by
  refine ⟨h.1, ?_⟩
  rcases h.2 with h0 | ⟨g, cap, cur, rfl, hg, hr⟩
  · exact .inl h0
  · exact .inr ⟨g, cap, cur, rfl, Nat.le_trans hb hg, hr⟩
theorem seq_values (F : Fence) (n : Nat) (h60 : F.fn 60) (hro : F.round = none) (hn : 1 ≤ n) (Bm b : Nat) (tl : List Tm) (w : World) (hBm : Bm < w.heap.size)
    (hm : w.cell? ⟨Bm, 0, none⟩ = some (.map (some b))) (hv : VMap w b (tl.map tmP)) :
    SeqGives F n Tryz.prog 60 #[.pointer (some ⟨Bm, 0, none⟩)] tmV (fun ss => ss.Perm tl) tl.length w := fun l J W hW hJ hY h0 => by
  have hv' := hv.kept (hW.block b hv.lt)
  have hm' : W.cell? ⟨Bm, 0, none⟩ = some (.map (some b)) := (hW.cell (p := ⟨Bm, 0, none⟩) hBm).trans hm
  exact (values1_in F n h60 hro hn l Bm b tl J (fun pre x W1 h1 h2 => hY pre x W1 h1 h2) W hJ hm' hv' h0).mono fun e W' h => h

theorem values_any (mb : Nat) (w : World) : Calls Tryz.prog 39 #[.map (some mb)] w fun e w' => e = .returned (.func (.func 60) #[] #[.pointer (some ⟨w.heap.size, 0, none⟩)]) ∧ Below w.heap.size w w' ∧ w'.cell? ⟨w.heap.size, 0, none⟩ = some (.map (some mb)) ∧ w.heap.size < w'.heap.size := by
  go_enter Tryz.func39, Tryz.ntmps39
  go_wp2_with fail
  go_ret
  exact ⟨rfl, (Below.refl _ _).alloc (Nat.le_refl _) _, cell_in (Go.heap_alloc_new w _) 0, by show _ < (w.heap.push _).size; rw [Array.size_push]; omega⟩

theorem collect_any (Bm b : Nat) (tl : List Tm) (hl : tl.length ≤ 1000) (w : World) (hBm : Bm < w.heap.size) (hm : w.cell? ⟨Bm, 0, none⟩ = some (.map (some b))) (hv : VMap w b (tl.map tmP)) :
    Calls Tryz.prog 58 #[.func (.func 60) #[] #[.pointer (some ⟨Bm, 0, none⟩)]] w fun e w' => ∃ (v : Value) (ss : List Tm), e = .returned v ∧ ss.Perm tl ∧ Tms w.heap.size w' v ss ∧ Below w.heap.size w w' :=
  callsIn_wide.1 (collect_in Fence.wide 5 trivial trivial rfl (by omega) _ _ trivial (fun _ _ => rfl) (fun ss => ss.Perm tl) tl.length hl w (seq_values Fence.wide _ trivial rfl (by omega) Bm b tl w hBm hm hv))

/-- What the map holds, in the order of ids. -/
theorem sorted_any (Bm b : Nat) (tl T : List Tm) (hl : tl.length ≤ 1000) (hp : tl.Perm T) (hu : Up T) (w : World) (hBm : Bm < w.heap.size) (hm : w.cell? ⟨Bm, 0, none⟩ = some (.map (some b))) (hv : VMap w b (tl.map tmP)) :
    Calls Tryz.prog 38 #[.func (.func 60) #[] #[.pointer (some ⟨Bm, 0, none⟩)], .func (.func 40) #[] #[]] w fun e w' => ∃ v : Value, e = .returned v ∧ Tms w.heap.size w' v T ∧ Below w.heap.size w w' := by
  have cC := Lib.hid (collect_any Bm b tl hl w hBm hm hv)
  have cS := Lib.hid (fun v l W (h : Tms w.heap.size W v l) (hq : l.Perm T) (hl2 : l.length ≤ 1000) (hb : w.heap.size ≤ W.heap.size) => sort_any w.heap.size v l T W h hq hu hl2 hb)
  replace hp := Lib.hid hp
  replace hl := Lib.hid hl
  clear hu hm hv hBm
  go_enter Tryz.func38, Tryz.ntmps38
  go_wp2_with fail
  refine cC.out.mono ?_
  rintro e w1 ⟨v1, ss, rfl, hS, hrow, hb⟩
  have c2 := Lib.hid (cS.out v1 ss w1 hrow (hS.trans hp.out) (by rw [hS.length_eq]; exact hl.out) hb.size)
  replace hb := Lib.hid hb
  clear hrow hS
  go_wp2_with fail
  refine c2.out.mono ?_
  rintro e w2 ⟨rfl, hT, hb2⟩
  replace hT := Lib.hid hT
  replace hb2 := Lib.hid hb2
  clear c2
  go_wp2_with fail
  go_ret
  exact ⟨_, rfl, hT.out, hb.out.trans hb2.out⟩

theorem list_any {w : World} {b c : Nat} {s : St} {cl : List Int} {x : Px} (h : Sv w b s cl x c) (hs : x.tl.length ≤ 1000) :
    Calls Tryz.prog 20 #[.pointer (some ⟨b, 0, none⟩)] w fun e w' => ∃ v : Value, e = .returned v ∧ Tms w.heap.size w' v s.T ∧ Below w.heap.size w w' := by
  have c2 := h.c2
  have cV := Lib.hid (values_any x.tb w)
  have cS := Lib.hid (fun W (hb : Below w.heap.size w W) (hm : W.cell? ⟨w.heap.size, 0, none⟩ = some (.map (some x.tb))) (hlt : w.heap.size < W.heap.size) => sorted_any w.heap.size x.tb x.tl s.T hs h.tp h.ok.up W hlt hm (h.tm.kept (hb.block _ h.tm.lt)))
  clear h hs
  go_enter Tryz.func20, Tryz.ntmps20
  go_wp2_with fail
  refine cV.out.mono ?_
  rintro e w1 ⟨rfl, hb, hm, hlt⟩
  have c3 := Lib.hid (cS.out w1 hb hm hlt)
  replace hb := Lib.hid hb
  clear hm hlt
  go_wp2_with fail
  refine c3.out.mono ?_
  rintro e w2 ⟨v, rfl, hT, hb2⟩
  replace hT := Lib.hid hT
  replace hb2 := Lib.hid hb2
  clear c3
  go_wp2_with fail
  go_ret
  exact ⟨_, rfl, tms_le hT.out hb.out.size, hb.out.trans (hb2.out.mono hb.out.size)⟩
end Go.Proofs.YtiidhcpflplpiaaGreatDoor

/-
  Layer 8: the methods of a service that is none.
-/
set_option linter.unusedVariables false
namespace Go.Proofs.YtiidhcpflplpiaaGreatDoor
open Go.RowKit Crn Nxt Ste
set_option maxRecDepth 100000

theorem get_nil (id : Int) (w : World) : Calls Tryz.prog 17 #[.pointer none, .int .i64 id] w fun e w' => e = .returned (.tuple #[tmV zTm, .int .i64 12]) ∧ Below w.heap.size w w' := by
  unfold zTm at *
  go_enter Tryz.func17, Tryz.ntmps17
  go_wp2_with fail
  refine bodyPost_ret (v := .tuple #[tmV zTm, .int .i64 12]) ?_ rfl ?_
  · rw [results_cell_tmp rfl]
    go_simp
    try exact ⟨rfl, rfl, rfl, rfl, rfl⟩
  · exact ⟨rfl, (Below.refl _ _).alloc (Nat.le_refl _) _⟩

theorem last_nil (id : Int) (w : World) : Calls Tryz.prog 21 #[.pointer none, .int .i64 id] w fun e w' => e = .returned (.tuple #[.int .i64 0, rpV ⟨0, 0, 0⟩, .bool false]) ∧ Below w.heap.size w w' := by
  go_enter Tryz.func21, Tryz.ntmps21
  go_wp2_with fail
  refine bodyPost_ret (v := .tuple #[.int .i64 0, rpV ⟨0, 0, 0⟩, .bool false]) ?_ rfl ?_
  · rw [results_tmp_cell_tmp rfl]
    go_simp
    try exact ⟨rfl, rfl, rfl⟩
  · exact ⟨rfl, (Below.refl _ _).alloc (Nat.le_refl _) _⟩

theorem list_nil (w : World) : Calls Tryz.prog 20 #[.pointer none] w fun e w' => e = .returned (.slice none 0 0) ∧ w' = w := by
  go_enter Tryz.func20, Tryz.ntmps20
  go_wp2_with fail
  go_ret
  exact ⟨rfl, rfl⟩
theorem clients_nil (w : World) : Calls Tryz.prog 23 #[.pointer none] w fun e w' => e = .returned (.slice none 0 0) ∧ w' = w := by
  go_enter Tryz.func23, Tryz.ntmps23
  go_wp2_with fail
  go_ret
  exact ⟨rfl, rfl⟩
theorem copy_nil (w : World) : Calls Tryz.prog 24 #[.pointer none] w fun e w' => e = .returned (.pointer none) ∧ w' = w := by
  go_enter Tryz.func24, Tryz.ntmps24
  go_wp2_with fail
  go_ret
  exact ⟨rfl, rfl⟩
theorem fires_nil (o : OpN) (w : World) : Calls Tryz.prog 13 #[.pointer none, opV o] w fun e w' => e = .returned (.bool false) ∧ Below w.heap.size w w' := by
  obtain ⟨okind, oclient, oreq, oid, ogen, oocc, odue, ostamp, oepoch, ocron⟩ := o
  simp only [opV, opC] at *
  go_enter Tryz.func13, Tryz.ntmps13
  go_wp2_with fail
  go_ret
  exact ⟨rfl, (Below.refl _ _).alloc (Nat.le_refl _) _⟩
theorem apply_nil (o : OpN) (w : World) : Calls Tryz.prog 15 #[.pointer none, opV o] w fun e w' => e = .returned (rpV ⟨12, 0, 0⟩) ∧ Below w.heap.size w w' := by
  have B0 := Lib.hid (Bx.start w o)
  have cR := Lib.hid refusal_any
  obtain ⟨okind, oclient, oreq, oid, ogen, oocc, odue, ostamp, oepoch, ocron⟩ := o
  simp only [opV, opC, opO, rpO] at *
  go_enter Tryz.func15, Tryz.ntmps15
  go_wp2_with fail
  refine (cR.out 12 _).mono ?_
  rintro e w2 ⟨rfl, k2⟩
  have B2 := B0.out.below k2
  obtain ⟨q0, q1, q2, z0, z1, z2⟩ := rp_cells B2.rp
  replace B2 := Lib.hid B2
  clear B0 k2 cR
  go_wp2_with fail
  refine bodyPost_ret (v := rpV ⟨12, 0, 0⟩) ?_ rfl ?_
  · rw [results_cellA rfl]
    go_simp
  · exact ⟨rfl, ((B2.out.bel.setCell (Nat.le_succ _) _).setCell (Nat.le_succ _) _).setCell (Nat.le_succ _) _⟩
end Go.Proofs.YtiidhcpflplpiaaGreatDoor

/-
  Layer 8: two lists of clients beside each other (the document's Ints).
-/
set_option linter.unusedVariables false
namespace Go.Proofs.YtiidhcpflplpiaaGreatDoor
open Go.RowKit Ste
set_option maxRecDepth 100000

theorem below_dN {B : Nat} {w w' : World} (h : Below B w w') : ∀ n, Below B w (w'.drewN n)
  | 0 => h
  | n + 1 => (below_dN h n).drew
theorem nums_look {base : Nat} {w : World} {v : Value} {l : List Int} (h : Nums base w v l) : ∃ a cap, v = .slice a l.length cap ∧ l.length ≤ cap ∧ cap ≤ maxLen ∧ ∀ i (hi : i < l.length), ∃ g, a = some ⟨g, 0, none⟩ := by
  rcases h.2 with ⟨h1, h2⟩ | ⟨g, cap, cur, h1, h2, h3, h4, h5, _⟩
  · exact ⟨none, 0, by rw [h1, h2], by omega, by omega, fun i hi => by omega⟩
  · exact ⟨some ⟨g, 0, none⟩, cap, h1, h4, h5, fun i hi => ⟨g, rfl⟩⟩
theorem nums_cell {base : Nat} {w : World} {l : List Int} {g cap : Nat} (h : Nums base w (.slice (some ⟨g, 0, none⟩) l.length cap) l) (i : Nat) (hi : i < l.length) : w.cell? ⟨g, i, none⟩ = some (.int .i64 l[i]) := by
  rw [World.ownsRow.cellAt h i (by omega)]
  rw [List.getElem?_map, List.getElem?_eq_getElem hi]
  rfl
theorem nums_below {base : Nat} {w w' : World} {v : Value} {l : List Int} (h : Nums base w v l) (k : Below w.heap.size w w') : Nums base w' v l :=
  World.ownsRow.kept h (row := none) ⟨k.os, k.tape, k.output, k.size, fun i hi _ => k.block i hi⟩ (by cases v.ownBlock <;> simp)
theorem take_more {l m : List Int} {k : Nat} (h1 : k < l.length) (h2 : k < m.length) (h : l.take k = m.take k) (e : l[k] = m[k]) : l.take (k + 1) = m.take (k + 1) := by
  rw [← List.take_append_getElem h1, ← List.take_append_getElem h2, h, e]

set_option maxHeartbeats 2000000 in
theorem nums_same (w : World) (v1 v2 : Value) (l1 l2 : List Int) (b1 b2 : Nat) (h1 : Nums b1 w v1 l1) (h2 : Nums b2 w v2 l2) (hl1 : l1.length ≤ 1000) (hl2 : l2.length ≤ 1000) (r : Bool) (hr : decide (l1 = l2) = r) :
    Calls Tryz.prog 22 #[v1, v2] w fun e w' => e = .returned (.bool r) ∧ Below w.heap.size w w' := by
  obtain ⟨a1, cap1, rfl, _, _, ha1⟩ := nums_look h1
  obtain ⟨a2, cap2, rfl, _, _, ha2⟩ := nums_look h2
  have hn1 : (l1.length : Int) ≤ 1000000 := by omega
  have hn2 : (l2.length : Int) ≤ 1000000 := by omega
  by_cases hne : l1.length = l2.length
  · replace ha1 := Lib.hid ha1
    replace ha2 := Lib.hid ha2
    have hyes : Hid (l1 = l2 → r = true) := fun e => by rw [← hr, e]; simp
    have hno : Hid (l1 ≠ l2 → r = false) := fun e => by rw [← hr]; simp [e]
    have hb0 : Hid (Below w.heap.size w w) := Below.refl _ _
    replace h1 := Lib.hid h1
    replace h2 := Lib.hid h2
    clear hr
    have hq : ((l1.length : Int) != (l2.length : Int)) = false := by rw [hne]; simp
    replace hne := Lib.hid hne
    go_enter Tryz.func22, Tryz.ntmps22
    go_wp2_with fail
    go_loopw [5] (fun v wr => ∃ k : Nat, v = .int .i64 k ∧ (k : Int) ≤ l1.length ∧ Hid (l1.take k = l2.take k) ∧ Hid (Below w.heap.size w wr) ∧ Hid (Nums b1 wr (.slice a1 l1.length cap1) l1) ∧ Hid (Nums b2 wr (.slice a2 l2.length cap2) l2)) (fun v _ => ((l1.length : Int) - intOf v).toNat)
    case atStart => exact ⟨0, rfl, by omega, rfl, hb0, h1, h2⟩
    case round =>
      obtain ⟨k, rfl, hk, ht, hb, r1, r2⟩ := hrel
      clear h1 h2 hb0
      by_cases hlt : (k : Int) < l1.length
      · have hlt2 : (k : Int) < l2.length := by have := hne.out; omega
        have hk0 : (0 : Int) ≤ (k : Int) := by omega
        obtain ⟨g1, rfl⟩ := ha1.out k (by omega)
        obtain ⟨g2, rfl⟩ := ha2.out k (by omega)
        have c0 := nums_cell r1.out k (by omega)
        have d0 := nums_cell r2.out k (by omega)
        have hnx : Hid (l1[k] = l2[k] → l1.take (k + 1) = l2.take (k + 1)) := fun e => take_more (by omega) (by omega) ht.out e
        have hdf : Hid (l1[k] ≠ l2[k] → r = false) := fun e => hno.out (fun e2 => e (by simp only [e2]))
        generalize l1[k] = p at *
        generalize l2[k] = q at *
        by_cases hpq : p = q
        · have ht2 := Lib.hid (hnx.out hpq)
          have he : (p != q) = false := by simp [hpq]
          replace hpq := Lib.hid hpq
          clear hnx hdf
          go_wp2_with fail
          go_quiet (fail)
          go_wp2_with fail
          exact ⟨⟨k + 1, by go_num, by omega, ht2, below_dN hb.out nq, nums_below r1.out (below_dN (Below.refl _ _) nq), nums_below r2.out (below_dN (Below.refl _ _) nq)⟩, by simp [intOf]; omega⟩
        · have hrf := Lib.hid (hdf.out hpq)
          have he : (p != q) = true := by simp [hpq]
          replace hpq := Lib.hid hpq
          clear hnx hdf
          go_wp2_with fail
          go_quiet (fail)
          go_wp2_with fail
          go_ret
          exact ⟨by rw [hrf.out]; rfl, below_dN hb.out nq⟩
      · have hall : Hid (r = true) := hyes.out (by
          have h3 := ht.out
          rw [List.take_of_length_le (by omega), List.take_of_length_le (by have := hne.out; omega)] at h3
          exact h3)
        go_wp2_with fail
        go_ret
        exact ⟨by rw [hall.out]; rfl, hb.out⟩
  · have hrf : r = false := by rw [← hr]; simp; intro e; exact hne (by rw [e])
    have hq : ((l1.length : Int) != (l2.length : Int)) = true := by simp; omega
    clear h1 h2 hr ha1 ha2
    replace hne := Lib.hid hne
    go_enter Tryz.func22, Tryz.ntmps22
    go_wp2_with fail
    go_ret
    exact ⟨by rw [hrf]; rfl, Below.refl _ _⟩
end Go.Proofs.YtiidhcpflplpiaaGreatDoor

/-
  Layer 8: a service beside the caller's own variables.
-/
set_option linter.unusedVariables false
namespace Go.Proofs.YtiidhcpflplpiaaGreatDoor
open Go.RowKit Crn Nxt Ste
set_option maxRecDepth 100000

/-- A service in the state s at b; V: the caller's own blocks, as they stand; nothing of w0 has turned. -/
def Rn (w0 w : World) (b : Nat) (s : St) (c : Nat) (V : List (Nat × Obj)) : Prop :=
  ∃ x, SS w b s x c ∧ (∀ k, k ∈ own x b → w0.heap.size ≤ k) ∧ Below w0.heap.size w0 w ∧ ∀ p, p ∈ V → w.heap[p.1]? = some p.2 ∧ p.1 ∉ own x b
section
variable {w0 w w' : World} {b c : Nat} {s : St} {V : List (Nat × Obj)}
theorem Rn.bel (h : Rn w0 w b s c V) : Below w0.heap.size w0 w := by obtain ⟨x, _, _, h, _⟩ := h; exact h
theorem Rn.ok (h : Rn w0 w b s c V) : Ok s := by obtain ⟨x, h, _⟩ := h; exact h.sv.ok
theorem Rn.at (h : Rn w0 w b s c V) {k : Nat} {o : Obj} (hk : (k, o) ∈ V) : w.heap[k]? = some o := by obtain ⟨x, _, _, _, h⟩ := h; exact (h _ hk).1
theorem Rn.below (h : Rn w0 w b s c V) (k : Below w.heap.size w w') : Rn w0 w' b s c V := by
  obtain ⟨x, h1, h2, h3, h4⟩ := h
  refine ⟨x, h1.below k, h2, h3.trans (k.mono h3.size), fun p hp => ⟨?_, (h4 p hp).2⟩⟩
  have h5 := (h4 p hp).1
  exact (k.block _ (Array.getElem?_eq_some_iff.1 h5).1).trans h5
theorem Rn.alloc (h : Rn w0 w b s c V) (o : Obj) : Rn w0 (w.alloc o) b s c ((w.heap.size, o) :: V) := by
  have k : Below w.heap.size w (w.alloc o) := (Below.refl _ _).alloc (Nat.le_refl _) _
  obtain ⟨x, h1, h2, h3, h4⟩ := h.below k
  obtain ⟨x', g1, g2, g3, g4⟩ := h
  refine ⟨x', g1.below k, g2, h3, fun p hp => ?_⟩
  rcases List.mem_cons.1 hp with rfl | hp
  · exact ⟨Go.heap_alloc_new w o, fun e => by have := (g1.sv.lt _ e).1; simp only at this; omega⟩
  · have h5 := (g4 p hp).1
    exact ⟨(k.block _ (Array.getElem?_eq_some_iff.1 h5).1).trans h5, (g4 p hp).2⟩
theorem Rn.alloc' (h : Rn w0 w b s c V) (o : Obj) {k : Nat} (hk : w.heap.size = k) : Rn w0 (w.alloc o) b s c ((k, o) :: V) := by
  subst hk
  exact h.alloc o
theorem Rn.less (h : Rn w0 w b s c V) {U : List (Nat × Obj)} (hU : ∀ p, p ∈ U → p ∈ V) : Rn w0 w b s c U := by
  obtain ⟨x, h1, h2, h3, h4⟩ := h
  exact ⟨x, h1, h2, h3, fun p hp => h4 p (hU p hp)⟩
theorem Rn.after {x : Px} {s' : St} {x' : Px} {c' : Nat} (h1 : SS w b s x c) (h2 : ∀ k, k ∈ own x b → w0.heap.size ≤ k) (h3 : Below w0.heap.size w0 w) (h4 : ∀ p, p ∈ V → w.heap[p.1]? = some p.2 ∧ p.1 ∉ own x b) (A : AftS w b x w' s' x' c') : Rn w0 w' b s' c' V := by
  refine ⟨x', A.ss, fun k hk => ?_, ⟨A.kept.os.trans h3.os, A.kept.tape.trans h3.tape, A.kept.output.trans h3.output, Nat.le_trans h3.size A.kept.size, fun i hi => ?_⟩, fun p hp => ?_⟩
  · rcases A.own k hk with g | g
    · exact h2 k g
    · exact Nat.le_trans h3.size g
  · exact (A.kept.block i (Nat.lt_of_lt_of_le hi h3.size) (fun g => by have := h2 _ g; omega)).trans (h3.block i hi)
  · obtain ⟨g1, g2⟩ := h4 p hp
    have hlt := (Array.getElem?_eq_some_iff.1 g1).1
    refine ⟨(A.kept.block _ hlt g2).trans g1, fun e => ?_⟩
    rcases A.own _ e with g | g
    · exact g2 g
    · omega
theorem Rn.set (h : Rn w0 w b s c V) {k : Nat} {C : Array Value} {t : TypeId} (hk : (k, Obj.cells C t) ∈ V) (hb : w0.heap.size ≤ k) (i : Nat) (v : Value) {U : List (Nat × Obj)} (hU : ∀ p, p ∈ U → p ∈ V ∧ p.1 ≠ k) :
    Rn w0 (w.setCell ⟨k, i, none⟩ v) b s c ((k, Obj.cells (C.setIfInBounds i v) t) :: U) := by
  obtain ⟨x, h1, h2, h3, h4⟩ := h
  obtain ⟨g1, g2⟩ := h4 _ hk
  have kr : Kl [k] w (w.setCell ⟨k, i, none⟩ v) := (Kl.refl _ _).setCell (by simp) i v
  refine ⟨x, h1.kept kr (fun j hj => by simp only [List.mem_singleton] at hj; subst hj; exact g2), h2, h3.setCell hb v, fun p hp => ?_⟩
  rcases List.mem_cons.1 hp with rfl | hp
  · exact ⟨heap_setCell_same w k i C t v g1, g2⟩
  · obtain ⟨g3, g4⟩ := hU p hp
    exact ⟨(Below.heap_setCell w ⟨k, i, none⟩ v p.1 g4).trans (h4 p g3).1, (h4 p g3).2⟩
theorem Rn.store3 (h : Rn w0 w b s c V) {k : Nat} {a0 a1 a2 : Value} {t : TypeId} (hk : (k, Obj.cells #[a0, a1, a2] t) ∈ V) (hb : w0.heap.size ≤ k) (x y z : Value) {U : List (Nat × Obj)} (hU : ∀ p, p ∈ U → p ∈ V ∧ p.1 ≠ k) :
    Rn w0 (((w.setCell ⟨k, 0, none⟩ x).setCell ⟨k, 1, none⟩ y).setCell ⟨k, 2, none⟩ z) b s c ((k, Obj.cells #[x, y, z] t) :: U) :=
  ((h.set hk hb 0 x hU).set (U := U) (.head _) hb 1 y (fun p hp => ⟨.tail _ hp, (hU p hp).2⟩)).set (U := U) (.head _) hb 2 z (fun p hp => ⟨.tail _ hp, (hU p hp).2⟩)
theorem Rn.lt (h : Rn w0 w b s c V) {k : Nat} {o : Obj} (hk : (k, o) ∈ V) : k < w.heap.size := (Array.getElem?_eq_some_iff.1 (h.at hk)).1
theorem Rn.cells3 (h : Rn w0 w b s c V) {k : Nat} {a0 a1 a2 : Value} {t : TypeId} (hk : (k, Obj.cells #[a0, a1, a2] t) ∈ V) : w.cell? ⟨k, 0, none⟩ = some a0 ∧ w.cell? ⟨k, 1, none⟩ = some a1 ∧ w.cell? ⟨k, 2, none⟩ = some a2 ∧ w.frozen? ⟨k, 0, none⟩ = false ∧ w.frozen? ⟨k, 1, none⟩ = false ∧ w.frozen? ⟨k, 2, none⟩ = false :=
  have g := h.at hk
  ⟨cell_in g 0, cell_in g 1, cell_in g 2, free_in g 0, free_in g 1, free_in g 2⟩
theorem Rn.drewN (h : Rn w0 w b s c V) (n : Nat) : Rn w0 (w.drewN n) b s c V := h.below (below_dN (Below.refl _ _) n)
theorem Rn.apply (h : Rn w0 w b s c V) (tb : Tab w0) (nt : NTab w0) (hc : c ≤ 900000) (o : OpN) (ho : OpOk o) :
    Calls Tryz.prog 15 #[.pointer (some ⟨b, 0, none⟩), opV o] w fun e w' => e = .returned (rpV (applyN s o).2) ∧ Rn w0 w' b (applyN s o).1 (c + 1) V := by
  obtain ⟨x, h1, h2, h3, h4⟩ := h
  exact (apply_any h1 (tb.below h3) (nt.below h3) hc o ho).mono fun e w' ⟨he, x', A⟩ => ⟨he, Rn.after h1 h2 h3 h4 A⟩
theorem Rn.list (h : Rn w0 w b s c V) : Calls Tryz.prog 20 #[.pointer (some ⟨b, 0, none⟩)] w fun e w' => ∃ v : Value, e = .returned v ∧ Tms w.heap.size w' v s.T ∧ Below w.heap.size w w' := by
  obtain ⟨x, h1, h2, h3, h4⟩ := h
  have := h1.sv.ok.full
  have := h1.sv.ok.room1
  exact list_any h1.sv (by rw [h1.sv.tp.length_eq]; omega)
theorem Rn.clients (h : Rn w0 w b s c V) : Calls Tryz.prog 23 #[.pointer (some ⟨b, 0, none⟩)] w fun e w' => ∃ v', e = .returned v' ∧ Nums w.heap.size w' v' (clOf s) ∧ Below w.heap.size w w' := by
  obtain ⟨x, h1, h2, h3, h4⟩ := h
  have := h1.sv.ok.few
  exact clients_any h1.sv (by unfold clOf; simpa using this)
theorem Rn.get (h : Rn w0 w b s c V) (id : Int) (hid : i64 id) : Calls Tryz.prog 17 #[.pointer (some ⟨b, 0, none⟩), .int .i64 id] w fun e w' => e = .returned (.tuple #[tmV (valT s.T id), .int .i64 (getE s.T id)]) ∧ Below w.heap.size w w' := by
  obtain ⟨x, h1, h2, h3, h4⟩ := h
  exact get_any h1.sv id hid
end
theorem new_run {w0 w : World} (k : Below w0.heap.size w0 w) (nt : topTab < w0.heap.size) (timers : Int) (ht : i64 timers) :
    Calls Tryz.prog 11 #[.int .i64 timers] w fun e w' => e = .returned (.pointer (some ⟨w.heap.size + 3, 0, none⟩)) ∧ Rn w0 w' (w.heap.size + 3) (newN timers) 0 [] ∧ Below w.heap.size w w' := by
  refine (st_new timers ht w (Nat.lt_of_lt_of_le nt k.size)).mono ?_
  rintro e w' ⟨he, hb, x, hs, hk, hown⟩
  exact ⟨he, ⟨x, ⟨hs, by rw [hk]; exact List.Perm.refl _⟩, fun i hi => Nat.le_trans k.size (hown i hi), k.trans (hb.mono k.size), fun p hp => by simp at hp⟩, hb⟩
end Go.Proofs.YtiidhcpflplpiaaGreatDoor

/-
  Layer 8: the fixed answers.
-/
set_option linter.unusedVariables false
namespace Go.Proofs.YtiidhcpflplpiaaGreatDoor
open Go.RowKit Crn Nxt Ste
set_option maxRecDepth 100000
theorem aw_1 : applyN (newN 2) ⟨1,1,1,7,0,0,100,0,0,⟨#[]⟩⟩ = (⟨2, 1, [⟨7,1,1,100,⟨#[]⟩⟩], [⟨1,1,⟨0,1,100⟩⟩]⟩, ⟨0,1,100⟩) := by rfl
theorem aw_2 : applyN ⟨2, 1, [⟨7,1,1,100,⟨#[]⟩⟩], [⟨1,1,⟨0,1,100⟩⟩]⟩ ⟨3,0,0,7,1,100,0,99,0,⟨#[]⟩⟩ = (⟨2, 1, [⟨7,1,1,100,⟨#[]⟩⟩], [⟨1,1,⟨0,1,100⟩⟩]⟩, ⟨6,0,0⟩) := by rfl
theorem aw_3 : applyN ⟨2, 1, [⟨7,1,1,100,⟨#[]⟩⟩], [⟨1,1,⟨0,1,100⟩⟩]⟩ ⟨3,0,0,7,1,100,0,100,0,⟨#[]⟩⟩ = (⟨2, 1, [], [⟨1,1,⟨0,1,100⟩⟩]⟩, ⟨0,1,100⟩) := by rfl
theorem aw_4 : applyN ⟨2, 1, [], [⟨1,1,⟨0,1,100⟩⟩]⟩ ⟨3,0,0,7,1,100,0,100,0,⟨#[]⟩⟩ = (⟨2, 1, [], [⟨1,1,⟨0,1,100⟩⟩]⟩, ⟨6,0,0⟩) := by rfl
theorem aw_5 : applyN ⟨2, 1, [], [⟨1,1,⟨0,1,100⟩⟩]⟩ ⟨1,1,1,8,0,0,0,0,0,⟨#[]⟩⟩ = (⟨2, 1, [], [⟨1,1,⟨0,1,100⟩⟩]⟩, ⟨0,1,100⟩) := by rfl
theorem ok_aw (k c r i g o d s e : Int) (h : ∀ x ∈ [k, c, r, i, g, o, d, s, e], 0 ≤ x ∧ x ≤ 1000) : OpOk ⟨k, c, r, i, g, o, d, s, e, ⟨#[]⟩⟩ := by
  have q : ∀ x ∈ [k, c, r, i, g, o, d, s, e], i64 x := fun x hx => by have := h x hx; unfold i64; omega
  exact ⟨q k (by simp), q c (by simp), q r (by simp), q i (by simp), q g (by simp), q o (by simp), q d (by simp), q s (by simp), q e (by simp), by simp [ByteArray.size]⟩

structure FC (W : World) (k : Nat) (o : OpN) : Prop where
  h : W.heap[k]? = some (opO o)
theorem fc_alloc {W : World} {k : Nat} {o : OpN} (h : FC W k o) (z : Obj) : FC (W.alloc z) k o :=
  ⟨(((Below.refl W.heap.size W).alloc (Nat.le_refl _) z).block k (Array.getElem?_eq_some_iff.1 h.h).1).trans h.h⟩
theorem fc_drew {W : World} {k : Nat} {o : OpN} (h : FC W k o) : FC W.drew k o := ⟨h.h⟩
theorem Rn.drew1 {w0 w : World} {b c : Nat} {s : St} {V : List (Nat × Obj)} (h : Rn w0 w b s c V) : Rn w0 w.drew b s c V := h.drewN 1
theorem fc_set {W : World} {k : Nat} {o : OpN} (h : FC W k o) (g j : Nat) (v : Value) (hn : k ≠ g) : FC (W.setCell ⟨g, j, none⟩ v) k o :=
  ⟨(Below.heap_setCell W ⟨g, j, none⟩ v k hn).trans h.h⟩
theorem fcS {W : World} {k : Nat} {o : OpN} (h : FC W k o) : FC W k o ∧ W.cell? ⟨k, 0, none⟩ = some (.int .i64 o.kind) ∧ W.cell? ⟨k, 1, none⟩ = some (.int .i64 o.client) ∧ W.cell? ⟨k, 2, none⟩ = some (.int .i64 o.req) ∧ W.cell? ⟨k, 3, none⟩ = some (.int .i64 o.id) ∧ W.cell? ⟨k, 4, none⟩ = some (.int .i64 o.gen) ∧
    W.cell? ⟨k, 5, none⟩ = some (.int .i64 o.occ) ∧ W.cell? ⟨k, 6, none⟩ = some (.int .i64 o.due) ∧ W.cell? ⟨k, 7, none⟩ = some (.int .i64 o.stamp) ∧ W.cell? ⟨k, 8, none⟩ = some (.int .i64 o.epoch) ∧ W.cell? ⟨k, 9, none⟩ = some (.string o.cron) := ⟨h, op_cells h.h⟩
theorem size_alloc (W : World) (z : Obj) : (W.alloc z).heap.size = W.heap.size + 1 := by simp
section
variable {w0 w : World} {b c : Nat} {s : St} {V : List (Nat × Obj)}
theorem end_aa (h : Rn w0 w b s c V) (X Y : Obj) : Rn w0 ((w.alloc X).alloc Y) b s c ((w.heap.size + 1, Y) :: (w.heap.size, X) :: V) := (h.alloc X).alloc' Y (size_alloc w X)
theorem end_sa {k : Nat} {a0 a1 a2 : Value} {t : TypeId} (h : Rn w0 w b s c ((k, .cells #[a0, a1, a2] t) :: V)) (hb : w0.heap.size ≤ k) (hV : ∀ p, p ∈ V → p.1 ≠ k) (x y z : Value) (Y : Obj) :
    Rn w0 ((((w.setCell ⟨k, 0, none⟩ x).setCell ⟨k, 1, none⟩ y).setCell ⟨k, 2, none⟩ z).alloc Y) b s c ((w.heap.size, Y) :: (k, .cells #[x, y, z] t) :: V) :=
  (h.store3 (.head _) hb x y z (U := V) (fun p hp => ⟨.tail _ hp, hV p hp⟩)).alloc' Y (by simp)
theorem end_ss12 {k1 k2 : Nat} {a0 a1 a2 b0 b1 b2 : Value} {t : TypeId} (h : Rn w0 w b s c ((k2, .cells #[b0, b1, b2] t) :: (k1, .cells #[a0, a1, a2] t) :: V)) (hb1 : w0.heap.size ≤ k1) (hb2 : w0.heap.size ≤ k2) (hne : k2 ≠ k1) (hV1 : ∀ p, p ∈ V → p.1 ≠ k1) (hV2 : ∀ p, p ∈ V → p.1 ≠ k2) (x y z u v r : Value) :
    Rn w0 ((((((w.setCell ⟨k1, 0, none⟩ x).setCell ⟨k1, 1, none⟩ y).setCell ⟨k1, 2, none⟩ z).setCell ⟨k2, 0, none⟩ u).setCell ⟨k2, 1, none⟩ v).setCell ⟨k2, 2, none⟩ r) b s c ((k2, .cells #[u, v, r] t) :: (k1, .cells #[x, y, z] t) :: V) :=
  (h.store3 (.tail _ (.head _)) hb1 x y z (U := (k2, .cells #[b0, b1, b2] t) :: V) (fun p hp => by
    rcases List.mem_cons.1 hp with rfl | hp
    · exact ⟨.head _, hne⟩
    · exact ⟨.tail _ (.tail _ hp), hV1 p hp⟩)).store3 (.tail _ (.head _)) hb2 u v r (U := (k1, .cells #[x, y, z] t) :: V) (fun p hp => by
    rcases List.mem_cons.1 hp with rfl | hp
    · exact ⟨.head _, fun e => hne e.symm⟩
    · exact ⟨.tail _ (.tail _ hp), hV2 p hp⟩)
theorem end_ss21 {k1 k2 : Nat} {a0 a1 a2 b0 b1 b2 : Value} {t : TypeId} (h : Rn w0 w b s c ((k2, .cells #[b0, b1, b2] t) :: (k1, .cells #[a0, a1, a2] t) :: V)) (hb1 : w0.heap.size ≤ k1) (hb2 : w0.heap.size ≤ k2) (hne : k2 ≠ k1) (hV1 : ∀ p, p ∈ V → p.1 ≠ k1) (hV2 : ∀ p, p ∈ V → p.1 ≠ k2) (x y z u v r : Value) :
    Rn w0 ((((((w.setCell ⟨k2, 0, none⟩ x).setCell ⟨k2, 1, none⟩ y).setCell ⟨k2, 2, none⟩ z).setCell ⟨k1, 0, none⟩ u).setCell ⟨k1, 1, none⟩ v).setCell ⟨k1, 2, none⟩ r) b s c ((k1, .cells #[u, v, r] t) :: (k2, .cells #[x, y, z] t) :: V) :=
  (h.store3 (.head _) hb2 x y z (U := (k1, .cells #[a0, a1, a2] t) :: V) (fun p hp => by
    rcases List.mem_cons.1 hp with rfl | hp
    · exact ⟨.tail _ (.head _), fun e => hne e.symm⟩
    · exact ⟨.tail _ (.tail _ hp), hV2 p hp⟩)).store3 (.tail _ (.head _)) hb1 u v r (U := (k2, .cells #[x, y, z] t) :: V) (fun p hp => by
    rcases List.mem_cons.1 hp with rfl | hp
    · exact ⟨.head _, hne⟩
    · exact ⟨.tail _ (.tail _ hp), hV1 p hp⟩)
end

set_option maxHeartbeats 4000000 in
theorem awake_any (w : World) (tb : Tab w) (nt : NTab w) : Calls Tryz.prog 9 #[] w fun e w' => e = .returned (.bool true) ∧ Below w.heap.size w w' := by
  have hpos : topTab < w.heap.size := by
    have h1 := tb.size
    have h2 := nt.size
    unfold topTab
    omega
  have cN := Lib.hid (new_run (Below.refl w.heap.size w) hpos 2 (by unfold i64; omega))
  have cA := Lib.hid (fun W b s c V (h : Rn w W b s c V) (hc : c ≤ 900000) o (ho : OpOk o) => h.apply tb nt hc o ho)
  have o1 := Lib.hid (ok_aw 1 1 1 7 0 0 100 0 0 (by decide))
  have o2 := Lib.hid (ok_aw 3 0 0 7 1 100 0 99 0 (by decide))
  have o3 := Lib.hid (ok_aw 3 0 0 7 1 100 0 100 0 (by decide))
  have o4 := Lib.hid (ok_aw 1 1 1 8 0 0 0 0 0 (by decide))
  clear tb nt
  go_enter Tryz.func9, Tryz.ntmps9
  go_wp2_with fail
  refine cN.out.mono ?_
  rintro e w1 ⟨rfl, R1, b1⟩
  replace R1 := Lib.hid R1
  clear cN
  generalize w.heap.size + 3 = b at *
  go_wp2_with fail
  refine (cA.out _ _ _ _ _ R1.out (by omega) _ o1.out).mono ?_
  rintro e w2 ⟨rfl, R2⟩
  rw [aw_1] at *
  simp only [] at R2
  have R3 := Lib.hid ((R2.alloc (.cells #[.int .i64 0, .int .i64 1, .int .i64 100] 34)).alloc' (k := w2.heap.size + 1) (.cells #[.int .i64 3, .int .i64 0, .int .i64 0, .int .i64 7, .int .i64 1, .int .i64 100, .int .i64 0, .int .i64 99, .int .i64 0, .string ⟨#[]⟩] 30) (by simp))
  have hs2 := R2.bel.size
  clear R1 b1 R2
  go_wp2_with fail
  refine (cA.out _ _ _ _ _ R3.out (by omega) _ o2.out).mono ?_
  rintro e w3 ⟨rfl, R4⟩
  rw [aw_2] at *
  simp only [] at R4
  generalize hka : w2.heap.size = ka at *
  have R5 := R4.alloc (.cells #[.int .i64 6, .int .i64 0, .int .i64 0] 34)
  have g5 := R5.at (.tail _ (.head _))
  have f7 := free_in g5 7
  have pz := cell_in g5 7
  have hka1 : w.heap.size ≤ ka + 1 := by omega
  have hk3 : ka + 1 < w3.heap.size := (Array.getElem?_eq_some_iff.1 (R4.at (.head _))).1
  replace R5 := Lib.hid R5
  have R4' := Lib.hid R4
  clear R3 R4 g5
  have R6 := Lib.hid ((R4'.out.set (.head _) hka1 7 (.int .i64 100) (U := [(ka, .cells #[.int .i64 0, .int .i64 1, .int .i64 100] 34)]) (fun p hp => by
    simp only [List.mem_cons, List.not_mem_nil, or_false] at hp
    rcases hp with rfl
    exact ⟨.tail _ (.head _), by simp only; omega⟩)).alloc' (k := w3.heap.size) (.cells #[.int .i64 6, .int .i64 0, .int .i64 0] 34) (by simp))
  clear R5 R4'
  go_upto_region 8 with fail
  have hkb0 : w.heap.size ≤ w3.heap.size := by omega
  generalize (w3.setCell ⟨ka + 1, 7, none⟩ (.int .i64 100)).alloc (.cells #[.int .i64 6, .int .i64 0, .int .i64 0] 34) = w4 at *
  generalize w3.heap.size = kb at *
  have R7 := Lib.hid (R6.out.drewN 1)
  change Hid (Rn w w4.drew b _ _ _) at R7
  obtain ⟨p0, p1, p2, p3, p4, p5, p6, p7, p8, p9⟩ := op_cells (o := ⟨3,0,0,7,1,100,0,100,0,⟨#[]⟩⟩) (R7.out.at (.tail _ (.head _)))
  simp only [] at p0 p1 p2 p3 p4 p5 p6 p7 p8 p9
  have c3 : Hid (∀ W V, Rn w W b ⟨2, 1, [⟨7,1,1,100,⟨#[]⟩⟩], [⟨1,1,⟨0,1,100⟩⟩]⟩ 2 V → Calls Tryz.prog 15 #[.pointer (some ⟨b, 0, none⟩), opV ⟨3,0,0,7,1,100,0,100,0,⟨#[]⟩⟩] W fun e w' => e = .returned (rpV ⟨0, 1, 100⟩) ∧ Rn w w' b ⟨2, 1, [], [⟨1,1,⟨0,1,100⟩⟩]⟩ 3 V) := fun W V h => by
    have := cA.out W b _ _ V h (by omega) _ o3.out
    rw [aw_3] at this
    exact this
  have c4 : Hid (∀ W V, Rn w W b ⟨2, 1, [], [⟨1,1,⟨0,1,100⟩⟩]⟩ 3 V → Calls Tryz.prog 15 #[.pointer (some ⟨b, 0, none⟩), opV ⟨3,0,0,7,1,100,0,100,0,⟨#[]⟩⟩] W fun e w' => e = .returned (rpV ⟨6, 0, 0⟩) ∧ Rn w w' b ⟨2, 1, [], [⟨1,1,⟨0,1,100⟩⟩]⟩ 4 V) := fun W V h => by
    have := cA.out W b _ _ V h (by omega) _ o3.out
    rw [aw_4] at this
    exact this
  have g4 : FC w4 (ka + 1) ⟨3,0,0,7,1,100,0,100,0,⟨#[]⟩⟩ := ⟨R6.out.at (k := ka + 1) (o := opO ⟨3,0,0,7,1,100,0,100,0,⟨#[]⟩⟩) (by simp)⟩
  have hz4 := size_alloc w4
  have m7 : kb < w4.heap.size := R6.out.lt (.head _)
  have m4 : ka + 1 < w4.heap.size := R6.out.lt (k := ka + 1) (o := opO ⟨3,0,0,7,1,100,0,100,0,⟨#[]⟩⟩) (by simp)
  have c5 : Hid (∀ W V, Rn w W b ⟨2, 1, [], [⟨1,1,⟨0,1,100⟩⟩]⟩ 4 V → Calls Tryz.prog 15 #[.pointer (some ⟨b, 0, none⟩), opV ⟨1,1,1,8,0,0,0,0,0,⟨#[]⟩⟩] W fun e w' => e = .returned (rpV ⟨0, 1, 100⟩) ∧ Rn w w' b ⟨2, 1, [], [⟨1,1,⟨0,1,100⟩⟩]⟩ 5 V) := fun W V h => by
    have := cA.out W b _ _ V h (by omega) _ o4.out
    rw [aw_5] at this
    exact this
  clear f7 pz hka cA o1 o2 o3 o4 hpos
  go_cut [5, 6] (fun v5 v6 wx => ∃ kc kd : Nat, v5 = .pointer (some ⟨kc, 0, none⟩) ∧ v6 = .pointer (some ⟨kd, 0, none⟩) ∧ Hid (Rn w wx b ⟨2, 1, [], [⟨1,1,⟨0,1,100⟩⟩]⟩ 4 [(kd, .cells #[.int .i64 6, .int .i64 0, .int .i64 0] 34), (kc, .cells #[.int .i64 0, .int .i64 1, .int .i64 100] 34), (kb, .cells #[.int .i64 6, .int .i64 0, .int .i64 0] 34), (ka, .cells #[.int .i64 0, .int .i64 1, .int .i64 100] 34)]))
  case first =>
    go_region_held3 (fun w' => FC w' (ka + 1) ⟨3,0,0,7,1,100,0,100,0,⟨#[]⟩⟩ ∧ w'.cell? ⟨ka + 1, 0, none⟩ = some (.int .i64 3) ∧ w'.cell? ⟨ka + 1, 1, none⟩ = some (.int .i64 0) ∧ w'.cell? ⟨ka + 1, 2, none⟩ = some (.int .i64 0) ∧ w'.cell? ⟨ka + 1, 3, none⟩ = some (.int .i64 7) ∧ w'.cell? ⟨ka + 1, 4, none⟩ = some (.int .i64 1) ∧ w'.cell? ⟨ka + 1, 5, none⟩ = some (.int .i64 100) ∧ w'.cell? ⟨ka + 1, 6, none⟩ = some (.int .i64 0) ∧ w'.cell? ⟨ka + 1, 7, none⟩ = some (.int .i64 100) ∧ w'.cell? ⟨ka + 1, 8, none⟩ = some (.int .i64 0) ∧ w'.cell? ⟨ka + 1, 9, none⟩ = some (.string ⟨#[]⟩))
      ((refine fcS ?_; repeat (with_reducible first | exact g6 | exact g5 | exact g4 | refine fc_alloc ?_ _ | refine fc_drew ?_ | refine fc_set ?_ _ _ _ (by first | assumption | omega))))
      (first
        | (go_at_call 15; refine (c3.out _ _ (by with_reducible first | exact R7.out | exact (R6.out.alloc _).drew1 | exact ((R6.out.alloc _).alloc' _ (hz4 _)).drew1)).mono ?_; rintro e w5 ⟨rfl, R8⟩; have g5 : FC w5 (ka + 1) ⟨3,0,0,7,1,100,0,100,0,⟨#[]⟩⟩ := ⟨R8.at (k := ka + 1) (o := opO ⟨3,0,0,7,1,100,0,100,0,⟨#[]⟩⟩) (by simp)⟩; have m5 := R8.lt (k := ka + 1) (o := opO ⟨3,0,0,7,1,100,0,100,0,⟨#[]⟩⟩) (by simp); have hz5 := size_alloc w5; have l10 := R8.lt (k := kb) (o := .cells #[.int .i64 6, .int .i64 0, .int .i64 0] 34) (by simp); have l8 := R8.lt (.head _); have l9 := R8.lt (.tail _ (.head _)); have n8 := Nat.ne_of_lt l8; have n9 := Nat.ne_of_gt l8; have n10 := Nat.ne_of_lt l9; have n11 := Nat.ne_of_gt l9; replace R8 := Lib.hid R8)
        | (go_at_call 15; refine (c4.out _ _ (by with_reducible first | exact R8.out | exact R8.out.alloc _ | exact (R8.out.alloc _).alloc' _ (hz5 _))).mono ?_; rintro e w6 ⟨rfl, R9⟩; have g6 : FC w6 (ka + 1) ⟨3,0,0,7,1,100,0,100,0,⟨#[]⟩⟩ := ⟨R9.at (k := ka + 1) (o := opO ⟨3,0,0,7,1,100,0,100,0,⟨#[]⟩⟩) (by simp)⟩; have m6 := R9.lt (k := ka + 1) (o := opO ⟨3,0,0,7,1,100,0,100,0,⟨#[]⟩⟩) (by simp); have hz6 := size_alloc w6; have l11 := R9.lt (k := kb) (o := .cells #[.int .i64 6, .int .i64 0, .int .i64 0] 34) (by simp); have l1 := R9.lt (.head _); have l2 := R9.lt (.tail _ (.head _)); have n1 := Nat.ne_of_lt l1; have n2 := Nat.ne_of_lt l2; have n3 := Nat.ne_of_gt l1; have n4 := Nat.ne_of_gt l2; (try obtain ⟨x0, x1, x2, x3, x4, x5⟩ := R9.cells3 (.head _)); (try obtain ⟨y0, y1, y2, y3, y4, y5⟩ := R9.cells3 (.tail _ (.head _))); replace R9 := Lib.hid R9))
    all_goals go_wp2_with fail
    all_goals go_meet
    all_goals refine ⟨_, _, rfl, rfl, ?_⟩
    all_goals first
      | with_reducible refine Lib.hid (Rn.less (end_aa R9.out _ _) ?_)
      | with_reducible refine Lib.hid (Rn.less (end_sa R9.out ?_ ?_ _ _ _ _) ?_)
      | with_reducible refine Lib.hid (Rn.less (end_ss12 R9.out ?_ ?_ ?_ ?_ ?_ _ _ _ _ _ _) ?_)
      | with_reducible refine Lib.hid (Rn.less (end_ss21 R9.out ?_ ?_ ?_ ?_ ?_ _ _ _ _ _ _) ?_)
    all_goals first
      | omega
      | (intro p hp
         simp only [List.mem_cons, List.not_mem_nil, or_false] at hp
         rcases hp with rfl | rfl | rfl <;> simp only <;> omega)
      | (intro p hp
         simp only [List.mem_cons, List.not_mem_nil, or_false] at hp
         rcases hp with rfl | rfl | rfl | rfl <;> simp)
  case rest =>
    obtain ⟨kc, kd, rfl, rfl, R10⟩ := hcut
    clear R6 c3 c4 p0 p1 p2 p3 p4 p5 p6 p7 p8 p9 g4 m4 R7
    go_wp2_with fail
    refine (c5.out _ _ R10.out).mono ?_
    rintro e w7 ⟨rfl, R11⟩
    have R12 := Lib.hid (R11.alloc' (k := w7.heap.size) (.cells #[.int .i64 0, .int .i64 1, .int .i64 100] 34) rfl)
    obtain ⟨a0, a1, a2, _, _, _⟩ := R12.out.cells3 (.tail _ (.tail _ (.tail _ (.tail _ (.head _)))))
    obtain ⟨b0, b1, b2, _, _, _⟩ := R12.out.cells3 (.tail _ (.tail _ (.tail _ (.head _))))
    obtain ⟨d0, d1, d2, _, _, _⟩ := R12.out.cells3 (.tail _ (.head _))
    obtain ⟨e0, e1, e2, _, _, _⟩ := R12.out.cells3 (.tail _ (.tail _ (.head _)))
    obtain ⟨f0, f1, f2, _, _, _⟩ := R12.out.cells3 (.head _)
    have cL := Lib.hid R12.out.list
    clear R10 R11 c5
    unfold rpV at *
    go_wp2_with fail
    refine cL.out.mono ?_
    rintro e w8 ⟨v8, rfl, T8, k8⟩
    obtain ⟨pa, pc, rfl⟩ : ∃ pa pc, v8 = .slice pa 0 pc := by
      rcases T8.2 with ⟨rfl, _⟩ | ⟨g, cap, cur, rfl, _⟩
      · exact ⟨_, _, rfl⟩
      · exact ⟨_, _, rfl⟩
    have R13 := Lib.hid (R12.out.below k8)
    have cC := Lib.hid R13.out.clients
    clear R12 cL a0 a1 a2 b0 b1 b2 d0 d1 d2 e0 e1 e2 f0 f1 f2 T8 k8
    go_wp2_with fail
    refine cC.out.mono ?_
    rintro e w9 ⟨v9, rfl, N9, k9⟩
    have R14 := Lib.hid (R13.out.below k9)
    replace N9 := Lib.hid N9
    clear R13 cC k9
    go_wp2_with fail
    have k10 : Below w9.heap.size w9 (w9.alloc (.cells #[.int .i64 1] 3)) := (Below.refl _ _).alloc (Nat.le_refl _) _
    have N1 : Nums w9.heap.size (w9.alloc (.cells #[.int .i64 1] 3)) (.slice (some ⟨w9.heap.size, 0, none⟩) 1 1) [1] :=
      ⟨rfl, .inr ⟨w9.heap.size, 1, #[.int .i64 1], rfl, Nat.le_refl _, Go.heap_alloc_new w9 _, Nat.le_refl _, by decide, rfl, rfl⟩⟩
    have R15 := Lib.hid (R14.out.below k10)
    refine (nums_same _ v9 _ [1] [1] _ _ (nums_below N9.out k10) N1 (by simp) (by simp) true (by simp)).mono ?_
    rintro e w10 ⟨rfl, k11⟩
    have R16 := Lib.hid (R15.out.below k11)
    clear R14 R15 N9 N1 k10 k11
    go_wp2_with fail
    go_ret
    exact ⟨rfl, R16.out.bel⟩
end Go.Proofs.YtiidhcpflplpiaaGreatDoor
