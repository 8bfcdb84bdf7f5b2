/-
  Layer 5: what NextCaches' two loops stand on: the document's Parse of texts of any length, a map of texts, an array of numbers that is written place by place.
-/
import Derived.Test.YtohogchnjeddeaaGreatDoorLift
import Derived.ProofKit
import Derived.SliceStrings
set_option linter.unusedVariables false
namespace Go.Proofs.YtohogchnjeddeaaGreatDoor
open Go.RowKit Crn Nxt Go.ChangeMaps

theorem refParse_far (s : ByteArray) (w : World) (hs : 256 < (s.size : Int)) (hm : (s.size : Int) ≤ 281474976710656) :
    Calls Tryz.prog 18 #[.string s] w fun e w' => e = answerP none ∧ Below w.heap.size w w' := by
  go_enter Tryz.func18, Tryz.ntmps18
  go_wp2_with fail
  refine bodyPost_ret (v := .tuple #[specV zero, .bool false]) ?_ rfl ?_
  · rw [results_cell_tmp rfl]
    go_simp
    rfl
  · exact ⟨rfl, ((Below.refl _ _).alloc (Nat.le_refl _) _).alloc (by simp) _⟩
theorem refParse_all (s : ByteArray) (w : World) (hm : s.size ≤ 281474976710656) :
    Calls Tryz.prog 18 #[.string s] w fun e w' => e = answerP (parse s.data.toList) ∧ Below w.heap.size w w' := by
  by_cases h : 256 < s.size
  · rw [parse_far h]
    exact refParse_far s w (by omega) (by omega)
  · exact refParse_any s w (by omega)

/-- The block mb is a map of these texts, each with 1. -/
def OneMap (w : World) (mb : Nat) (l : List ByteArray) : Prop :=
  ∃ es clock, w.heap[mb]? = some (.map es clock) ∧ es.toList.map (fun e => (e.key, e.val)) = l.map fun s => (Value.string s, Value.int .i64 1)
theorem mapS : Tryz.prog.underlying 37 = some (.map 9 3) := Tryz.underlying37
theorem OneMap.made (w : World) : OneMap (w.alloc (.map #[] 0)) w.heap.size [] := ⟨#[], 0, (MapKept.heap_alloc w _).1, rfl⟩
theorem OneMap.kept {w w' : World} {mb : Nat} {l : List ByteArray} (h : OneMap w mb l) (k : w'.heap[mb]? = w.heap[mb]?) : OneMap w' mb l := by
  obtain ⟨es, clock, h1, h2⟩ := h
  exact ⟨es, clock, k.trans h1, h2⟩
theorem OneMap.lt {w : World} {mb : Nat} {l : List ByteArray} (h : OneMap w mb l) : mb < w.heap.size := by
  obtain ⟨es, clock, h1, h2⟩ := h
  exact lt_in h1
theorem OneMap.len {w : World} {mb : Nat} {l : List ByteArray} (h : OneMap w mb l) (ty : TypeId) : (Builtin.len_ #[37] ty #[.map (some mb)]).run Tryz.prog w = .ok (.int .i64 l.length) w := by
  obtain ⟨es, clock, h1, h2⟩ := h
  have e : es.size = l.length := by
    have := congrArg List.length h2
    simpa using this
  simp [Builtin.len_, run_underlying mapS, MapKept.run_getObj_map h1, goInt, Result.andThen, e]
theorem one_put {w : World} {b : Nat} {l : List ByteArray} (hm : OneMap w b l) (hl : ∀ s ∈ l, s.size ≤ 281474976710656) (s : ByteArray) (hs : s.size ≤ 281474976710656) (l2 : List ByteArray)
    (ho : s ∈ l → l2 = l) (hn : s ∉ l → l2 = l ++ [s]) :
    ∃ w', (Instr.mapUpdate 37 (.map (some b)) (.string s) (.int .i64 1)).run Tryz.prog w = .ok () w' ∧ OneMap w' b l2 ∧ (∀ k, k ≠ b → w'.heap[k]? = w.heap[k]?) ∧ w'.heap.size = w.heap.size ∧ w'.os = w.os ∧ w'.tape = w.tape ∧ w'.output = w.output := by
  obtain ⟨es, clock, hb, he⟩ := hm
  have k2 : ∀ e ∈ es.toList, ∃ p ∈ l, e.key = .string p ∧ e.val = .int .i64 1 := fun e h => by
    have : (e.key, e.val) ∈ l.map fun p => (Value.string p, Value.int .i64 1) := by
      rw [← he]
      exact List.mem_map.2 ⟨e, h, rfl⟩
    obtain ⟨p, hp, e1⟩ := List.mem_map.1 this
    injection e1 with a b
    exact ⟨p, hp, a.symm, b.symm⟩
  have k1 : ∀ e ∈ es.toList, ∃ k, keyOf Tryz.prog 9 e.key = some k := fun e h => by
    obtain ⟨p, hp, e1, _⟩ := k2 e h
    rw [e1]
    exact ⟨_, key_all p (hl p hp)⟩
  rcases keyed9.find w (key_all s hs) es.toList k1 with ⟨h1, h2⟩ | ⟨j, e0, h1, h2, h3⟩
  · have hn2 : s ∉ l := fun hsl => by
      have : (Value.string s, Value.int .i64 1) ∈ es.toList.map (fun e => (e.key, e.val)) := by
        rw [he]
        exact List.mem_map.2 ⟨s, hsl, rfl⟩
      obtain ⟨x, hx, ex⟩ := List.mem_map.1 this
      injection ex with a _
      exact h2 x hx a
    rw [hn hn2]
    refine ⟨setBlock w b (.map (es.push ⟨.string s, .int .i64 1, clock⟩) (clock + 1)), ?_, ⟨_, _, heap_setBlock_same hb _, ?_⟩, fun k hk => heap_setBlock_other hb _ hk, by simp [setBlock], rfl, rfl, rfl⟩
    · simp [Instr.mapUpdate, run_underlying mapS, MapKept.run_getObj_map hb, keyed9.check w false (key_all s hs), h1, MapKept.run_setObj_map _ hb, Result.andThen, setBlock]
    · simp [he]
  · obtain ⟨p, hp, e1, e2⟩ := k2 e0 (List.mem_of_getElem? h2)
    have h3' := h3
    rw [h3] at e1
    injection e1 with e1
    subst e1
    rw [ho hp]
    have hj : es[j]? = some e0 := by simpa using h2
    refine ⟨setBlock w b (.map (es.modify j fun e => { e with key := .string s, val := .int .i64 1 }) clock), ?_, ⟨_, _, heap_setBlock_same hb _, ?_⟩, fun k hk => heap_setBlock_other hb _ hk, by simp [setBlock], rfl, rfl, rfl⟩
    · have hk : Instr.sameBits 10000 (.string s) (.string s) = true := by
        simp only [Instr.sameBits]
        first | rfl | exact BEq.rfl | (show (s.data == s.data) = true; simp) | (show decide (s = s) = true; simp)
      simp [Instr.mapUpdate, run_underlying mapS, MapKept.run_getObj_map hb, keyed9.check w false (key_all s hs), h1, hj, h3', Instr.keyThatStays, hk, MapKept.run_setObj_map _ hb, Result.andThen, setBlock]
    · rw [← he]
      apply List.ext_getElem?
      intro i
      simp only [List.getElem?_map, Array.getElem?_toList, Array.getElem?_modify]
      by_cases hi : j = i
      · subst hi
        rw [if_pos rfl, hj]
        simp [h3', e2]
      · rw [if_neg hi]

/-- A block of n numbers. -/
structure Ar (w : World) (g T n : Nat) (f : Nat → Int) : Prop where
  blk : ∃ cur : Array Value, w.heap[g]? = some (.cells cur T (0, 0)) ∧ cur.size = n ∧ ∀ i, i < n → cur[i]? = some (.int .i64 (f i))
theorem Ar.lt {w : World} {g T n : Nat} {f : Nat → Int} (h : Ar w g T n f) : g < w.heap.size := by
  obtain ⟨cur, h1, _⟩ := h.blk
  exact lt_in h1
theorem Ar.cell {w : World} {g T n : Nat} {f : Nat → Int} (h : Ar w g T n f) {i : Nat} (hi : i < n) : w.cell? ⟨g, i, none⟩ = some (.int .i64 (f i)) := by
  obtain ⟨cur, h1, h2, h3⟩ := h.blk
  rw [cell_in h1]
  exact h3 i hi
theorem Ar.free {w : World} {g T n : Nat} {f : Nat → Int} (h : Ar w g T n f) (i : Nat) : w.frozen? ⟨g, i, none⟩ = false := by
  obtain ⟨cur, h1, h2, h3⟩ := h.blk
  exact free_in h1 i
theorem Ar.kept {w w' : World} {g T n : Nat} {f : Nat → Int} (h : Ar w g T n f) (k : w'.heap[g]? = w.heap[g]?) : Ar w' g T n f := by
  obtain ⟨cur, h1, h2⟩ := h.blk
  exact ⟨cur, k.trans h1, h2⟩
theorem Ar.put {w : World} {g T n : Nat} {f : Nat → Int} (h : Ar w g T n f) (k : Nat) (v : Int) : Ar (w.setCell ⟨g, k, none⟩ (.int .i64 v)) g T n (fun i => if i = k then v else f i) := by
  obtain ⟨cur, h1, h2, h3⟩ := h.blk
  refine ⟨_, heap_setCell_same _ g k _ _ _ h1, by simp [h2], fun i hi => ?_⟩
  rw [Array.getElem?_setIfInBounds]
  by_cases e : i = k
  · subst e
    simp [h2, hi]
  · rw [if_neg (fun x => e x.symm), if_neg e]
    exact h3 i hi
theorem Ar.made (w : World) (T n : Nat) : Ar (w.alloc (.cells (madeCells #[.int .i64 0] n) T)) w.heap.size T n (fun _ => 0) := by
  refine ⟨_, Go.heap_alloc_new w _, by simp [size_madeCells], fun i hi => ?_⟩
  have := congrArg (·[i]?) (toList_madeCells_one (.int .i64 0) n)
  simp only [Array.getElem?_toList] at this
  rw [this, List.getElem?_replicate]
  simp [hi]
theorem info_three {P : Program} {t : TypeId} {z : Option Value} {a b : Nat} (h : (P.info? t).map (fun i => (i.zero, i.size, i.bytes)) = some (z, a, b)) : ∃ i, P.info? t = some i ∧ i.zero = z ∧ i.size = a ∧ i.bytes = b := by
  cases hq : P.info? t with
  | none => simp [hq] at h
  | some i =>
    rw [hq] at h
    simp at h
    exact ⟨i, rfl, h.1, h.2.1, h.2.2⟩
theorem make31 (n : Nat) (h : n ≤ 12) (W : World) : (Instr.makeSlice 31 (.int .i64 (n : Int)) (.int .i64 (n : Int))).run Tryz.prog W = .ok (.slice (some ⟨W.heap.size, 0, none⟩) n n) (W.alloc (.cells (madeCells #[.int .i64 0] n) 3)) := by
  obtain ⟨i0, hi0, hz0, hzs, hzb⟩ := info_three (show (Tryz.prog.info? 3).map (fun i => (i.zero, i.size, i.bytes)) = some (some (.int .i64 0), 1, 8) by kernel_rfl)
  have hr := run_make (P := Tryz.prog) W 31 3 i0 (.int .i64 0) Tryz.underlying31 hi0 hz0 .i64 .i64 n n (by omega) (Int.le_refl _) (by rw [hzb]; omega) (by omega)
  rw [hzs] at hr
  simpa [Value.cells] using hr
theorem make36 (n : Nat) (h : n ≤ 12) (W : World) : (Instr.makeSlice 36 (.int .i64 (n : Int)) (.int .i64 (n : Int))).run Tryz.prog W = .ok (.slice (some ⟨W.heap.size, 0, none⟩) n n) (W.alloc (.cells (madeCells #[.int .i64 0] n) 38)) := by
  obtain ⟨i0, hi0, hz0, hzs, hzb⟩ := info_three (show (Tryz.prog.info? 38).map (fun i => (i.zero, i.size, i.bytes)) = some (some (.int .i64 0), 1, 8) by kernel_rfl)
  have hr := run_make (P := Tryz.prog) W 36 38 i0 (.int .i64 0) Tryz.underlying36 hi0 hz0 .i64 .i64 n n (by omega) (Int.le_refl _) (by rw [hzb]; omega) (by omega)
  rw [hzs] at hr
  simpa [Value.cells] using hr
theorem make37 (W : World) : (Instr.makeMap 37 none).run Tryz.prog W = .ok (.map (some W.heap.size)) (W.alloc (.map #[] 0)) := by
  simp [Instr.makeMap, Result.andThen, go_sem]

/-- The texts that came in, as they are read. -/
def Txt (w : World) (a : Option Addr) (n : Nat) (ss : Nat → ByteArray) : Prop := ∀ i, i < n → ∃ b off, a = some ⟨b, off, none⟩ ∧ w.cell? ⟨b, off + i, none⟩ = some (.string (ss i)) ∧ (ss i).size ≤ 281474976710656
theorem Txt.keep {w w' : World} {a : Option Addr} {n : Nat} {ss : Nat → ByteArray} (h : Txt w a n ss) (k : Below w.heap.size w w') : Txt w' a n ss := fun i hi => by
  obtain ⟨b, off, e, c, z⟩ := h i hi
  exact ⟨b, off, e, (k.cell (p := ⟨b, off + i, none⟩) (World.block_lt_of_cell? w _ c)).trans c, z⟩

/-- What lies in the world while the cache is asked: it was asked q times, k answers are kept; the map of texts, the two arrays. -/
structure Asked (w0 wr : World) (n : Nat) (ss : Nat → ByteArray) (after : Int) (b ga ge nb : Nat) (q k : Nat) (m : Option Nat) (l : List (ByteArray × Nat)) (ns : List ByteArray) : Prop where
  tb : Tab wr
  nt : NTab wr
  below : Below w0.heap.size w0 wr
  ca : Ca wr b q l.length m l
  names : OneMap wr nb ns
  at_ : ∃ f, Ar wr ga 3 n f ∧ ∀ i, i < k → f i = atC (ss i) after
  er : ∃ f, Ar wr ge 38 n f ∧ ∀ i, i < k → f i = erC (ss i) after
  apart : ∀ x, x ∈ owned b m l → x ≠ ga ∧ x ≠ ge ∧ x ≠ nb
  two : ga ≠ ge ∧ ga ≠ nb ∧ ge ≠ nb
  low : w0.heap.size ≤ ga ∧ w0.heap.size ≤ ge ∧ w0.heap.size ≤ nb ∧ ∀ x, x ∈ owned b m l → w0.heap.size ≤ x
  top : topTab < w0.heap.size
  len : l.length ≤ q

theorem Tab.same {w0 wr w' : World} (t : Tab wr) (h : ∀ x, x < w0.heap.size → w'.heap[x]? = wr.heap[x]?) (b : Below w0.heap.size w0 wr) (ht : topTab < w0.heap.size) (e : wr.heap.size ≤ w'.heap.size) (e1 : w'.os = wr.os) (e2 : w'.tape = wr.tape) (e3 : w'.output = wr.output) : Tab w' ∧ Below w0.heap.size wr w' := by
  have hb : Below w0.heap.size wr w' := ⟨e1, e2, e3, e, fun k hk => h k hk⟩
  exact ⟨t.keepB hb (by unfold topTab at ht; omega), hb⟩

theorem Asked.named {w0 wr w' : World} {n : Nat} {ss : Nat → ByteArray} {after : Int} {b ga ge nb q k : Nat} {m : Option Nat} {l : List (ByteArray × Nat)} {ns ns' : List ByteArray} (h : Asked w0 wr n ss after b ga ge nb q k m l ns)
    (hm : OneMap w' nb ns') (ho : ∀ x, x ≠ nb → w'.heap[x]? = wr.heap[x]?) (e : w'.heap.size = wr.heap.size) (e1 : w'.os = wr.os) (e2 : w'.tape = wr.tape) (e3 : w'.output = wr.output) : Asked w0 w' n ss after b ga ge nb q k m l ns' := by
  have hl := h.low
  have hb : Below w0.heap.size wr w' := ⟨e1, e2, e3, by omega, fun x hx => ho x (by omega)⟩
  have ht := h.top
  obtain ⟨f, f1, f2⟩ := h.at_
  obtain ⟨g, g1, g2⟩ := h.er
  refine ⟨h.tb.keepB hb (by unfold topTab at ht; omega), h.nt.keep hb (by unfold topTab at ht; omega), h.below.trans hb, ?_, hm, ⟨f, f1.kept (ho _ h.two.2.1), f2⟩, ⟨g, g1.kept (ho _ h.two.2.2), g2⟩, h.apart, h.two, h.low, h.top, h.len⟩
  exact h.ca.kept (L := [nb]) ⟨e1, e2, e3, by omega, fun x _ hx => ho x (by simpa using hx)⟩ (fun x hx hxo => by
    simp only [List.mem_singleton] at hx
    subst hx
    exact (h.apart x hxo).2.2 rfl)
theorem Asked.asked {w0 wr w' : World} {n : Nat} {ss : Nat → ByteArray} {after : Int} {b ga ge nb q k : Nat} {m m' : Option Nat} {l l' : List (ByteArray × Nat)} {ns : List ByteArray} {s : ByteArray} (h : Asked w0 wr n ss after b ga ge nb q k m l ns)
    (hb : Behind wr b q m l s w' m' l') : Asked w0 w' n ss after b ga ge nb (q + 1) k m' l' ns := by
  have hl := h.low
  have ht := h.top
  have hk := hb.kept
  have hw : Below w0.heap.size wr w' := hk.below h.low.2.2.2 h.below.size
  obtain ⟨f, f1, f2⟩ := h.at_
  obtain ⟨g, g1, g2⟩ := h.er
  have n1 : ga ∉ owned b m l := fun hx => (h.apart _ hx).1 rfl
  have n2 : ge ∉ owned b m l := fun hx => (h.apart _ hx).2.1 rfl
  have n3 : nb ∉ owned b m l := fun hx => (h.apart _ hx).2.2 rfl
  have z1 := f1.lt
  have z2 := g1.lt
  have z3 := h.names.lt
  refine ⟨h.tb.keepB hw (by unfold topTab at ht; omega), h.nt.keep hw (by unfold topTab at ht; omega), h.below.trans hw, hb.ca, h.names.kept (hk.block nb z3 n3), ⟨f, f1.kept (hk.block ga z1 n1), f2⟩, ⟨g, g1.kept (hk.block ge z2 n2), g2⟩, fun x hx => ?_, h.two, ⟨hl.1, hl.2.1, hl.2.2.1, fun x hx => ?_⟩, ht, ?_⟩
  · rcases hb.own x hx with h2 | h2
    · exact h.apart x h2
    · exact ⟨by omega, by omega, by omega⟩
  · rcases hb.own x hx with h2 | h2
    · exact hl.2.2.2 x h2
    · have := h.below.size
      omega
  · have h1 := h.len
    have h2 : l'.length = (l'.map (·.1)).length := by simp
    by_cases hs : s ∈ l.map (·.1)
    · rw [h2, hb.old hs, List.length_map]; omega
    · rw [h2, hb.new hs, List.length_append, List.length_map, List.length_singleton]; omega
theorem Asked.filled {w0 wr : World} {n : Nat} {ss : Nat → ByteArray} {after : Int} {b ga ge nb q k : Nat} {m : Option Nat} {l : List (ByteArray × Nat)} {ns : List ByteArray} (h : Asked w0 wr n ss after b ga ge nb q k m l ns) :
    Asked w0 ((wr.setCell ⟨ga, k, none⟩ (.int .i64 (atC (ss k) after))).setCell ⟨ge, k, none⟩ (.int .i64 (erC (ss k) after))) n ss after b ga ge nb q (k + 1) m l ns := by
  have hl := h.low
  have ht := h.top
  have ho : ∀ x, x ≠ ga → x ≠ ge → ((wr.setCell ⟨ga, k, none⟩ (.int .i64 (atC (ss k) after))).setCell ⟨ge, k, none⟩ (.int .i64 (erC (ss k) after))).heap[x]? = wr.heap[x]? := fun x h1 h2 => by
    rw [heap_setCell_other _ _ _ _ h2, heap_setCell_other _ _ _ _ h1]
  have hw : Below w0.heap.size wr ((wr.setCell ⟨ga, k, none⟩ (.int .i64 (atC (ss k) after))).setCell ⟨ge, k, none⟩ (.int .i64 (erC (ss k) after))) := ⟨rfl, rfl, rfl, by simp, fun x hx => ho x (by omega) (by omega)⟩
  obtain ⟨f, f1, f2⟩ := h.at_
  obtain ⟨g, g1, g2⟩ := h.er
  refine ⟨h.tb.keepB hw (by unfold topTab at ht; omega), h.nt.keep hw (by unfold topTab at ht; omega), h.below.trans hw, ?_, h.names.kept (ho nb (Ne.symm h.two.2.1) (Ne.symm h.two.2.2)), ⟨_, (f1.put k _).kept (heap_setCell_other _ _ _ _ h.two.1), fun i hi => ?_⟩, ⟨_, (g1.kept (heap_setCell_other _ _ _ _ (Ne.symm h.two.1))).put k _, fun i hi => ?_⟩, h.apart, h.two, h.low, ht, h.len⟩
  · exact h.ca.kept (L := [ga, ge]) ⟨rfl, rfl, rfl, by simp, fun x _ hx => ho x (fun e => hx (by simp [e])) (fun e => hx (by simp [e]))⟩ (fun x hx hxo => by
      simp only [List.mem_cons, List.not_mem_nil, or_false] at hx
      rcases hx with e | e
      · exact (h.apart x hxo).1 e
      · exact (h.apart x hxo).2.1 e)
  · show (if i = k then atC (ss k) after else f i) = _
    by_cases e : i = k
    · rw [if_pos e, e]
    · rw [if_neg e]
      exact f2 i (by omega)
  · show (if i = k then erC (ss k) after else g i) = _
    by_cases e : i = k
    · rw [if_pos e, e]
    · rw [if_neg e]
      exact g2 i (by omega)
theorem Asked.keep {w0 wr w' : World} {n : Nat} {ss : Nat → ByteArray} {after : Int} {b ga ge nb q k : Nat} {m : Option Nat} {l : List (ByteArray × Nat)} {ns : List ByteArray} (h : Asked w0 wr n ss after b ga ge nb q k m l ns) (hw : Below wr.heap.size wr w') : Asked w0 w' n ss after b ga ge nb q k m l ns := by
  obtain ⟨f, f1, f2⟩ := h.at_
  obtain ⟨g, g1, g2⟩ := h.er
  exact ⟨h.tb.below hw, h.nt.below hw, h.below.trans (hw.mono h.below.size), h.ca.below hw, h.names.kept (hw.block _ h.names.lt), ⟨f, f1.kept (hw.block _ f1.lt), f2⟩, ⟨g, g1.kept (hw.block _ g1.lt), g2⟩, h.apart, h.two, h.low, h.top, h.len⟩
theorem Asked.start {w0 w2 : World} {n : Nat} (ss : Nat → ByteArray) (after : Int) {b : Nat} (tb : Tab w2) (nt : NTab w2) (hb : Below w0.heap.size w0 w2) (ca : Ca w2 b 0 0 none []) (h0 : w0.heap.size ≤ b) (ht : topTab < w0.heap.size) :
    Asked w0 (((w2.alloc (.cells (madeCells #[.int .i64 0] n) 3)).alloc (.cells (madeCells #[.int .i64 0] n) 38)).alloc (.map #[] 0)) n ss after b w2.heap.size (w2.heap.size + 1) (w2.heap.size + 1 + 1) 0 0 none [] [] := by
  have k1 : Below w2.heap.size w2 (((w2.alloc (.cells (madeCells #[.int .i64 0] n) 3)).alloc (.cells (madeCells #[.int .i64 0] n) 38)).alloc (.map #[] 0)) := (((Below.refl _ _).alloc (Nat.le_refl _) _).alloc (by simp) _).alloc (by simp; omega) _
  have z := hb.size
  have hbl := (ca.lt b (by simp [owned])).1
  have a1 := Ar.made w2 3 n
  have a2 := Ar.made (w2.alloc (.cells (madeCells #[.int .i64 0] n) 3)) 38 n
  have a3 := OneMap.made ((w2.alloc (.cells (madeCells #[.int .i64 0] n) 3)).alloc (.cells (madeCells #[.int .i64 0] n) 38))
  have y1 : (w2.alloc (.cells (madeCells #[.int .i64 0] n) 3)).heap.size = w2.heap.size + 1 := by simp
  have y2 : ((w2.alloc (.cells (madeCells #[.int .i64 0] n) 3)).alloc (.cells (madeCells #[.int .i64 0] n) 38)).heap.size = w2.heap.size + 2 := by simp
  rw [y1] at a2
  rw [y2] at a3
  refine ⟨tb.below k1, nt.below k1, hb.trans (k1.mono z), ca.below k1, a3, ⟨_, (a1.kept (Go.heap_alloc_old _ _ (by simp))).kept (Go.heap_alloc_old _ _ (by simp; omega)), fun i hi => by omega⟩, ⟨_, a2.kept (Go.heap_alloc_old _ _ (by simp)), fun i hi => by omega⟩, fun x hx => ?_, ⟨by omega, by omega, by omega⟩, ⟨by omega, by omega, by omega, fun x hx => ?_⟩, ht, by simp⟩
  · have : x = b := by simpa [owned] using hx
    omega
  · have : x = b := by simpa [owned] using hx
    omega
end Go.Proofs.YtohogchnjeddeaaGreatDoor
