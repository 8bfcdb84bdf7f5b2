/-
  Texts laid into one (a claim has 60 files at most): ORMap, OMem, OReq, OPush.
-/
import Derived.Test.YtoihekgmomjhpaaGreatDoorKS1
import Derived.Test.YtoihekgmomjhpaaGreatDoorKT1
import Derived.DeepKeys4
import Derived.MapViews
import Derived.Maps.Keyed
import Derived.Test.YtoihekgmomjhpaaGreatDoorKT2
import Derived.Test.YtoihekgmomjhpaaGreatDoorKW7
import Derived.Test.YtoihekgmomjhpaaGreatDoorKW8
import Derived.Test.YtoihekgmomjhpaaGreatDoorKW9
import Derived.Deep.DeepCutAuto
import Derived.Deep.RegionHeld3
import Derived.Deep.RegionLaw
/-
  Layer 9: a map with a request (two numbers) as its key in memory, as a list of pairs: looked up, and written at a new key.
-/
set_option linter.unusedVariables false
namespace Go.Proofs.YtoihekgmomjhpaaGreatDoor
open Go.ChangeShapes Go.WideShapes Go.ChangeAt Go.RowKit Go.Joins Go.Deep Go.ChangeMaps Go.MapKept Crn Ste
set_option maxRecDepth 100000
abbrev rk : TypeId := 92
abbrev rm : TypeId := 78
theorem rlaid : laidOutB Tryz.prog = true := by kernel_rfl
theorem rdeep : Tryz.prog.keyTypeAt (Tryz.prog.types.size + 1) rk = true := by kernel_rfl
theorem rwide : (match Tryz.prog.underlying rk with | some (.array _ _) | some (.struct _) => true | _ => false) = true := by kernel_rfl
theorem rkeyed : Go.Maps.Keyed Tryz.prog rk := Go.Maps.Keyed.of_law (deep_law_laid rlaid (m := 2) (by omega) (of_decide_eq_true (by kernel_rfl)) (by kernel_rfl) rwide)
theorem rcells : Tryz.prog.cellsOf rk = 2 := by kernel_rfl
theorem rstruct : ∃ fs, Tryz.prog.underlying rk = some (.struct fs) := ⟨_, Tryz.underlying92⟩
abbrev rV (a b : Int) : Value := .agg #[.int .i64 a, .int .i64 b]
theorem rformed {c0 c1 : Value} : (Value.agg #[c0, c1]).formed Tryz.prog rk = true := by
  obtain ⟨fs, hu⟩ := rstruct
  simp [Value.formed, hu, rcells]
theorem rshut {a b : Int} (ha : I64 a) (hb : I64 b) (w : World) : DataW.Trod (H := Unit) (fun _ => ()) Tryz.prog w 0 (fun _ => true) true rk (rV a b) (.agg [.lit (.int .i64 a), .lit (.int .i64 b)]) [] := by
  obtain ⟨n0, t0⟩ := field_of_Trod (shut_int (enc := fun _ => ()) (w := w) (base := 0) (spare := fun _ => true) (held := true) Tryz.underlying3 (i64_wf ha.1 ha.2)) rfl
  obtain ⟨n1, t1⟩ := field_of_Trod (shut_int (enc := fun _ => ()) (w := w) (base := 0) (spare := fun _ => true) (held := true) Tryz.underlying3 (i64_wf hb.1 hb.2)) rfl
  replace t0 := DataW.trod_le (show n0 ≤ n0 + n1 by omega) t0
  replace t1 := DataW.trod_le (show n1 ≤ n0 + n1 by omega) t1
  have ts := trod_struct_mk (enc := fun _ => ()) (w := w) (base := 0) (spare := fun _ => true) (held := true) (n := n0 + n1) (cs := [.int .i64 a, .int .i64 b]) (xs := [(.lit (.int .i64 a), []), (.lit (.int .i64 b), [])]) Tryz.underlying92 (by rw [rcells]; rfl) (by simp [cells3, t0, t1])
  exact ⟨_, by simpa [Value.cells] using ts⟩
theorem rkey {a b : Int} (ha : I64 a) (hb : I64 b) : ∃ l, keyOf Tryz.prog rk (rV a b) = some l := ⟨_, (keyOf_asKey rdeep rwide rformed (rshut ha hb { (default : World) with heap := #[] })).1⟩
/-- The block mb is a map of these requests and numbers. -/
def RMap (w : World) (mb : Nat) (t : List ((Int × Int) × Nat)) : Prop :=
  ∃ es clock, w.heap[mb]? = some (.map es clock) ∧ es.toList.map (fun e => (e.key, e.val)) = t.map fun p => (rV p.1.1 p.1.2, Value.int .i64 (p.2 : Int))
theorem RMap.kept {w w' : World} {mb : Nat} {t : List ((Int × Int) × Nat)} (h : RMap w mb t) (k : w'.heap[mb]? = w.heap[mb]?) : RMap w' mb t := by
  obtain ⟨es, clock, h1, h2⟩ := h
  exact ⟨es, clock, k.trans h1, h2⟩
theorem RMap.lt {w : World} {mb : Nat} {t : List ((Int × Int) × Nat)} (h : RMap w mb t) : mb < w.heap.size := by
  obtain ⟨es, clock, h1, _⟩ := h
  exact (Array.getElem?_eq_some_iff.1 h1).1
theorem RMap.made (w : World) : RMap (w.alloc (.map #[] 0)) w.heap.size [] := ⟨#[], 0, (MapKept.heap_alloc w _).1, rfl⟩
def RIn (t : List ((Int × Int) × Nat)) : Prop := ∀ p ∈ t, I64 p.1.1 ∧ I64 p.1.2
theorem rV_inj {a b c d : Int} (h : rV a b = rV c d) : a = c ∧ b = d := by
  injection h with h
  have h0 := congrArg (·[0]?) h
  have h1 := congrArg (·[1]?) h
  simp at h0 h1
  exact ⟨h0, h1⟩
theorem rmap_keys {t : List ((Int × Int) × Nat)} {es : Array MapEntry} (hl : RIn t) (he : es.toList.map (fun e => (e.key, e.val)) = t.map fun p => (rV p.1.1 p.1.2, Value.int .i64 (p.2 : Int))) :
    (∀ e ∈ es.toList, ∃ k, keyOf Tryz.prog rk e.key = some k) ∧ ∀ e ∈ es.toList, ∃ p ∈ t, e.key = rV p.1.1 p.1.2 ∧ e.val = .int .i64 (p.2 : Int) := by
  have h2 : ∀ e ∈ es.toList, ∃ p ∈ t, e.key = rV p.1.1 p.1.2 ∧ e.val = .int .i64 (p.2 : Int) := fun e h => by
    have : (e.key, e.val) ∈ t.map fun p => (rV p.1.1 p.1.2, Value.int .i64 (p.2 : Int)) := by
      rw [← he]
      exact List.mem_map.2 ⟨e, h, rfl⟩
    obtain ⟨p, hp, e1⟩ := List.mem_map.1 this
    injection e1 with a b
    exact ⟨p, hp, a.symm, b.symm⟩
  refine ⟨fun e h => ?_, h2⟩
  obtain ⟨p, hp, e1, _⟩ := h2 e h
  rw [e1]
  exact rkey (hl p hp).1 (hl p hp).2
/-- What stands there, or nought. -/
def atR (t : List ((Int × Int) × Nat)) (a b : Int) : Option Nat := (t.find? fun p => decide (p.1 = (a, b))).map (·.2)
theorem rlook {w : World} {mb : Nat} {t : List ((Int × Int) × Nat)} (hm : RMap w mb t) (hl : RIn t) (hk : t.Pairwise fun p q => p.1 ≠ q.1) {a b : Int} (ha : I64 a) (hb : I64 b) :
    (Instr.lookup rm (.map (some mb)) (rV a b) true).run Tryz.prog w = .ok (.tuple #[.int .i64 (((atR t a b).getD 0 : Nat) : Int), .bool (atR t a b).isSome]) w := by
  obtain ⟨es, clock, hbk, he⟩ := hm
  obtain ⟨k1, k2⟩ := rmap_keys hl he
  obtain ⟨l, hkey⟩ := rkey ha hb
  rcases rkeyed.find w hkey es.toList k1 with ⟨f1, f2⟩ | ⟨j, e0, f1, f2, f3⟩
  · have hn : atR t a b = none := by
      unfold atR
      rw [Option.map_eq_none_iff, List.find?_eq_none]
      intro p hp hpe
      simp only [decide_eq_true_eq] at hpe
      have : (rV p.1.1 p.1.2, Value.int .i64 (p.2 : Int)) ∈ es.toList.map (fun e => (e.key, e.val)) := by
        rw [he]; exact List.mem_map.2 ⟨p, hp, rfl⟩
      obtain ⟨x, hx, ex⟩ := List.mem_map.1 this
      injection ex with ex _
      refine f2 x hx (ex.trans ?_)
      rw [hpe]
    simp [Instr.lookup, run_underlying Tryz.underlying78, MapKept.run_getObj_map hbk, rkeyed.check w _ hkey, f1, Result.andThen, Tryz.zeroValue3, hn]
  · obtain ⟨p, hp, e1, e2⟩ := k2 e0 (List.mem_of_getElem? f2)
    rw [f3] at e1
    obtain ⟨g1, g2⟩ := rV_inj e1
    have hpe : p.1 = (a, b) := by rw [g1, g2]
    have hs : atR t a b = some p.2 := by
      unfold atR
      cases hq : t.find? fun p => decide (p.1 = (a, b)) with
      | none =>
        rw [List.find?_eq_none] at hq
        exact absurd (decide_eq_true hpe) (hq p hp)
      | some q =>
        have hq1 := List.mem_of_find?_eq_some hq
        have hq2 : q.1 = (a, b) := by simpa using List.find?_some hq
        have hqp : q = p := by
          obtain ⟨i, hi, rfl⟩ := List.mem_iff_getElem.1 hp
          obtain ⟨i2, hi2, rfl⟩ := List.mem_iff_getElem.1 hq1
          rcases Nat.lt_trichotomy i i2 with g | g | g
          · exact absurd (hpe.trans hq2.symm) (List.pairwise_iff_getElem.1 hk i i2 hi hi2 g)
          · subst g; rfl
          · exact absurd (hq2.trans hpe.symm) (List.pairwise_iff_getElem.1 hk i2 i hi2 hi g)
        rw [hqp]; rfl
    simp [Instr.lookup, run_underlying Tryz.underlying78, MapKept.run_getObj_map hbk, rkeyed.check w _ hkey, f1, Result.andThen, hs, e2]
theorem rinsert {w : World} {mb : Nat} {t : List ((Int × Int) × Nat)} (hm : RMap w mb t) (hl : RIn t) {a b : Int} (ha : I64 a) (hb : I64 b) (n : Nat) (hn : atR t a b = none) :
    ∃ w', (Instr.mapUpdate rm (.map (some mb)) (rV a b) (.int .i64 (n : Int))).run Tryz.prog w = .ok () w' ∧ RMap w' mb (t ++ [((a, b), n)]) ∧ w.grownBy w' (some mb) ∧ w'.heap.size = w.heap.size := by
  obtain ⟨es, clock, hbk, he⟩ := hm
  obtain ⟨k1, k2⟩ := rmap_keys hl he
  obtain ⟨l, hkey⟩ := rkey ha hb
  rcases rkeyed.find w hkey es.toList k1 with ⟨f1, f2⟩ | ⟨j, e0, f1, f2, f3⟩
  · refine ⟨setBlock w mb (.map (es.push ⟨rV a b, .int .i64 (n : Int), clock⟩) (clock + 1)), ?_, ⟨_, _, heap_setBlock_same hbk _, ?_⟩, ⟨rfl, rfl, rfl, by simp [setBlock], fun k _ hk => heap_setBlock_other hbk _ (fun e => hk (by rw [e]))⟩, by simp [setBlock]⟩
    · simp [Instr.mapUpdate, run_underlying Tryz.underlying78, MapKept.run_getObj_map hbk, rkeyed.check w false hkey, f1, MapKept.run_setObj_map _ hbk, Result.andThen, setBlock]
    · simp [he]
  · obtain ⟨p, hp, e1, e2⟩ := k2 e0 (List.mem_of_getElem? f2)
    rw [f3] at e1
    obtain ⟨g1, g2⟩ := rV_inj e1
    unfold atR at hn
    rw [Option.map_eq_none_iff, List.find?_eq_none] at hn
    exact absurd (decide_eq_true (show p.1 = (a, b) by rw [g1, g2])) (hn p hp)
end Go.Proofs.YtoihekgmomjhpaaGreatDoor

/-
  Layer 9: a service, a wheel, and what else a call has, beside each other in memory: what each call leaves of the others.
-/
set_option linter.unusedVariables false
namespace Go.Proofs.YtoihekgmomjhpaaGreatDoor
open Go.RowKit Crn Nxt Ste
set_option maxRecDepth 100000
/-- It hangs on these blocks alone. -/
def Stab (L : List Nat) (P : World → Prop) : Prop := ∀ w w' : World, w.heap.size ≤ w'.heap.size → (∀ k, k ∈ L → w'.heap[k]? = w.heap[k]?) → P w → P w'
theorem Stab.and {L M : List Nat} {P Q : World → Prop} (h : Stab L P) (k : Stab M Q) : Stab (L ++ M) (fun w => P w ∧ Q w) := fun w w' hs hb hp =>
  ⟨h w w' hs (fun i hi => hb i (List.mem_append.2 (.inl hi))) hp.1, k w w' hs (fun i hi => hb i (List.mem_append.2 (.inr hi))) hp.2⟩
section
variable {w w' : World} {wb now : Nat} {l : List Whl.ItemN} {O : Nat → Prop} {base : Nat}
/-- Its blocks are there. -/
theorem WT_shrink (h : W.WT base w wb now l O) : W.WT base w wb now l (fun k => O k ∧ k < w.heap.size) := by
  obtain ⟨m, V, F, L, t, hS, tm, tok, o1, o2⟩ := h.ex
  refine ⟨⟨m, V, F, L, t, hS, tm, tok, fun k hk => ⟨o1 k hk, (hS.wh.own_low hk).2⟩, fun mb e => ⟨o2 mb e, ?_⟩⟩, h.bru, fun k hk => h.low k hk.1, h.pos, h.top⟩
  rcases tm with ⟨e2, _⟩ | ⟨mb2, e2, _, im⟩
  · rw [e] at e2; cases e2
  · rw [e] at e2
    injection e2 with e2
    injection e2 with e2
    subst e2
    exact im.lt
end
/-- A service in the state s at b, a wheel at wb that holds l, and what is said of the blocks L; nothing of w0 has turned. -/
structure Lw (w0 w : World) (b : Nat) (s : St) (c wb now : Nat) (l : List Whl.ItemN) (L : List Nat) (P : World → Prop) : Prop where
  ex : ∃ x O, SS w b s x c ∧ W.WT w0.heap.size w wb now l O ∧ (∀ k, k ∈ own x b → w0.heap.size ≤ k ∧ ¬ O k ∧ k ∉ L) ∧ ∀ k, O k → k < w.heap.size ∧ k ∉ L
  bel : Below w0.heap.size w0 w
  lt : ∀ k, k ∈ L → w0.heap.size ≤ k ∧ k < w.heap.size
  pos : 0 < w0.heap.size
  stab : Stab L P
  here : P w
section
variable {w0 w w' : World} {b c wb now : Nat} {s : St} {l : List Whl.ItemN} {L : List Nat} {P : World → Prop}
theorem Lw.ok (h : Lw w0 w b s c wb now l L P) : Ok s := by obtain ⟨x, O, h1, _⟩ := h.ex; exact h1.sv.ok
theorem Lw.gc (h : Lw w0 w b s c wb now l L P) : s.gens ≤ c := by obtain ⟨x, O, h1, _⟩ := h.ex; exact h1.sv.gc
theorem Lw.below (h : Lw w0 w b s c wb now l L P) (k : Below w.heap.size w w') : Lw w0 w' b s c wb now l L P := by
  obtain ⟨x, O, h1, h2, h3, h4⟩ := h.ex
  refine ⟨⟨x, O, h1.below k, h2.below k, h3, fun i hi => ⟨Nat.lt_of_lt_of_le (h4 i hi).1 k.size, (h4 i hi).2⟩⟩, h.bel.trans (k.mono h.bel.size), fun i hi => ⟨(h.lt i hi).1, Nat.lt_of_lt_of_le (h.lt i hi).2 k.size⟩, h.pos, h.stab, h.stab w w' k.size (fun i hi => k.block i (h.lt i hi).2) h.here⟩
theorem Lw.alloc (h : Lw w0 w b s c wb now l L P) (o : Obj) : Lw w0 (w.alloc o) b s c wb now l L P := h.below ((Below.refl _ _).alloc (Nat.le_refl _) _)
theorem Lw.drewN (h : Lw w0 w b s c wb now l L P) (n : Nat) : Lw w0 (w.drewN n) b s c wb now l L P := h.below (below_dN (Below.refl _ _) n)
/-- A call that turns blocks of the service alone. -/
theorem Lw.svc (h : Lw w0 w b s c wb now l L P) {x : Px} {s' : St} {x' : Px} {c' : Nat} {O : Nat → Prop} (h2 : W.WT w0.heap.size w wb now l O) (h3 : ∀ k, k ∈ own x b → w0.heap.size ≤ k ∧ ¬ O k ∧ k ∉ L) (h4 : ∀ k, O k → k < w.heap.size ∧ k ∉ L) (A : AftS w b x w' s' x' c') : Lw w0 w' b s' c' wb now l L P := by
  have hk : W.Kp (fun k => k ∈ own x b) w w' := ⟨A.kept.os, A.kept.tape, A.kept.output, A.kept.size, fun i hi hn => A.kept.block i hi hn⟩
  have hp := h.pos
  refine ⟨⟨x', O, A.ss, h2.kept hk (fun i hi => ⟨(h3 i hi).2.1, by have := (h3 i hi).1; omega⟩), fun i hi => ?_, fun i hi => ⟨Nat.lt_of_lt_of_le (h4 i hi).1 A.kept.size, (h4 i hi).2⟩⟩, hk.below (fun i hi => (h3 i hi).1) h.bel.size |> h.bel.trans, fun i hi => ⟨(h.lt i hi).1, Nat.lt_of_lt_of_le (h.lt i hi).2 A.kept.size⟩, hp, h.stab, h.stab w w' A.kept.size (fun i hi => A.kept.block i (h.lt i hi).2 (fun e => (h3 i e).2.2 hi)) h.here⟩
  rcases A.own i hi with g | g
  · exact h3 i g
  · exact ⟨Nat.le_trans h.bel.size g, fun e => by have := (h4 i e).1; omega, fun e => by have := (h.lt i e).2; omega⟩
theorem Lw.apply (h : Lw w0 w b s c wb now l L P) (tb : Tab w0) (nt : NTab w0) (hc : c ≤ 900000) (o : OpN) (ho : OpOk o) :
    Calls Tryz.prog 31 #[.pointer (some ⟨b, 0, none⟩), opV o] w fun e w' => e = .returned (rpV (applyN s o).2) ∧ Lw w0 w' b (applyN s o).1 (c + 1) wb now l L P := by
  obtain ⟨x, O, h1, h2, h3, h4⟩ := h.ex
  exact (apply_any h1 (tb.below h.bel) (nt.below h.bel) hc o ho).mono fun e w' ⟨he, x', A⟩ => ⟨he, h.svc h2 h3 h4 A⟩
theorem Lw.get (h : Lw w0 w b s c wb now l L P) (id : Int) (hid : i64 id) : Calls Tryz.prog 30 #[.pointer (some ⟨b, 0, none⟩), .int .i64 id] w fun e w' => e = .returned (.tuple #[tmV (valT s.T id), .int .i64 (getE s.T id)]) ∧ Below w.heap.size w w' := by
  obtain ⟨x, O, h1, _⟩ := h.ex
  exact get_any h1.sv id hid
/-- A call that turns blocks of the wheel alone. -/
theorem Lw.whl (h : Lw w0 w b s c wb now l L P) {x : Px} {O O' : Nat → Prop} {now' : Nat} {l' : List Whl.ItemN} (h1 : SS w b s x c) (h3 : ∀ k, k ∈ own x b → w0.heap.size ≤ k ∧ ¬ O k ∧ k ∉ L) (h4 : ∀ k, O k → k < w.heap.size ∧ k ∉ L) (h2 : W.WT w0.heap.size w wb now l O) (A : W.After w0.heap.size w O w' wb now' l' O') : Lw w0 w' b s c wb now' l' L P := by
  classical
  have hk : Kl ((List.range w.heap.size).filter fun k => decide (O k)) w w' := ⟨A.kp.os, A.kp.tape, A.kp.output, A.kp.size, fun i hi hn => A.kp.block i hi (fun e => hn (by
    rw [List.mem_filter]
    exact ⟨List.mem_range.2 hi, decide_eq_true e⟩))⟩
  have ho : ∀ i, i ∈ (List.range w.heap.size).filter (fun k => decide (O k)) → O i := fun i hi => by
    rw [List.mem_filter] at hi
    exact of_decide_eq_true hi.2
  refine ⟨⟨x, fun k => O' k ∧ k < w'.heap.size, h1.kept hk (fun i hi e => (h3 i e).2.1 (ho i hi)), WT_shrink A.wt, fun i hi => ⟨(h3 i hi).1, fun e => ?_, (h3 i hi).2.2⟩, fun i hi => ⟨hi.2, fun e => ?_⟩⟩, (A.kp.below (fun i hi => h2.low i hi) h.bel.size) |> h.bel.trans, fun i hi => ⟨(h.lt i hi).1, Nat.lt_of_lt_of_le (h.lt i hi).2 A.kp.size⟩, h.pos, h.stab, h.stab w w' A.kp.size (fun i hi => A.kp.block i (h.lt i hi).2 (fun e => (h4 i e).2 hi)) h.here⟩
  · rcases A.own i e.1 with g | g
    · exact (h3 i hi).2.1 g
    · have := (h1.sv.lt i hi).1
      omega
  · rcases A.own i hi.1 with g | g
    · exact (h4 i g).2 e
    · have := (h.lt i e).2
      omega
/-- A step that turns blocks of L alone. -/
theorem Lw.mine (h : Lw w0 w b s c wb now l L P) {M : List Nat} {Q : World → Prop} (k : Kl L w w') (hM : ∀ i, i ∈ M → (i ∈ L ∨ w.heap.size ≤ i) ∧ i < w'.heap.size) (st : Stab M Q) (q : Q w') : Lw w0 w' b s c wb now l M Q := by
  obtain ⟨x, O, h1, h2, h3, h4⟩ := h.ex
  have hk : W.Kp (fun i => i ∈ L) w w' := ⟨k.os, k.tape, k.output, k.size, fun i hi hn => k.block i hi hn⟩
  have hp := h.pos
  refine ⟨⟨x, O, h1.kept k (fun i hi e => (h3 i e).2.2 hi), h2.kept hk (fun i hi => ⟨fun e => (h4 i e).2 hi, by have := (h.lt i hi).1; omega⟩), fun i hi => ⟨(h3 i hi).1, (h3 i hi).2.1, fun e => ?_⟩, fun i hi => ⟨Nat.lt_of_lt_of_le (h4 i hi).1 k.size, fun e => ?_⟩⟩, (hk.below (fun i hi => (h.lt i hi).1) h.bel.size) |> h.bel.trans, fun i hi => ⟨?_, (hM i hi).2⟩, hp, st, q⟩
  · rcases (hM i e).1 with g | g
    · exact (h3 i hi).2.2 g
    · have := (h1.sv.lt i hi).1
      omega
  · rcases (hM i e).1 with g | g
    · exact (h4 i hi).2 g
    · have := (h4 i hi).1
      omega
  · rcases (hM i hi).1 with g | g
    · exact (h.lt i g).1
    · exact Nat.le_trans h.bel.size g
/-- The wheel's calls. -/
theorem Lw.setNew (h : Lw w0 w b s c wb now l L P) {id a : Nat} (hn : ∀ p, p ∈ l → p.2 ≠ id) (hid : id ≤ 1048576) (ha : a ≤ 1099511627776) (hl : l.length < 1000) :
    Calls Tryz.prog 52 #[.pointer (some ⟨wb, 0, none⟩), .int .i64 id, .int .i64 a] w fun e w' => e = .returned (.int .i64 0) ∧ Lw w0 w' b s c wb now (Whl.ins (a, id) l) L P := by
  obtain ⟨x, O, h1, h2, h3, h4⟩ := h.ex
  exact (W.set_new _ w wb now l O id a h2 hn hid ha hl).mono fun e w' ⟨he, O', A⟩ => ⟨he, h.whl h1 h3 h4 h2 A⟩
theorem Lw.setOld (h : Lw w0 w b s c wb now l L P) {a0 id a : Nat} (hp : (a0, id) ∈ l) (hid : id ≤ 1048576) (ha : a ≤ 1099511627776) (hl : l.length ≤ 1000) :
    Calls Tryz.prog 52 #[.pointer (some ⟨wb, 0, none⟩), .int .i64 id, .int .i64 a] w fun e w' => e = .returned (.int .i64 0) ∧ Lw w0 w' b s c wb now (Whl.ins (a, id) (l.filter (· != (a0, id)))) L P := by
  obtain ⟨x, O, h1, h2, h3, h4⟩ := h.ex
  exact (W.set_old _ w wb now l O a0 id a h2 hp hid ha hl).mono fun e w' ⟨he, O', A⟩ => ⟨he, h.whl h1 h3 h4 h2 A⟩
theorem Lw.remSome (h : Lw w0 w b s c wb now l L P) {a id : Nat} (hp : (a, id) ∈ l) :
    Calls Tryz.prog 53 #[.pointer (some ⟨wb, 0, none⟩), .int .i64 id] w fun e w' => e = .returned (.bool true) ∧ Lw w0 w' b s c wb now (l.filter (· != (a, id))) L P := by
  obtain ⟨x, O, h1, h2, h3, h4⟩ := h.ex
  exact (W.rem_some _ w wb now l O a id h2 hp).mono fun e w' ⟨he, O', A⟩ => ⟨he, h.whl h1 h3 h4 h2 A⟩
theorem Lw.remNone (h : Lw w0 w b s c wb now l L P) {id : Int} (hid : i64 id) (hn : ∀ p, p ∈ l → (p.2 : Int) ≠ id) :
    Calls Tryz.prog 53 #[.pointer (some ⟨wb, 0, none⟩), .int .i64 id] w fun e w' => e = .returned (.bool false) ∧ Lw w0 w' b s c wb now l L P := by
  obtain ⟨x, O, h1, h2, h3, h4⟩ := h.ex
  exact (W.rem_none _ w wb now l O id hid.1 hid.2 h2 hn).mono fun e w' ⟨he, hw⟩ => ⟨he, hw ▸ h⟩
theorem Lw.advance (h : Lw w0 w b s c wb now l L P) (n : Int) :
    Calls Tryz.prog 42 #[.pointer (some ⟨wb, 0, none⟩), .int .i64 n] w fun e w' => ∃ v, e = .returned v ∧ Lw w0 w' b s c wb (max now (min n 1099511627776).toNat) l L P := by
  obtain ⟨x, O, h1, h2, h3, h4⟩ := h.ex
  exact (W.advance_any _ w wb now l O n h2).mono fun e w' ⟨v, O', he, A, _, _⟩ => ⟨v, he, h.whl h1 h3 h4 h2 A⟩
theorem Lw.due (h : Lw w0 w b s c wb now l L P) (n : Int) :
    Calls Tryz.prog 43 #[.pointer (some ⟨wb, 0, none⟩), .int .i64 n] w fun e w' => ∃ v, e = .returned v ∧ W.Rw w.heap.size w' v ((W.dueBy l now).take n.toNat) ∧ Below w.heap.size w w' := by
  obtain ⟨x, O, h1, h2, h3, h4⟩ := h.ex
  exact W.due_any _ w wb now l O n h2
end
end Go.Proofs.YtoihekgmomjhpaaGreatDoor

/-
  Layer 9: keepRequest and Request: where the first of each request stands.
-/
set_option linter.unusedVariables false
namespace Go.Proofs.YtoihekgmomjhpaaGreatDoor
open Go.RowKit Go.MapKept Crn Nxt Ste
set_option maxRecDepth 100000
/-- A request that comes for the first time is written down. -/
def isReq (o : OpN) : Bool := decide (o.kind = 1) || decide (o.kind = 2)
def addR (rt : List ((Int × Int) × Nat)) (o : OpN) (n : Nat) : List ((Int × Int) × Nat) :=
  if isReq o = true ∧ atR rt o.client o.req = none then rt ++ [((o.client, o.req), n)] else rt
structure ROk (rt : List ((Int × Int) × Nat)) : Prop where
  inn : RIn rt
  keys : rt.Pairwise fun p q => p.1 ≠ q.1
theorem atR_none {rt : List ((Int × Int) × Nat)} {a b : Int} : atR rt a b = none ↔ ∀ p ∈ rt, p.1 ≠ (a, b) := by
  unfold atR
  rw [Option.map_eq_none_iff, List.find?_eq_none]
  simp
theorem ROk.add {rt : List ((Int × Int) × Nat)} (h : ROk rt) {o : OpN} (n : Nat) (h1 : I64 o.client) (h2 : I64 o.req) : ROk (addR rt o n) := by
  unfold addR
  split
  · rename_i hc
    refine ⟨fun p hp => ?_, ?_⟩
    · rcases List.mem_append.1 hp with g | g
      · exact h.inn p g
      · simp only [List.mem_singleton] at g; subst g; exact ⟨h1, h2⟩
    · refine List.pairwise_append.2 ⟨h.keys, List.pairwise_singleton _ _, fun p hp q hq => ?_⟩
      simp only [List.mem_singleton] at hq; subst hq
      exact atR_none.1 hc.2 p hp
  · exact h
set_option maxHeartbeats 2000000 in
theorem keepReq_any (lb rq n oc : Nat) (op : Option Addr) (o : OpN) (rt : List ((Int × Int) × Nat)) (w : World) (c2 : w.cell? ⟨lb, 2, none⟩ = some (.slice op n oc)) (c4 : w.cell? ⟨lb, 4, none⟩ = some (.map (some rq))) (hm : RMap w rq rt) (hr : ROk rt)
    (hlb : lb < w.heap.size) (hn : n ≤ 100000) (h1 : I64 o.client) (h2 : I64 o.req) (hne : lb ≠ rq) :
    Calls Tryz.prog 32 #[.pointer (some ⟨lb, 0, none⟩), opV o] w fun e w' => e = .returned (.tuple #[]) ∧ RMap w' rq (addR rt o n) ∧ Kl [rq] w w' := by
  have hrq := hm.lt
  have B1 : Below w.heap.size w (w.alloc (.cells (opC o) 31)) := (Below.refl _ _).alloc (Nat.le_refl _) _
  by_cases hk : isReq o = true
  · have hk1 : (o.kind != 1) = false ∨ (o.kind != 1) = true ∧ (o.kind != 2) = false := by
      unfold isReq at hk
      by_cases e : o.kind = 1
      · exact .inl (by simp [e])
      · exact .inr ⟨by simp [e], by simp [e] at hk; simp [hk]⟩
    have hL : Hid (∀ W, Below w.heap.size w W → W.cell? ⟨lb, 4, none⟩ = some (.map (some rq)) ∧ W.cell? ⟨lb, 2, none⟩ = some (.slice op n oc) ∧ (Instr.lookup rm (.map (some rq)) (rV o.client o.req) true).run Tryz.prog W = .ok (.tuple #[.int .i64 (((atR rt o.client o.req).getD 0 : Nat) : Int), .bool (atR rt o.client o.req).isSome]) W) := fun W k =>
      ⟨(World.cell?_of_block (w := w) (k.block lb hlb)).trans c4, (World.cell?_of_block (w := w) (k.block lb hlb)).trans c2, rlook (hm.kept (k.block rq hrq)) hr.inn hr.keys h1 h2⟩
    have hU : Hid (atR rt o.client o.req = none → ∀ W, Below w.heap.size w W → ∃ w', (Instr.mapUpdate rm (.map (some rq)) (rV o.client o.req) (.int .i64 (n : Int))).run Tryz.prog W = .ok () w' ∧ RMap w' rq (addR rt o n) ∧ W.grownBy w' (some rq)) := fun e W k => by
      obtain ⟨w', g1, g2, g3, _⟩ := rinsert (hm.kept (k.block rq hrq)) hr.inn h1 h2 n e
      exact ⟨w', g1, by unfold addR; rw [if_pos ⟨hk, e⟩]; exact g2, g3⟩
    have hN : Hid (atR rt o.client o.req ≠ none → addR rt o n = rt) := fun e => by unfold addR; rw [if_neg (fun g => e g.2)]
    have hK : Hid (∀ W, Below w.heap.size w W → RMap W rq rt ∧ Kl [rq] w W) := fun W k => ⟨hm.kept (k.block rq hrq), Kl.ofBelow k⟩
    obtain ⟨okind, oclient, oreq, oid, ogen, oocc, odue, ostamp, oepoch, ocron⟩ := o
    simp only at *
    have hb : Hid (Below w.heap.size w (w.alloc (.cells #[.int .i64 okind, .int .i64 oclient, .int .i64 oreq, .int .i64 oid, .int .i64 ogen, .int .i64 oocc, .int .i64 odue, .int .i64 ostamp, .int .i64 oepoch, .string ocron] 31))) := B1
    clear c2 c4 hm hr h1 h2 hk B1
    have hq : Hid (w.heap.size ≠ w.heap.size + 1) := by show _ ≠ _; omega
    go_enter Tryz.func32, Tryz.ntmps32
    rcases hk1 with hk1 | ⟨hk1, hk2⟩
    all_goals
      go_upto_region 3 with fail
      have hb2 := Lib.hid (hb.out.alloc hb.out.size (.cells #[.int .i64 oclient, .int .i64 oreq] rk))
      have hn1 : Hid (((w.alloc (.cells #[.int .i64 okind, .int .i64 oclient, .int .i64 oreq, .int .i64 oid, .int .i64 ogen, .int .i64 oocc, .int .i64 odue, .int .i64 ostamp, .int .i64 oepoch, .string ocron] 31)).alloc (.cells #[.int .i64 oclient, .int .i64 oreq] rk)).heap[w.heap.size + 1]? = some (.cells #[.int .i64 oclient, .int .i64 oreq] rk)) := by
        have := Go.heap_alloc_new (w.alloc (.cells #[.int .i64 okind, .int .i64 oclient, .int .i64 oreq, .int .i64 oid, .int .i64 ogen, .int .i64 oocc, .int .i64 odue, .int .i64 ostamp, .int .i64 oepoch, .string ocron] 31)) (.cells #[.int .i64 oclient, .int .i64 oreq] rk)
        rw [show (w.alloc (.cells #[.int .i64 okind, .int .i64 oclient, .int .i64 oreq, .int .i64 oid, .int .i64 ogen, .int .i64 oocc, .int .i64 odue, .int .i64 ostamp, .int .i64 oepoch, .string ocron] 31)).heap.size = w.heap.size + 1 by simp] at this
        exact this
      generalize (w.alloc (.cells #[.int .i64 okind, .int .i64 oclient, .int .i64 oreq, .int .i64 oid, .int .i64 ogen, .int .i64 oocc, .int .i64 odue, .int .i64 ostamp, .int .i64 oepoch, .string ocron] 31)).alloc (.cells #[.int .i64 oclient, .int .i64 oreq] rk) = w2 at *
      obtain ⟨q4, q2, lk⟩ := hL.out w2.drew hb2.out.drew
      have n0 : w2.drew.cell? ⟨w.heap.size + 1, 0, none⟩ = some (.int .i64 oclient) := cell_in hn1.out 0
      have n1 : w2.drew.cell? ⟨w.heap.size + 1, 1, none⟩ = some (.int .i64 oreq) := cell_in hn1.out 1
      cases ha : atR rt oclient oreq with
      | some j =>
        rw [ha] at lk hN
        have hN2 := Lib.hid (hN.out (by simp))
        clear hN hU ha
        simp only [Option.getD_some, Option.isSome_some] at lk
        go_region_held3 (fun w' => w'.cell? ⟨lb, 4, none⟩ = some (.map (some rq)) ∧ w'.cell? ⟨w.heap.size + 1, 0, none⟩ = some (.int .i64 oclient) ∧ w'.cell? ⟨w.heap.size + 1, 1, none⟩ = some (.int .i64 oreq) ∧ (Instr.lookup rm (.map (some rq)) (rV oclient oreq) true).run Tryz.prog w' = .ok (.tuple #[.int .i64 ((j : Nat) : Int), .bool true]) w')
          (exact ⟨q4, n0, n1, lk⟩) (fail)
        all_goals
          clear q4 q2 n0 n1 lk
          have hKn := Lib.hid (hK.out w2.drew hb2.out.drew)
          go_wp2_with fail
          go_end0
          exact ⟨rfl, hN2.out.symm ▸ hKn.out.1, hKn.out.2⟩
      | none =>
        rw [ha] at lk
        have hU2 := Lib.hid (hU.out ha)
        clear hN hU ha
        simp only [Option.getD_none, Option.isSome_none] at lk
        go_region_held3 (fun w' => w'.cell? ⟨lb, 4, none⟩ = some (.map (some rq)) ∧ w'.cell? ⟨w.heap.size + 1, 0, none⟩ = some (.int .i64 oclient) ∧ w'.cell? ⟨w.heap.size + 1, 1, none⟩ = some (.int .i64 oreq) ∧ (Instr.lookup rm (.map (some rq)) (rV oclient oreq) true).run Tryz.prog w' = .ok (.tuple #[.int .i64 0, .bool false]) w')
          (exact ⟨q4, n0, n1, lk⟩) (fail)
        all_goals
          clear q4 q2 n0 n1 lk
          go_upto_region 5 with fail
          have hb3 := Lib.hid (hb2.out.drew)
          have hn3 : Hid (w2.drew.heap[w.heap.size + 1]? = some (.cells #[.int .i64 oclient, .int .i64 oreq] rk)) := hn1.out
          generalize w2.drew = w3 at *
          obtain ⟨q4, q2, -⟩ := hL.out w3.drew hb3.out.drew
          have n0 : w3.drew.cell? ⟨w.heap.size + 1, 0, none⟩ = some (.int .i64 oclient) := cell_in hn3.out 0
          have n1 : w3.drew.cell? ⟨w.heap.size + 1, 1, none⟩ = some (.int .i64 oreq) := cell_in hn3.out 1
          obtain ⟨w4, hrun, hm4, hg4⟩ := hU2.out w3.drew hb3.out.drew
          have hrq1 : w.heap.size + 1 ≠ rq := by omega
          have r4 : w4.cell? ⟨lb, 4, none⟩ = some (.map (some rq)) := (World.cell?_of_block (w := w3.drew) (hg4.block lb (Nat.lt_of_lt_of_le hlb hb3.out.size) (by simpa using hne))).trans q4
          have r2 : w4.cell? ⟨lb, 2, none⟩ = some (.slice op n oc) := (World.cell?_of_block (w := w3.drew) (hg4.block lb (Nat.lt_of_lt_of_le hlb hb3.out.size) (by simpa using hne))).trans q2
          have r0 : w4.cell? ⟨w.heap.size + 1, 0, none⟩ = some (.int .i64 oclient) := (World.cell?_of_block (w := w3.drew) (hg4.block _ (lt_in hn3.out) (by simpa using hrq1))).trans n0
          have r1 : w4.cell? ⟨w.heap.size + 1, 1, none⟩ = some (.int .i64 oreq) := (World.cell?_of_block (w := w3.drew) (hg4.block _ (lt_in hn3.out) (by simpa using hrq1))).trans n1
          have hk4 : Hid (Kl [rq] w w4) := ⟨hg4.os.trans hb3.out.os, hg4.tape.trans hb3.out.tape, hg4.output.trans hb3.out.output, Nat.le_trans hb3.out.size hg4.size, fun i hi h => (hg4.block i (Nat.lt_of_lt_of_le hi hb3.out.size) (by simpa using h)).trans (hb3.out.block i hi)⟩
          replace hm4 := Lib.hid hm4
          clear hg4 hrq1 hU2 hL hb2 hn1
          go_region_held3 (fun w' => w'.cell? ⟨lb, 4, none⟩ = some (.map (some rq)) ∧ w'.cell? ⟨lb, 2, none⟩ = some (.slice op n oc) ∧ w'.cell? ⟨w.heap.size + 1, 0, none⟩ = some (.int .i64 oclient) ∧ w'.cell? ⟨w.heap.size + 1, 1, none⟩ = some (.int .i64 oreq))
            (first | exact ⟨q4, q2, n0, n1⟩ | exact ⟨r4, r2, r0, r1⟩) (fail)
          all_goals
            clear q4 q2 n0 n1 r4 r2 r0 r1 hrun
            go_wp2_with fail
            go_end0
            exact ⟨rfl, hm4.out, hk4.out⟩
  · have hA : Hid (addR rt o n = rt) := by show _ = _; unfold addR; rw [if_neg (fun g => hk g.1)]
    have hk1 : (o.kind != 1) = true := by
      unfold isReq at hk; simp at hk; simp [hk.1]
    have hk2 : (o.kind != 2) = true := by
      unfold isReq at hk; simp at hk; simp [hk.2]
    have hK : Hid (RMap (w.alloc (.cells (opC o) 31)) rq rt) := hm.kept (B1.block rq hrq)
    clear hk c2 c4 hm hr h1 h2
    obtain ⟨okind, oclient, oreq, oid, ogen, oocc, odue, ostamp, oepoch, ocron⟩ := o
    simp only at *
    go_enter Tryz.func32, Tryz.ntmps32
    go_wp2_with fail
    refine bodyPost_ret (results_none rfl _ _ _) rfl ?_
    exact ⟨rfl, hA.out.symm ▸ hK.out, Kl.ofBelow B1⟩
end Go.Proofs.YtoihekgmomjhpaaGreatDoor

/-
  Layer 9: one more at the end of a row of structs; keepFire.
-/
set_option linter.unusedVariables false
namespace Go.Proofs.YtoihekgmomjhpaaGreatDoor
open Go.RowKit Go.MapKept Crn Nxt Ste
set_option maxRecDepth 100000
/-- A row of structs as cells. -/
def flatS {α : Type} (f : α → Array Value) (l : List α) : List Value := l.flatMap fun x => (f x).toList
theorem flatS_snoc {α : Type} (f : α → Array Value) (l : List α) (x : α) : flatS f l ++ (f x).toList = flatS f (l ++ [x]) := by unfold flatS; simp
theorem flatS_at {α : Type} {f : α → Array Value} {k : Nat} (hk : ∀ x, (f x).size = k) (l : List α) (i : Nat) (hi : i < l.length) (j : Nat) (hj : j < k) : (flatS f l)[i * k + j]? = (f l[i])[j]? := by
  induction l generalizing i with
  | nil => simp at hi
  | cons x l ih =>
    show ((f x).toList ++ flatS f l)[i * k + j]? = _
    match i, hi with
    | 0, _ =>
      rw [Nat.zero_mul, Nat.zero_add, List.getElem?_append_left (by rw [Array.length_toList, hk]; exact hj)]
      simp
    | i + 1, hi =>
      rw [List.getElem?_append_right (by rw [Array.length_toList, hk, Nat.add_mul]; omega)]
      have := ih i (by simpa using hi)
      rw [show (i + 1) * k + j - (f x).toList.length = i * k + j by rw [Array.length_toList, hk, Nat.add_mul]; omega, this]
      simp
/-- The row's place, as it is written down. -/
abbrev SRow {α : Type} (f : α → Array Value) (T k base : Nat) (w : World) (p : Option Addr) (cap : Nat) (l : List α) : Prop := w.ownsRow base T k (.slice p l.length cap) l.length (flatS f l)
theorem SRow.kept {α : Type} {f : α → Array Value} {T k base : Nat} {w w' : World} {p : Option Addr} {cap : Nat} {l : List α} (h : SRow f T k base w p cap l) (hk : ∀ g, g ∈ rowOf p → w'.heap[g]? = w.heap[g]?) : SRow f T k base w' p cap l :=
  row_same h fun g hg => hk g (own_row.1 hg)
theorem SRow.lt {α : Type} {f : α → Array Value} {T k base : Nat} {w : World} {p : Option Addr} {cap : Nat} {l : List α} (h : SRow f T k base w p cap l) : ∀ g, g ∈ rowOf p → base ≤ g ∧ g < w.heap.size := fun g hg => World.ownsRow.lt h g (own_row.2 hg)
theorem SRow.type {α : Type} {f : α → Array Value} {T k base : Nat} {w : World} {p : Option Addr} {cap : Nat} {l : List α} (h : SRow f T k base w p cap l) : ∀ g, g ∈ rowOf p → ∃ cur, w.heap[g]? = some (.cells cur T (0, 0)) := fun g hg => row_at h (own_row.2 hg)
theorem SRow.at {α : Type} {f : α → Array Value} {T k base : Nat} {w : World} {p : Option Addr} {cap : Nat} {l : List α} (h : SRow f T k base w p cap l) (hk : ∀ x, (f x).size = k) (i : Nat) (hi : i < l.length) :
    ∃ g, p = some ⟨g, 0, none⟩ ∧ ∀ j v, (f l[i])[j]? = some v → w.cell? ⟨g, i * k + j, none⟩ = some v := by
  rcases h.2 with ⟨h1, h2⟩ | ⟨g, c, cur, h1, h2⟩
  · omega
  · injection h1 with h1 _ _
    refine ⟨g, h1, fun j v hj => ?_⟩
    have hj' : j < k := by
      rcases Nat.lt_or_ge j k with e | e
      · exact e
      · rw [Array.getElem?_eq_none (by rw [hk]; exact e)] at hj; cases hj
    have := World.ownsRow.cells h (g := g) (by rw [h1]; rfl) (i * k + j) v ((flatS_at hk l i hi j hj').trans hj)
    rw [Addr.add_lit, Nat.zero_add] at this
    exact this
/-- One more. -/
theorem push_run {α : Type} {f : α → Array Value} {ST T k bytes base : Nat} {z : Value} (hT : Tryz.prog.underlying ST = some (.slice T)) (hinfo : (Tryz.prog.info? T).map (fun i => (i.zero, i.size, i.bytes)) = some (some z, k, bytes)) (hz : z.cells.size = k) (hk0 : 0 < k) (hb : bytes ≤ 1000) (hk : ∀ x, (f x).size = k)
    (h1 : ∀ x, ∀ u ∈ (f x).toList, u.oneCell' = true) {W : World} {p : Option Addr} {cap : Nat} {l : List α} (h : SRow f T k base W p cap l) (hl : l.length ≤ 100000) (hbase : base ≤ W.heap.size) (x : α) {vb : Nat} (hvb : W.heap[vb]? = some (.cells (f x) T)) :
    ∃ p' cap' w', (Builtin.append_ #[ST, ST] ST #[.slice p l.length cap, .slice (some ⟨vb, 0, none⟩) 1 1]).run Tryz.prog W = .ok (.slice p' (l.length + 1) cap') w' ∧ SRow f T k base w' p' cap' (l ++ [x]) ∧ (∀ i, i < W.heap.size → i ∉ rowOf p → w'.heap[i]? = W.heap[i]?) ∧ W.heap.size ≤ w'.heap.size ∧ (w'.os = W.os ∧ w'.tape = W.tape ∧ w'.output = W.output) ∧ ∀ g, g ∈ rowOf p' → (g ∈ rowOf p ∨ g = W.heap.size) := by
  obtain ⟨i0, hi0, hz0, hzs, hzb⟩ := info_parts hinfo
  have hnews : ∀ j u, (f x).toList[j]? = some u → W.cell? ((⟨vb, 0, none⟩ : Addr).add j) = some u := fun j u hu => by
    rw [Addr.add_lit, Nat.zero_add]
    have e := cell_in hvb j
    rw [e]
    rw [Array.getElem?_toList] at hu
    exact hu
  obtain ⟨v', w', g1, g2, g3, -, g5⟩ := run_append_own_at W base ST ST T i0 _ k bytes hT hi0 hz0 hzs hzb hz hk0 (.slice p l.length cap) l.length (flatS f l) h ⟨vb, 0, none⟩ 1 1 (f x).toList (by rw [Array.length_toList, hk]; omega) hnews (h1 x) (by unfold maxLen; omega) (by
    have : (l.length + 1) * bytes ≤ 100001 * 1000 := Nat.mul_le_mul (by omega) hb
    omega) hbase
  obtain ⟨p', cap', rfl⟩ : ∃ p' cap', v' = .slice p' (l.length + 1) cap' := by
    rcases g2.2 with ⟨rfl, e⟩ | ⟨g, c, cur, rfl, _⟩
    · exact absurd e (by omega)
    · exact ⟨_, c, rfl⟩
  refine ⟨p', cap', w', g1, ?_, fun i hi hn => g3.block i hi (fun e => hn (own_row.1 e.symm)), g3.size, ⟨g3.os, g3.tape, g3.output⟩, fun g hg => ?_⟩
  · show World.ownsRow _ _ _ _ _ _ _
    rw [List.length_append, ← flatS_snoc]
    exact g2
  · have h6 := own_row (n := l.length + 1) (cap := cap').2 hg
    rcases g5 with e | e
    · rw [e] at h6; exact .inl (own_row.1 h6)
    · rw [e] at h6; injection h6 with h6; exact .inr h6.symm
end Go.Proofs.YtoihekgmomjhpaaGreatDoor
