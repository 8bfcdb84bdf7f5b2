/-
  Texts laid into one (a claim has 60 files at most): SCollect, SList, SInts, SRun, SLaw, SOpen, SMore, SAwake.
-/
import Derived.Test.YtoihekgmomjhpaaGreatDoorKT1
import Derived.Test.YtoihekgmomjhpaaGreatDoorKS5
import Derived.BigQuiet
import Derived.Test.YtoihekgmomjhpaaGreatDoorKS1
import Derived.ChangeSlices
import Derived.Deep.RegionHeld3
import Derived.Deep.DeepCutAuto
/-
  Layer 8: slices.Collect over the map's values, the sort behind it, and List.
-/
set_option linter.unusedVariables false
namespace Go.Proofs.YtoihekgmomjhpaaGreatDoor
open Go.RowKit Ste Go.MapKept Go.ChangeMaps
set_option maxRecDepth 100000
theorem infoTm : (Tryz.prog.info? 55).map (fun i => (i.zero, i.size, i.bytes)) = some (some (.agg #[.int .i64 0, .int .i64 0, .int .i64 0, .int .i64 0, .string ⟨#[]⟩]), 5, 48) := by kernel_rfl
def apAssign : Code := (Code.region 2 #[{ dst := some 5, op := Op.alloc 55, type := 0, pos := "iter.go:51", after := #[], guard := none }, { dst := none, op := Op.store 55 (Operand.tmp 5) (Operand.tmp 7), type := 0, pos := "iter.go:51", after := #[{ on := 0, ground := Ground.data }, { on := 0, ground := Ground.phase }], guard := none }] false)
def apBody : Code := (Code.block 1 (Code.region 3 #[{ dst := some 8, op := Op.load 43 (Operand.tmp 2), type := 43, pos := "iter.go:52", after := #[], guard := none }, { dst := some 9, op := Op.load 55 (Operand.tmp 5), type := 55, pos := "iter.go:52", after := #[], guard := none }, { dst := some 10, op := Op.buildSlice 43 1 #[(0, Operand.tmp 9)], type := 43, pos := "iter.go:52", after := #[{ on := 1, ground := Ground.data }], guard := none }, { dst := some 11, op := Op.call { callee := Callee.builtin Builtin.append, args := #[Operand.tmp 8, Operand.tmp 10], argTypes := #[43, 43] }, type := 43, pos := "iter.go:52", after := #[{ on := 0, ground := Ground.data }, { on := 2, ground := Ground.data }], guard := none }, { dst := none, op := Op.store 43 (Operand.tmp 2) (Operand.tmp 11), type := 0, pos := "iter.go:52", after := #[{ on := 3, ground := Ground.data }, { on := 3, ground := Ground.chain }, { on := 0, ground := Ground.phase }, { on := 1, ground := Ground.phase }, { on := 2, ground := Ground.phase }, { on := 3, ground := Ground.phase }], guard := none }] false))
/-- The loop's record: AppendSeq's temporaries as they stood at the entering. -/
def apRec (fn : FuncId) (sv : Value) (Bs D : Nat) (st : LoopState) (pend : Option Code) : Loop :=
  { state := st, pending := pend, fn, tmps := #[.slice none 0 0, sv, .pointer (some ⟨Bs, 0, none⟩), undef, .slice none 0 0, undef, sv, undef, undef, undef, undef, undef, undef], params := #[7], assign := apAssign, body := apBody, defers := D }
structure ApAt (w0 : World) (fn : FuncId) (sv : Value) (Bs l D : Nat) (ss : List Tm) (W : World) : Prop where
  box : ∃ v, W.heap[Bs]? = some (.cells #[v] 43 (0, 0)) ∧ Tms w0.heap.size W v ss
  L : W.heap[l]? = some (.loop (apRec fn sv Bs D .ready none))
  K : W.heap[D]? = some (.deferred (some []))
  below : Below w0.heap.size w0 W
theorem ap_abides (w0 : World) (fn : FuncId) (sv : Value) (Bs l D B : Nat) (hB : w0.heap.size ≤ B) : AbidesFrom B (ApAt w0 fn sv Bs l D) := fun s W W' row h hg hrow => by
  have hrow' : ∀ r, row = some r → ∃ o : Obj, W.heap[r]? = some o ∧ o.isWalk = true := fun r e => (hrow r e).2
  obtain ⟨v, hv, hr⟩ := h.box
  exact ⟨⟨v, (grownBy_keeps hg hrow' hv rfl).trans hv, ownsRow_abides_a hr hg hrow'⟩, (grownBy_keeps hg hrow' h.L rfl).trans h.L, (grownBy_keeps hg hrow' h.K rfl).trans h.K,
    h.below.grown hg h.below.size (fun k e => Nat.le_trans hB (hrow k e).1)⟩
theorem cells_new (W : World) (x : Tm) : ∀ j u, (encT x)[j]? = some u → (W.alloc (.cells #[.int .i64 x.id, .int .i64 x.client, .int .i64 x.gen, .int .i64 x.due, .string x.cron] 55)).cell? ((⟨W.heap.size, 0, none⟩ : Addr).add j) = some u := by
  intro j u hu
  rw [Addr.add_lit]
  have e := cell_in (Go.heap_alloc_new W (.cells #[.int .i64 x.id, .int .i64 x.client, .int .i64 x.gen, .int .i64 x.due, .string x.cron] 55)) (0 + j)
  rw [e, Nat.zero_add, ← hu]
  match j with
  | 0 => rfl
  | 1 => rfl
  | 2 => rfl
  | 3 => rfl
  | 4 => rfl
  | j + 5 => simp [encT]
set_option maxHeartbeats 4000000 in
theorem apYield (F : Fence) (m : Nat) (w0 : World) (fn : FuncId) (hfn : F.fn fn) (sv : Value) (Bs l D : Nat) (hBl : Bs ≠ l) (hDl : D ≠ l) (hDB : D ≠ Bs) (h0B : w0.heap.size ≤ Bs) (h0l : w0.heap.size ≤ l)
    (N : Nat) (hN : N ≤ 1000) (ss : List Tm) (x : Tm) (W : World) (h : ApAt w0 fn sv Bs l D ss W) (hlen : ss.length < N) :
    YieldAt F m Tryz.prog l #[tmV x] W fun e W' => e = .returned (.bool true) ∧ ApAt w0 fn sv Bs l D (ss ++ [x]) W' ∧ KeepsWalks W W' := by
  obtain ⟨i0, hi, hz0, hz1, hz2⟩ := info_parts infoTm
  obtain ⟨v, hv, hrow⟩ := h.box
  refine ⟨fn, #[.slice none 0 0, sv, .pointer (some ⟨Bs, 0, none⟩), undef, .slice none 0 0, undef, sv, tmV x, undef, undef, undef, undef, undef], apAssign, apBody, by simpa [apRec] using run_yield (P := Tryz.prog) (args := #[tmV x]) h.L rfl, roundIn_of_wpIn hfn ?_⟩
  have hl : l < W.heap.size := (Array.getElem?_eq_some_iff.1 h.L).1
  obtain ⟨xid, xclient, xgen, xdue, xcron⟩ := x
  simp only [tmV] at *
  obtain ⟨W1, hW1⟩ : ∃ W1, W.alloc (.cells #[.int .i64 xid, .int .i64 xclient, .int .i64 xgen, .int .i64 xdue, .string xcron] 55) = W1 := ⟨_, rfl⟩
  have hold1 : ∀ k, k < W.heap.size → W1.heap[k]? = W.heap[k]? := fun k hk => by rw [← hW1]; exact Below.heap_alloc _ _ k hk
  have hL1 : W1.heap[l]? = some (.loop (apRec fn sv Bs D .ready none)) := (hold1 l hl).trans h.L
  have hT1 : W1.heap[W.heap.size]? = some (.cells #[.int .i64 xid, .int .i64 xclient, .int .i64 xgen, .int .i64 xdue, .string xcron] 55 (0, 0)) := by rw [← hW1]; exact Go.heap_alloc_new W _
  have hg1 : W.grownBy W1 none := by rw [← hW1]; exact World.grownBy_alloc W _ none
  have hk1 : KeepsWalks W W1 := by rw [← hW1]; exact KeepsWalks.alloc W _
  have hbr := run_beginRound (P := Tryz.prog) hL1 rfl
  obtain ⟨W2, hW2⟩ : ∃ W2, W1.putObj l (.loop { apRec fn sv Bs D .ready none with state := .busy }) = W2 := ⟨_, rfl⟩
  rw [hW2] at hbr
  have hBlt0 : Bs < W.heap.size := (Array.getElem?_eq_some_iff.1 hv).1
  have hDlt0 : D < W.heap.size := (Array.getElem?_eq_some_iff.1 h.K).1
  have hg2 : W1.grownBy W2 (some l) := by rw [← hW2]; exact grownBy_putObj_a _ _ _
  have hk2 : KeepsWalks W W2 := hk1.trans (by rw [← hW2]; exact KeepsWalks.putObj _ hL1 rfl)
  have hv2 : W2.heap[Bs]? = some (.cells #[v] 43 (0, 0)) := by rw [← hW2]; exact (World.putObj_heap_other hBl).trans ((hold1 _ hBlt0).trans hv)
  have hK2 : W2.heap[D]? = some (.deferred (some [])) := by rw [← hW2]; exact (World.putObj_heap_other hDl).trans ((hold1 _ hDlt0).trans h.K)
  have hL2 : W2.heap[l]? = some (.loop { apRec fn sv Bs D .ready none with state := .busy }) := by rw [← hW2]; exact World.putObj_heap_same (Array.getElem?_eq_some_iff.1 hL1).1
  have hT2 : W2.heap[W.heap.size]? = some (.cells #[.int .i64 xid, .int .i64 xclient, .int .i64 xgen, .int .i64 xdue, .string xcron] 55 (0, 0)) := by rw [← hW2]; exact (World.putObj_heap_other (by omega)).trans hT1
  have hrow1 : W1.ownsRow w0.heap.size 55 5 v ss.length (flatT ss) := by rw [← hW1]; exact World.ownsRow.alloc hrow _
  have hrow2 : W2.ownsRow w0.heap.size 55 5 v ss.length (flatT ss) := World.ownsRow.kept hrow1 hg2 (ownsRow_ne_a hrow1 hL1 (fun cur e => by cases e))
  have hb2 : Below w0.heap.size w0 W2 := (h.below.grown hg1 h.below.size (fun k e => by cases e)).grown hg2 (Nat.le_trans h.below.size hg1.size) (fun k e => by cases e; exact h0l)
  obtain ⟨hc2, hf2⟩ := cell_of_box_a hv2
  have hBlt : Bs < W2.heap.size := (Array.getElem?_eq_some_iff.1 hv2).1
  have hl2 : l < W2.heap.size := (Array.getElem?_eq_some_iff.1 hL2).1
  have hDlt : D < W2.heap.size := (Array.getElem?_eq_some_iff.1 hK2).1
  have ne_of : ∀ {j : Nat} {o : Obj}, W2.heap[j]? = some o → (∀ cur, o ≠ .cells cur 55 (0, 0)) → some j ≠ v.ownBlock := fun hj hno => by
    rcases ownsRow_ne_a hrow2 hj hno with e | e
    · rw [e]; simp
    · exact fun e' => e e'.symm
  clear hW2
  unfold apAssign
  gi_wp2_with gi_round_op_a
  have hc50 := cell_in hT2 0
  have hc51 := cell_in hT2 1
  have hc52 := cell_in hT2 2
  have hc53 := cell_in hT2 3
  have hc54 := cell_in hT2 4
  simp only [List.getElem?_toArray, List.getElem?_cons_zero, List.getElem?_cons_succ] at hc50 hc51 hc52 hc53 hc54
  generalize W.heap.size = g5 at *
  unfold apBody
  gi_wp2_with (first
    | (gi_at_builtin; refine wpListIn_append_own _ rfl _ _ 43 rfl w0.heap.size 55 i0 _ 5 48 Tryz.underlying43 hi hz0 hz1 hz2 rfl (by decide) _ _ _ rfl (hrow2.alloc _) ⟨W2.heap.size, 0, none⟩ 1 1 (encT ⟨xid, xclient, xgen, xdue, xcron⟩) rfl rfl (cells_new W2 ⟨xid, xclient, xgen, xdue, xcron⟩) (by intro u hu; simp [encT] at hu; rcases hu with rfl | rfl | rfl | rfl | rfl <;> rfl) (by unfold maxLen; omega) (by omega) (by have := hb2.size; simp; omega) ?_; intro v' w3 hown' hg3 hnil3
       have hv3 : w3.heap[Bs]? = some (.cells #[v] 43 (0, 0)) := (hg3.block Bs (by simp; omega) (ne_of hv2 (fun cur e => by injection e with _ e2 _; cases e2))).trans ((Below.heap_alloc _ _ Bs hBlt).trans hv2)
       obtain ⟨hc3, hf3⟩ := cell_of_box_a hv3
       obtain ⟨g', cap', rfl⟩ : ∃ g' cap', v' = .slice (some ⟨g', 0, none⟩) (ss.length + 1) cap' := by
         rcases hown'.2 with ⟨_, h0⟩ | ⟨g', cap', _, e, _⟩
         · exact absurd h0 (by omega)
         · exact ⟨g', cap', e⟩
       go_frame)
    | gi_round_op_a)
  have hg3' : (W2.alloc (.cells #[.int .i64 xid, .int .i64 xclient, .int .i64 xgen, .int .i64 xdue, .string xcron] 55)).grownBy w3 v.ownBlock := hg3
  have hL3 : w3.heap[l]? = some (.loop { apRec fn sv Bs D .ready none with state := .busy }) := (hg3'.block l (by simp; omega) (ne_of hL2 (fun cur e => by cases e))).trans ((Below.heap_alloc _ _ l hl2).trans hL2)
  have hK3 : w3.heap[D]? = some (.deferred (some [])) := (hg3'.block D (by simp; omega) (ne_of hK2 (fun cur e => by cases e))).trans ((Below.heap_alloc _ _ D hDlt).trans hK2)
  obtain ⟨w4, hw4⟩ : ∃ w4, w3.setCell ⟨Bs, 0, none⟩ (.slice (some ⟨g', 0, none⟩) (ss.length + 1) cap') = w4 := ⟨_, rfl⟩
  rw [hw4]
  have hg4 : w3.grownBy w4 (some Bs) := by rw [← hw4]; exact grownBy_setCell0_a _ _ _
  have hv4 : w4.heap[Bs]? = some (.cells #[.slice (some ⟨g', 0, none⟩) (ss.length + 1) cap'] 43 (0, 0)) := by rw [← hw4]; exact heap_setCell_box_a _ hv3
  have hL4 : w4.heap[l]? = some (.loop { apRec fn sv Bs D .ready none with state := .busy }) := (hg4.block l (Array.getElem?_eq_some_iff.1 hL3).1 (fun e => hBl (by cases e; rfl))).trans hL3
  have hK4 : w4.heap[D]? = some (.deferred (some [])) := (hg4.block D (Array.getElem?_eq_some_iff.1 hK3).1 (fun e => hDB (by cases e; rfl))).trans hK3
  have hrow4 := hown'.kept hg4 (ownsRow_ne_a hown' hv3 (fun cur e => by injection e with _ e2 _; cases e2))
  have hl4 : l < w4.heap.size := (Array.getElem?_eq_some_iff.1 hL4).1
  have hb3 : Below w0.heap.size w0 w3 := (hb2.alloc hb2.size _).grown hg3' (by have := hb2.size; simp; omega) (fun k e => (hrow2.lt k e).1)
  have hb4 : Below w0.heap.size w0 w4 := hb3.grown hg4 hb3.size (fun k e => by cases e; exact h0B)
  have hk4 : KeepsWalks W w4 := ((hk2.trans (KeepsWalks.alloc _ _)).trans (KeepsWalks.of_grownBy hg3' (ownsRow_not_walk_a (hrow2.alloc _)))).trans (by rw [← hw4]; exact KeepsWalks.setCell _ _ _)
  clear hw4
  refine ⟨_, _, run_endRound none hL4, rfl, ⟨⟨_, (World.putObj_heap_other hBl).trans hv4, ?_⟩, World.putObj_heap_same hl4, (World.putObj_heap_other hDl).trans hK4, hb4.grown (grownBy_putObj_a _ _ _) hb4.size (fun k e => by cases e; exact h0l)⟩, hk4.trans (KeepsWalks.putObj _ hL4 rfl)⟩
  have e := hrow4.kept (grownBy_putObj_a w4 l (.loop { { apRec fn sv Bs D .ready none with state := .busy } with state := if (none : Option Code).isNone then .ready else .done, pending := none })) (ownsRow_ne_a hrow4 hL4 (fun cur e => by cases e))
  unfold Tms
  rw [List.length_append, flatT_app, flatT_one]
  exact e
set_option maxHeartbeats 2000000 in
theorem appendSeq_in (F : Fence) (n : Nat) (h79 : F.fn 108) (hro : F.round = none) (hn : 2 ≤ n) (g : Nat) (lb : Array Value) (hFg : F.fn g) (eg : ∀ args w, (callFunc g args).run Tryz.prog w = .ok (.enter g args) w)
    (S : List Tm → Prop) (N : Nat) (hN : N ≤ 1000) (w : World) (hseq : SeqGives F (n - 1) Tryz.prog g lb tmV S N w) :
    CallsIn F n Tryz.prog 108 #[.slice none 0 0, .func (.func g) #[] lb] w fun e w' => ∃ (v : Value) (ss : List Tm), e = .returned v ∧ S ss ∧ Tms w.heap.size w' v ss ∧ Below w.heap.size w w' := by
  have h1 : 1 ≤ n := by omega
  refine callsIn_of_wp_marks Tryz.func108 rfl h79 ?_ hro
  simp only [Tryz.ntmps108, List.size_toArray, List.length_cons, List.length_nil, Nat.reduceAdd, Nat.reduceSub, Array.replicate_succ, Array.replicate_zero, List.push_toArray, List.append_toArray, List.nil_append, List.cons_append]
  gi_wp2
  refine wpIn_rangeFunc ?_
  intro fn hfn
  rw [hro]
  obtain ⟨W0, hW0⟩ : ∃ W0, w.alloc (.cells #[.slice none 0 0] 43) = W0 := ⟨_, rfl⟩
  have hs0 : W0.heap.size = w.heap.size + 1 := by rw [← hW0]; simp
  have hv0 : W0.heap[w.heap.size]? = some (.cells #[.slice none 0 0] 43 (0, 0)) := by rw [← hW0]; exact World.alloc_heap_new w _
  have hb0 : Below w.heap.size w W0 := by rw [← hW0]; exact (Below.refl _ w).alloc (Nat.le_refl _) _
  rw [hW0]
  obtain ⟨W1, hW1⟩ : ∃ W1, (W0.alloc (.deferred (some []))).alloc (.loop (apRec fn (.func (.func g) #[] lb) w.heap.size W0.heap.size .ready none)) = W1 := ⟨_, rfl⟩
  have hold : ∀ k, k < W0.heap.size → W1.heap[k]? = W0.heap[k]? := fun k hk => by
    rw [← hW1]; exact (Below.heap_alloc _ _ k (by simp; omega)).trans (Below.heap_alloc _ _ k hk)
  have hb1 : Below w.heap.size w W1 := by rw [← hW1]; exact (hb0.alloc hb0.size _).alloc (by have := hb0.size; simp; omega) _
  have hs1 : W1.heap.size = W0.heap.size + 2 := by rw [← hW1]; simp
  have hM : ApAt w fn (.func (.func g) #[] lb) w.heap.size (W0.heap.size + 1) W0.heap.size [] W1 :=
    ⟨⟨_, (hold w.heap.size (by omega)).trans hv0, ⟨rfl, .inl ⟨rfl, rfl⟩⟩⟩,
     by rw [← hW1]; have := World.alloc_heap_new (W0.alloc (.deferred (some []))) (.loop (apRec fn (.func (.func g) #[] lb) w.heap.size W0.heap.size .ready none)); rwa [World.size_alloc] at this,
     by rw [← hW1]; exact (Below.heap_alloc _ _ _ (by simp)).trans (World.alloc_heap_new W0 _), hb1⟩
  refine ⟨W0.heap.size + 1, [{ target := .collected W0.heap.size, args := #[] }], W1, { target := .fn (.func g) lb, args := #[.func (.yield (W0.heap.size + 1)) #[] #[]] }, W1, g,
    #[.func (.yield (W0.heap.size + 1)) #[] #[]] ++ lb, W1, ?_, ?_, ?_, ?_, fun _ => h1, ?_⟩
  · rw [← hW1]; exact run_enterLoop_outer _ _ _ _ _
  · simp [resolve, go_sem]
  · intro f' hf'; simp [Target.leads] at hf'; subst hf'; exact hFg
  · simp [invoke, go_sem, eg]
  · refine (hseq (W0.heap.size + 1) (ApAt w fn (.func (.func g) #[] lb) w.heap.size (W0.heap.size + 1) W0.heap.size) W1 hb1 (ap_abides _ _ _ _ _ _ _ hb1.size)
      (fun pre x W hJ hl => apYield F (n - 1 - 1) w fn hfn _ w.heap.size (W0.heap.size + 1) W0.heap.size (by omega) (by omega) (by omega) (Nat.le_refl _) (by omega) N hN pre x W hJ hl) hM).mono ?_
    rintro e W2 ⟨⟨v0, rfl⟩, ss, hS, h2⟩
    obtain ⟨v, hv, hrow⟩ := h2.box
    have hend := run_endLoop (P := Tryz.prog) h2.L (by simp [apRec])
    obtain ⟨W3, hW3⟩ : ∃ W3, W2.putObj (W0.heap.size + 1) (.loop { apRec fn (.func (.func g) #[] lb) w.heap.size W0.heap.size .ready none with state := .exhausted }) = W3 := ⟨_, rfl⟩
    rw [hW3] at hend
    have hg3 : W2.grownBy W3 (some (W0.heap.size + 1)) := by rw [← hW3]; exact grownBy_putObj_a _ _ _
    have hv3 : W3.heap[w.heap.size]? = some (.cells #[v] 43 (0, 0)) := by rw [← hW3]; exact (World.putObj_heap_other (by omega)).trans hv
    have hK3 : W3.heap[W0.heap.size]? = some (.deferred (some [])) := by rw [← hW3]; exact (World.putObj_heap_other (by omega)).trans h2.K
    have hrow3 := World.ownsRow.kept hrow hg3 (ownsRow_ne_a hrow h2.L (fun cur e => by cases e))
    have hb3 : Below w.heap.size w W3 := h2.below.grown hg3 h2.below.size (fun k e => by cases e; omega)
    obtain ⟨hc3, hf3⟩ := cell_of_box_a hv3
    clear hW3
    refine ⟨none, W3, hend, ?_⟩
    gi_wp2
    rw [← hs0]
    refine ⟨by simp, .inl ⟨_, _, rfl, run_takeDeferred hK3, ?_⟩⟩
    exact ⟨_, results_tmp rfl _ _ _, v, ss, rfl, hS, World.ownsRow.kept hrow3 (grownBy_putObj_a _ _ _) (ownsRow_ne_a hrow3 hK3 (fun cur e => by cases e)), hb3.grown (grownBy_putObj_a _ _ _) hb3.size (fun k e => by cases e; omega)⟩
set_option maxHeartbeats 1000000 in
theorem collect_in (F : Fence) (n : Nat) (h58 : F.fn 74) (h79 : F.fn 108) (hro : F.round = none) (hn : 3 ≤ n) (g : Nat) (lb : Array Value) (hFg : F.fn g) (eg : ∀ args w, (callFunc g args).run Tryz.prog w = .ok (.enter g args) w)
    (S : List Tm → Prop) (N : Nat) (hN : N ≤ 1000) (w : World) (hseq : SeqGives F (n - 1 - 1) Tryz.prog g lb tmV S N w) :
    CallsIn F n Tryz.prog 74 #[.func (.func g) #[] lb] w fun e w' => ∃ (v : Value) (ss : List Tm), e = .returned v ∧ S ss ∧ Tms w.heap.size w' v ss ∧ Below w.heap.size w w' := by
  have h1 : 1 ≤ n := by omega
  refine callsIn_of_wp Tryz.func74 rfl h58 ?_ hro
  simp only [Tryz.ntmps74, List.size_toArray, List.length_cons, List.length_nil, Nat.reduceAdd, Nat.reduceSub, Array.replicate_succ, Array.replicate_zero, List.push_toArray, List.append_toArray, List.nil_append, List.cons_append]
  gi_wp2_with (gi_at_call 108; refine (appendSeq_in F (n - 1) h79 hro (by omega) g lb hFg eg S N hN _ hseq).mono ?_; rintro e w' ⟨v, ss, rfl, hS, hrow, hb⟩)
  go_ret
  exact ⟨v, ss, rfl, hS, hrow, hb⟩
end Go.Proofs.YtoihekgmomjhpaaGreatDoor

/-
  Layer 8: List, where there is a service.
-/
set_option linter.unusedVariables false
namespace Go.Proofs.YtoihekgmomjhpaaGreatDoor
open Go.RowKit Ste Go.MapKept Go.ChangeMaps
set_option maxRecDepth 100000
theorem tms_le {base base' : Nat} {w : World} {v : Value} {l : List Tm} (h : Tms base w v l) (hb : base' ≤ base) : Tms base' w v l := by
  refine ⟨h.1, ?_⟩
  rcases h.2 with h0 | ⟨g, cap, cur, rfl, hg, hr⟩
  · exact .inl h0
  · exact .inr ⟨g, cap, cur, rfl, Nat.le_trans hb hg, hr⟩
theorem seq_values (F : Fence) (n : Nat) (h60 : F.fn 76) (hro : F.round = none) (hn : 1 ≤ n) (Bm b : Nat) (tl : List Tm) (w : World) (hBm : Bm < w.heap.size)
    (hm : w.cell? ⟨Bm, 0, none⟩ = some (.map (some b))) (hv : VMap w b (tl.map tmP)) :
    SeqGives F n Tryz.prog 76 #[.pointer (some ⟨Bm, 0, none⟩)] tmV (fun ss => ss.Perm tl) tl.length w := fun l J W hW hJ hY h0 => by
  have hv' := hv.kept (hW.block b hv.lt)
  have hm' : W.cell? ⟨Bm, 0, none⟩ = some (.map (some b)) := (hW.cell (p := ⟨Bm, 0, none⟩) hBm).trans hm
  exact (values1_in F n h60 hro hn l Bm b tl J (fun pre x W1 h1 h2 => hY pre x W1 h1 h2) W hJ hm' hv' h0).mono fun e W' h => h
theorem values_any (mb : Nat) (w : World) : Calls Tryz.prog 61 #[.map (some mb)] w fun e w' => e = .returned (.func (.func 76) #[] #[.pointer (some ⟨w.heap.size, 0, none⟩)]) ∧ Below w.heap.size w w' ∧ w'.cell? ⟨w.heap.size, 0, none⟩ = some (.map (some mb)) ∧ w.heap.size < w'.heap.size := by
  go_enter Tryz.func61, Tryz.ntmps61
  go_wp2_with fail
  go_ret
  exact ⟨rfl, (Below.refl _ _).alloc (Nat.le_refl _) _, cell_in (Go.heap_alloc_new w _) 0, by show _ < (w.heap.push _).size; rw [Array.size_push]; omega⟩
theorem collect_any (Bm b : Nat) (tl : List Tm) (hl : tl.length ≤ 1000) (w : World) (hBm : Bm < w.heap.size) (hm : w.cell? ⟨Bm, 0, none⟩ = some (.map (some b))) (hv : VMap w b (tl.map tmP)) :
    Calls Tryz.prog 74 #[.func (.func 76) #[] #[.pointer (some ⟨Bm, 0, none⟩)]] w fun e w' => ∃ (v : Value) (ss : List Tm), e = .returned v ∧ ss.Perm tl ∧ Tms w.heap.size w' v ss ∧ Below w.heap.size w w' :=
  callsIn_wide.1 (collect_in Fence.wide 5 trivial trivial rfl (by omega) _ _ trivial (fun _ _ => rfl) (fun ss => ss.Perm tl) tl.length hl w (seq_values Fence.wide _ trivial rfl (by omega) Bm b tl w hBm hm hv))
/-- What the map holds, in the order of ids. -/
theorem sorted_any (Bm b : Nat) (tl T : List Tm) (hl : tl.length ≤ 1000) (hp : tl.Perm T) (hu : Up T) (w : World) (hBm : Bm < w.heap.size) (hm : w.cell? ⟨Bm, 0, none⟩ = some (.map (some b))) (hv : VMap w b (tl.map tmP)) :
    Calls Tryz.prog 60 #[.func (.func 76) #[] #[.pointer (some ⟨Bm, 0, none⟩)], .func (.func 62) #[] #[]] w fun e w' => ∃ v : Value, e = .returned v ∧ Tms w.heap.size w' v T ∧ Below w.heap.size w w' := by
  have cC := Lib.hid (collect_any Bm b tl hl w hBm hm hv)
  have cS := Lib.hid (fun v l W (h : Tms w.heap.size W v l) (hq : l.Perm T) (hl2 : l.length ≤ 1000) (hb : w.heap.size ≤ W.heap.size) => sort_any w.heap.size v l T W h hq hu hl2 hb)
  replace hp := Lib.hid hp
  replace hl := Lib.hid hl
  clear hu hm hv hBm
  go_enter Tryz.func60, Tryz.ntmps60
  go_wp2_with fail
  refine cC.out.mono ?_
  rintro e w1 ⟨v1, ss, rfl, hS, hrow, hb⟩
  have c2 := Lib.hid (cS.out v1 ss w1 hrow (hS.trans hp.out) (by rw [hS.length_eq]; exact hl.out) hb.size)
  replace hb := Lib.hid hb
  clear hrow hS
  go_wp2_with fail
  refine c2.out.mono ?_
  rintro e w2 ⟨rfl, hT, hb2⟩
  replace hT := Lib.hid hT
  replace hb2 := Lib.hid hb2
  clear c2
  go_wp2_with fail
  go_ret
  exact ⟨_, rfl, hT.out, hb.out.trans hb2.out⟩
theorem list_any {w : World} {b c : Nat} {s : St} {cl : List Int} {x : Px} (h : Sv w b s cl x c) (hs : x.tl.length ≤ 1000) :
    Calls Tryz.prog 37 #[.pointer (some ⟨b, 0, none⟩)] w fun e w' => ∃ v : Value, e = .returned v ∧ Tms w.heap.size w' v s.T ∧ Below w.heap.size w w' := by
  have c2 := h.c2
  have cV := Lib.hid (values_any x.tb w)
  have cS := Lib.hid (fun W (hb : Below w.heap.size w W) (hm : W.cell? ⟨w.heap.size, 0, none⟩ = some (.map (some x.tb))) (hlt : w.heap.size < W.heap.size) => sorted_any w.heap.size x.tb x.tl s.T hs h.tp h.ok.up W hlt hm (h.tm.kept (hb.block _ h.tm.lt)))
  clear h hs
  go_enter Tryz.func37, Tryz.ntmps37
  go_wp2_with fail
  refine cV.out.mono ?_
  rintro e w1 ⟨rfl, hb, hm, hlt⟩
  have c3 := Lib.hid (cS.out w1 hb hm hlt)
  replace hb := Lib.hid hb
  clear hm hlt
  go_wp2_with fail
  refine c3.out.mono ?_
  rintro e w2 ⟨v, rfl, hT, hb2⟩
  replace hT := Lib.hid hT
  replace hb2 := Lib.hid hb2
  clear c3
  go_wp2_with fail
  go_ret
  exact ⟨_, rfl, tms_le hT.out hb.out.size, hb.out.trans (hb2.out.mono hb.out.size)⟩
end Go.Proofs.YtoihekgmomjhpaaGreatDoor

/-
  Layer 8: two lists of clients beside each other (the document's Ints).
-/
set_option linter.unusedVariables false
namespace Go.Proofs.YtoihekgmomjhpaaGreatDoor
open Go.RowKit Ste
set_option maxRecDepth 100000
theorem below_dN {B : Nat} {w w' : World} (h : Below B w w') : ∀ n, Below B w (w'.drewN n)
  | 0 => h
  | n + 1 => (below_dN h n).drew
end Go.Proofs.YtoihekgmomjhpaaGreatDoor

/-
  Layer 8: a service beside the caller's own variables.
-/
set_option linter.unusedVariables false
namespace Go.Proofs.YtoihekgmomjhpaaGreatDoor
open Go.RowKit Crn Nxt Ste
set_option maxRecDepth 100000
/-- A service in the state s at b; V: the caller's own blocks, as they stand; nothing of w0 has turned. -/
def Rn (w0 w : World) (b : Nat) (s : St) (c : Nat) (V : List (Nat × Obj)) : Prop :=
  ∃ x, SS w b s x c ∧ (∀ k, k ∈ own x b → w0.heap.size ≤ k) ∧ Below w0.heap.size w0 w ∧ ∀ p, p ∈ V → w.heap[p.1]? = some p.2 ∧ p.1 ∉ own x b
section
variable {w0 w w' : World} {b c : Nat} {s : St} {V : List (Nat × Obj)}
theorem Rn.bel (h : Rn w0 w b s c V) : Below w0.heap.size w0 w := by obtain ⟨x, _, _, h, _⟩ := h; exact h
theorem Rn.ok (h : Rn w0 w b s c V) : Ok s := by obtain ⟨x, h, _⟩ := h; exact h.sv.ok
theorem Rn.at (h : Rn w0 w b s c V) {k : Nat} {o : Obj} (hk : (k, o) ∈ V) : w.heap[k]? = some o := by obtain ⟨x, _, _, _, h⟩ := h; exact (h _ hk).1
theorem Rn.below (h : Rn w0 w b s c V) (k : Below w.heap.size w w') : Rn w0 w' b s c V := by
  obtain ⟨x, h1, h2, h3, h4⟩ := h
  refine ⟨x, h1.below k, h2, h3.trans (k.mono h3.size), fun p hp => ⟨?_, (h4 p hp).2⟩⟩
  have h5 := (h4 p hp).1
  exact (k.block _ (Array.getElem?_eq_some_iff.1 h5).1).trans h5
theorem Rn.alloc (h : Rn w0 w b s c V) (o : Obj) : Rn w0 (w.alloc o) b s c ((w.heap.size, o) :: V) := by
  have k : Below w.heap.size w (w.alloc o) := (Below.refl _ _).alloc (Nat.le_refl _) _
  obtain ⟨x, h1, h2, h3, h4⟩ := h.below k
  obtain ⟨x', g1, g2, g3, g4⟩ := h
  refine ⟨x', g1.below k, g2, h3, fun p hp => ?_⟩
  rcases List.mem_cons.1 hp with rfl | hp
  · exact ⟨Go.heap_alloc_new w o, fun e => by have := (g1.sv.lt _ e).1; simp only at this; omega⟩
  · have h5 := (g4 p hp).1
    exact ⟨(k.block _ (Array.getElem?_eq_some_iff.1 h5).1).trans h5, (g4 p hp).2⟩
theorem Rn.less (h : Rn w0 w b s c V) {U : List (Nat × Obj)} (hU : ∀ p, p ∈ U → p ∈ V) : Rn w0 w b s c U := by
  obtain ⟨x, h1, h2, h3, h4⟩ := h
  exact ⟨x, h1, h2, h3, fun p hp => h4 p (hU p hp)⟩
theorem Rn.after {x : Px} {s' : St} {x' : Px} {c' : Nat} (h1 : SS w b s x c) (h2 : ∀ k, k ∈ own x b → w0.heap.size ≤ k) (h3 : Below w0.heap.size w0 w) (h4 : ∀ p, p ∈ V → w.heap[p.1]? = some p.2 ∧ p.1 ∉ own x b) (A : AftS w b x w' s' x' c') : Rn w0 w' b s' c' V := by
  refine ⟨x', A.ss, fun k hk => ?_, ⟨A.kept.os.trans h3.os, A.kept.tape.trans h3.tape, A.kept.output.trans h3.output, Nat.le_trans h3.size A.kept.size, fun i hi => ?_⟩, fun p hp => ?_⟩
  · rcases A.own k hk with g | g
    · exact h2 k g
    · exact Nat.le_trans h3.size g
  · exact (A.kept.block i (Nat.lt_of_lt_of_le hi h3.size) (fun g => by have := h2 _ g; omega)).trans (h3.block i hi)
  · obtain ⟨g1, g2⟩ := h4 p hp
    have hlt := (Array.getElem?_eq_some_iff.1 g1).1
    refine ⟨(A.kept.block _ hlt g2).trans g1, fun e => ?_⟩
    rcases A.own _ e with g | g
    · exact g2 g
    · omega
theorem Rn.set (h : Rn w0 w b s c V) {k : Nat} {C : Array Value} {t : TypeId} (hk : (k, Obj.cells C t) ∈ V) (hb : w0.heap.size ≤ k) (i : Nat) (v : Value) {U : List (Nat × Obj)} (hU : ∀ p, p ∈ U → p ∈ V ∧ p.1 ≠ k) :
    Rn w0 (w.setCell ⟨k, i, none⟩ v) b s c ((k, Obj.cells (C.setIfInBounds i v) t) :: U) := by
  obtain ⟨x, h1, h2, h3, h4⟩ := h
  obtain ⟨g1, g2⟩ := h4 _ hk
  have kr : Kl [k] w (w.setCell ⟨k, i, none⟩ v) := (Kl.refl _ _).setCell (by simp) i v
  refine ⟨x, h1.kept kr (fun j hj => by simp only [List.mem_singleton] at hj; subst hj; exact g2), h2, h3.setCell hb v, fun p hp => ?_⟩
  rcases List.mem_cons.1 hp with rfl | hp
  · exact ⟨heap_setCell_same w k i C t v g1, g2⟩
  · obtain ⟨g3, g4⟩ := hU p hp
    exact ⟨(Below.heap_setCell w ⟨k, i, none⟩ v p.1 g4).trans (h4 p g3).1, (h4 p g3).2⟩
theorem Rn.lt (h : Rn w0 w b s c V) {k : Nat} {o : Obj} (hk : (k, o) ∈ V) : k < w.heap.size := (Array.getElem?_eq_some_iff.1 (h.at hk)).1
theorem Rn.cells3 (h : Rn w0 w b s c V) {k : Nat} {a0 a1 a2 : Value} {t : TypeId} (hk : (k, Obj.cells #[a0, a1, a2] t) ∈ V) : w.cell? ⟨k, 0, none⟩ = some a0 ∧ w.cell? ⟨k, 1, none⟩ = some a1 ∧ w.cell? ⟨k, 2, none⟩ = some a2 ∧ w.frozen? ⟨k, 0, none⟩ = false ∧ w.frozen? ⟨k, 1, none⟩ = false ∧ w.frozen? ⟨k, 2, none⟩ = false :=
  have g := h.at hk
  ⟨cell_in g 0, cell_in g 1, cell_in g 2, free_in g 0, free_in g 1, free_in g 2⟩
theorem Rn.drewN (h : Rn w0 w b s c V) (n : Nat) : Rn w0 (w.drewN n) b s c V := h.below (below_dN (Below.refl _ _) n)
theorem Rn.apply (h : Rn w0 w b s c V) (tb : Tab w0) (nt : NTab w0) (hc : c ≤ 900000) (o : OpN) (ho : OpOk o) :
    Calls Tryz.prog 31 #[.pointer (some ⟨b, 0, none⟩), opV o] w fun e w' => e = .returned (rpV (applyN s o).2) ∧ Rn w0 w' b (applyN s o).1 (c + 1) V := by
  obtain ⟨x, h1, h2, h3, h4⟩ := h
  exact (apply_any h1 (tb.below h3) (nt.below h3) hc o ho).mono fun e w' ⟨he, x', A⟩ => ⟨he, Rn.after h1 h2 h3 h4 A⟩
theorem Rn.list (h : Rn w0 w b s c V) : Calls Tryz.prog 37 #[.pointer (some ⟨b, 0, none⟩)] w fun e w' => ∃ v : Value, e = .returned v ∧ Tms w.heap.size w' v s.T ∧ Below w.heap.size w w' := by
  obtain ⟨x, h1, h2, h3, h4⟩ := h
  have := h1.sv.ok.full
  have := h1.sv.ok.room1
  exact list_any h1.sv (by rw [h1.sv.tp.length_eq]; omega)
theorem Rn.get (h : Rn w0 w b s c V) (id : Int) (hid : i64 id) : Calls Tryz.prog 30 #[.pointer (some ⟨b, 0, none⟩), .int .i64 id] w fun e w' => e = .returned (.tuple #[tmV (valT s.T id), .int .i64 (getE s.T id)]) ∧ Below w.heap.size w w' := by
  obtain ⟨x, h1, h2, h3, h4⟩ := h
  exact get_any h1.sv id hid
end
end Go.Proofs.YtoihekgmomjhpaaGreatDoor

/-
  Layer 8 (no program): what the statements say of any row of operations.
-/
set_option linter.unusedVariables false
namespace Ste
open Crn Nxt
/-- The first k of a row of operations, and the service behind them. -/
def pre (f : Nat → OpN) (k : Nat) : List OpN := (List.range k).map f
/-! Cancels. -/
/-! Fires. -/
def look (g : Int) (L : List (Int × Int × Int)) : Option (Int × Int) := (L.find? fun p => decide (p.1 = g)).map (·.2)
theorem look_some {g : Int} {L : List (Int × Int × Int)} {q : Int × Int} (h : look g L = some q) : (g, q) ∈ L := by
  unfold look at h
  obtain ⟨p, h1, h2⟩ := Option.map_eq_some_iff.1 h
  have h3 := List.mem_of_find?_eq_some h1
  have h4 : p.1 = g := by simpa using List.find?_some h1
  rw [← h4, ← h2]
  exact h3
theorem look_none {g : Int} {L : List (Int × Int × Int)} (h : look g L = none) : ∀ p ∈ L, p.1 ≠ g := by
  unfold look at h
  rw [Option.map_eq_none_iff] at h
  intro p hp
  have := List.find?_eq_none.1 h p hp
  simpa using this
end Ste

/-
  Layer 8: a row of operations that came in, opened; and whether all of them may be played (the document's Few).
-/
set_option linter.unusedVariables false
namespace Go.Proofs.YtoihekgmomjhpaaGreatDoor
open Go.ChangeShapes Go.WideShapes Go.ChangeAt Go.RowKit Go.Joins Go.Deep Crn Ste
set_option maxRecDepth 100000
theorem laidOut8 : laidOutB Tryz.prog = true := by kernel_rfl
section
variable {H : Type} {enc : TypeId × Value → H} {w : World} {base : Nat} {spare : Nat → Bool} {held : Bool}
theorem op_of_cells {m : Nat} {cs : List Value} {x : DataW H × List MemPlace} (hl : cs.length = 10) (hf : DataW.trod enc Tryz.prog w base spare held m 31 cs = some x) : ∃ o : OpN, cs = (opC o).toList ∧ OpIs o := by
  match cs, hl with
  | [c0, c1, c2, c3, c4, c5, c6, c7, c8, c9], _ =>
    obtain ⟨xs, n, _, _, _, hlen, hg⟩ := DataW.trod_struct Tryz.underlying31 hf
    match xs, hlen with
    | [y0, y1, y2, y3, y4, y5, y6, y7, y8, y9], _ =>
      have g0 : DataW.trod enc Tryz.prog w base spare held n 3 [c0] = some y0 := by simpa [cells3, cells9s] using hg 0 _ rfl
      have g1 : DataW.trod enc Tryz.prog w base spare held n 3 [c1] = some y1 := by simpa [cells3, cells9s] using hg 1 _ rfl
      have g2 : DataW.trod enc Tryz.prog w base spare held n 3 [c2] = some y2 := by simpa [cells3, cells9s] using hg 2 _ rfl
      have g3 : DataW.trod enc Tryz.prog w base spare held n 3 [c3] = some y3 := by simpa [cells3, cells9s] using hg 3 _ rfl
      have g4 : DataW.trod enc Tryz.prog w base spare held n 3 [c4] = some y4 := by simpa [cells3, cells9s] using hg 4 _ rfl
      have g5 : DataW.trod enc Tryz.prog w base spare held n 3 [c5] = some y5 := by simpa [cells3, cells9s] using hg 5 _ rfl
      have g6 : DataW.trod enc Tryz.prog w base spare held n 3 [c6] = some y6 := by simpa [cells3, cells9s] using hg 6 _ rfl
      have g7 : DataW.trod enc Tryz.prog w base spare held n 3 [c7] = some y7 := by simpa [cells3, cells9s] using hg 7 _ rfl
      have g8 : DataW.trod enc Tryz.prog w base spare held n 3 [c8] = some y8 := by simpa [cells3, cells9s] using hg 8 _ rfl
      have g9 : DataW.trod enc Tryz.prog w base spare held n 9 [c9] = some y9 := by simpa [cells3, cells9s] using hg 9 _ rfl
      obtain ⟨n0, e0, _, w0⟩ := DataW.trod_int Tryz.underlying3 g0
      obtain ⟨n1, e1, _, w1⟩ := DataW.trod_int Tryz.underlying3 g1
      obtain ⟨n2, e2, _, w2⟩ := DataW.trod_int Tryz.underlying3 g2
      obtain ⟨n3, e3, _, w3⟩ := DataW.trod_int Tryz.underlying3 g3
      obtain ⟨n4, e4, _, w4⟩ := DataW.trod_int Tryz.underlying3 g4
      obtain ⟨n5, e5, _, w5⟩ := DataW.trod_int Tryz.underlying3 g5
      obtain ⟨n6, e6, _, w6⟩ := DataW.trod_int Tryz.underlying3 g6
      obtain ⟨n7, e7, _, w7⟩ := DataW.trod_int Tryz.underlying3 g7
      obtain ⟨n8, e8, _, w8⟩ := DataW.trod_int Tryz.underlying3 g8
      obtain ⟨s9, e9, _, w9⟩ := DataW.trod_string Tryz.underlying9 g9
      obtain rfl := (List.cons.inj e0).1
      obtain rfl := (List.cons.inj e1).1
      obtain rfl := (List.cons.inj e2).1
      obtain rfl := (List.cons.inj e3).1
      obtain rfl := (List.cons.inj e4).1
      obtain rfl := (List.cons.inj e5).1
      obtain rfl := (List.cons.inj e6).1
      obtain rfl := (List.cons.inj e7).1
      obtain rfl := (List.cons.inj e8).1
      obtain rfl := (List.cons.inj e9).1
      exact ⟨⟨n0, n1, n2, n3, n4, n5, n6, n7, n8, s9⟩, rfl, ⟨wf_i64 w0, wf_i64 w1, wf_i64 w2, wf_i64 w3, wf_i64 w4, wf_i64 w5, wf_i64 w6, wf_i64 w7, wf_i64 w8, w9⟩⟩
end
instance opInh : Inhabited OpN := ⟨⟨0, 0, 0, 0, 0, 0, 0, 0, 0, ⟨#[]⟩⟩⟩
/-- A row of operations, as it is read. -/
def Ops (w : World) (a : Option Addr) (n : Nat) (f : Nat → OpN) : Prop := ∀ i, i < n → ∃ b off, a = some ⟨b, off, none⟩ ∧ (∀ j v, (opC (f i))[j]? = some v → w.cell? ⟨b, off + i * 10 + j, none⟩ = some v) ∧ OpIs (f i)
theorem Ops.keep {w w' : World} {a : Option Addr} {n : Nat} {f : Nat → OpN} (h : Ops w a n f) (k : Below w.heap.size w w') : Ops w' a n f := fun i hi => by
  obtain ⟨b, off, e, c, z⟩ := h i hi
  exact ⟨b, off, e, fun j v hj => (k.cell (p := ⟨b, off + i * 10 + j, none⟩) (World.block_lt_of_cell? w _ (c j v hj))).trans (c j v hj), z⟩
theorem Ops.at {w : World} {a : Option Addr} {n : Nat} {f : Nat → OpN} (h : Ops w a n f) (i : Nat) (hi : i < n) : ∃ b off, a = some ⟨b, off, none⟩ ∧ OpIs (f i) ∧
    w.cell? ⟨b, off + i * 10, none⟩ = some (.int .i64 (f i).kind) ∧ w.cell? ⟨b, off + i * 10 + 1, none⟩ = some (.int .i64 (f i).client) ∧ w.cell? ⟨b, off + i * 10 + 2, none⟩ = some (.int .i64 (f i).req) ∧ w.cell? ⟨b, off + i * 10 + 3, none⟩ = some (.int .i64 (f i).id) ∧ w.cell? ⟨b, off + i * 10 + 4, none⟩ = some (.int .i64 (f i).gen) ∧
    w.cell? ⟨b, off + i * 10 + 5, none⟩ = some (.int .i64 (f i).occ) ∧ w.cell? ⟨b, off + i * 10 + 6, none⟩ = some (.int .i64 (f i).due) ∧ w.cell? ⟨b, off + i * 10 + 7, none⟩ = some (.int .i64 (f i).stamp) ∧ w.cell? ⟨b, off + i * 10 + 8, none⟩ = some (.int .i64 (f i).epoch) ∧ w.cell? ⟨b, off + i * 10 + 9, none⟩ = some (.string (f i).cron) := by
  obtain ⟨b, off, e, c, z⟩ := h i hi
  exact ⟨b, off, e, z, c 0 _ rfl, c 1 _ rfl, c 2 _ rfl, c 3 _ rfl, c 4 _ rfl, c 5 _ rfl, c 6 _ rfl, c 7 _ rfl, c 8 _ rfl, c 9 _ rfl⟩
theorem ops_of {H : Type} {enc : TypeId × Value → H} {W : World} {fuel : Nat} {a : Option Addr} {len cap : Nat} {x : DataW H × List MemPlace}
    (h : DataW.trod enc Tryz.prog W 0 (fun _ => true) true fuel 22 (Value.cells (.slice a len cap)).toList = some x) : ∃ f, Ops W a len f ∧ len ≤ 9223372036854775807 := by
  rcases open_slice Tryz.underlying22 h with ⟨hcs, _⟩ | ⟨y, l, c, m, n, D, Pl, hcs, _, hl, hm, hmm, _, hx⟩
  · simp [Value.cells] at hcs
    obtain ⟨_, e, _⟩ := hcs
    exact ⟨fun _ => ⟨0, 0, 0, 0, 0, 0, 0, 0, 0, ⟨#[]⟩⟩, fun i hi => by omega, by omega⟩
  · simp [Value.cells] at hcs
    obtain ⟨rfl, rfl, rfl⟩ := hcs
    have hmm : m = cap := by simpa using hmm
    subst hmm
    have each : ∀ i, i < m → ∃ o : OpN, (∀ j v, (opC o)[j]? = some v → W.cell? (y.add (i * 10 + j)) = some v) ∧ OpIs o := by
      intro i hi
      obtain ⟨cs', h1, h2⟩ := hx i hi
      rw [cells30] at h1
      obtain ⟨_, hlen, hcell⟩ := World.cells?_some h1
      obtain ⟨o, rfl, ho⟩ := op_of_cells hlen h2
      refine ⟨o, fun j v hj => ?_, ho⟩
      have hj' : j < 10 := by
        rcases Nat.lt_or_ge j 10 with g | g
        · exact g
        · rw [Array.getElem?_eq_none (by simpa using g)] at hj; cases hj
      have := hcell j hj'
      rw [add_add] at this
      rw [this]
      rw [← Array.getElem?_toList] at hj
      exact hj
    obtain ⟨q, hq⟩ := choose_lt each
    refine ⟨q, fun i hi => ?_, by unfold maxLen at hm; omega⟩
    obtain ⟨c, z⟩ := hq i (by omega)
    obtain ⟨b, off, spot⟩ := y
    have hspot : spot = none := by
      have h0 := (hq 0 (by omega)).1 0 _ rfl
      exact by simpa [Addr.add] using World.cell?_spot h0
    subst hspot
    refine ⟨b, off, rfl, fun j v hj => ?_, z⟩
    have := c j v hj
    rw [Addr.add_lit] at this
    rw [Nat.add_assoc]
    exact this
/-- Operations that are few, and have short texts, may be played. -/
def FewP (n : Nat) (f : Nat → OpN) : Prop := n ≤ 300 ∧ ∀ i, i < n → (f i).cron.size ≤ 400
theorem FewP.ok {n : Nat} {f : Nat → OpN} (h : FewP n f) {i : Nat} (hi : i < n) (z : OpIs (f i)) : OpOk (f i) := ⟨z.kind, z.client, z.req, z.id, z.gen, z.occ, z.due, z.stamp, z.epoch, h.2 i hi⟩
end Go.Proofs.YtoihekgmomjhpaaGreatDoor

/-
  Layer 8: what the statements call besides: Few, Same, Last; a row of timers, looked at.
-/
set_option linter.unusedVariables false
namespace Go.Proofs.YtoihekgmomjhpaaGreatDoor
open Go.RowKit Crn Nxt Ste
set_option maxRecDepth 100000
def FewE (n : Nat) (f : Nat → OpN) (e : Ending) : Prop := ∃ r : Bool, e = .returned (.bool r) ∧ (r = true → FewP n f)
set_option maxHeartbeats 2000000 in
theorem few_any (w : World) (a : Option Addr) (n cap : Nat) (f : Nat → OpN) (h : Ops w a n f) (hn : n ≤ 9223372036854775807) :
    Calls Tryz.prog 8 #[.slice a n cap] w fun e w' => FewE n f e ∧ w' = w := by
  have ht := Lib.hid h.at
  replace hn := Lib.hid hn
  clear h
  go_enter Tryz.func8, Tryz.ntmps8
  go_wp2_with fail
  go_loopw [3] (fun v wr => ∃ k : Nat, v = .int .i64 k ∧ (k : Int) ≤ n ∧ Hid (∀ i, i < k → (f i).cron.size ≤ 400) ∧ wr = w) (fun v _ => ((n : Int) - intOf v).toNat)
  case atStart => exact ⟨0, rfl, by omega, fun i hi => by omega, rfl⟩
  case round =>
    obtain ⟨k, rfl, hk, hs, hw⟩ := hrel
    subst hw
    by_cases hlt : (k : Int) < n
    · obtain ⟨b, off, rfl, z, _, _, _, _, _, _, _, _, _, c9⟩ := ht.out k (by omega)
      have hw1 : IntKind.i64.wrap ((k : Int) + 1) = (k : Int) + 1 := IntWalk.i64_in _ (by have := hn.out; omega)
      have hs2 : Hid ((f k).cron.size ≤ 400 → ∀ i, i < k + 1 → (f i).cron.size ≤ 400) := fun e i hi => by
        by_cases g : i = k
        · subst g; exact e
        · exact hs.out i (by omega)
      clear z
      generalize (f k).cron = cr at *
      by_cases hc : cr.size ≤ 400
      · have hc2 : decide ((400 : Int) < (cr.size : Int)) = false := by simp; omega
        have hs3 := Lib.hid (hs2.out hc)
        clear hs2
        replace hc := Lib.hid hc
        go_wp2_with fail
        exact ⟨⟨k + 1, by go_num, by omega, hs3, by trivial⟩, by simp [intOf]; omega⟩
      · have hc2 : decide ((400 : Int) < (cr.size : Int)) = true := by simp; omega
        replace hc := Lib.hid hc
        clear hs2
        go_wp2_with fail
        go_ret
        exact ⟨⟨false, rfl, fun e => by simp at e⟩, by trivial⟩
    · have hall : Hid (n ≤ 300 → FewP n f) := fun e => ⟨e, fun i hi => hs.out i (by omega)⟩
      by_cases hl : (n : Int) ≤ 300
      · go_wp2_with fail
        go_ret
        exact ⟨⟨true, rfl, fun _ => hall.out (by omega)⟩, by trivial⟩
      · go_wp2_with fail
        go_ret
        exact ⟨⟨false, rfl, fun e => by simp at e⟩, by trivial⟩
section
variable {w w' : World} {base : Nat} {v : Value} {l : List Tm}
theorem Tms.keep (h : Tms base w v l) (k : Below w.heap.size w w') : Tms base w' v l := row_same h fun g hg => k.block g (World.ownsRow.lt h g hg).2
theorem Tms.same (h : Tms base w v l) (k : ∀ g, v.ownBlock = some g → w'.heap[g]? = w.heap[g]?) : Tms base w' v l := row_same h k
theorem Tms.form (h : Tms base w v l) : ∃ p cap, v = .slice p l.length cap ∧ (∀ i (hi : i < l.length), ∃ g, p = some ⟨g, 0, none⟩ ∧ base ≤ g ∧ g < w.heap.size ∧ w.cell? ⟨g, i * 5, none⟩ = some (.int .i64 l[i].id) ∧ w.cell? ⟨g, i * 5 + 1, none⟩ = some (.int .i64 l[i].client) ∧ w.cell? ⟨g, i * 5 + 2, none⟩ = some (.int .i64 l[i].gen) ∧ w.cell? ⟨g, i * 5 + 3, none⟩ = some (.int .i64 l[i].due) ∧ w.cell? ⟨g, i * 5 + 4, none⟩ = some (.string l[i].cron)) := by
  rcases h.2 with ⟨h1, h2⟩ | ⟨g, cap, cur, h1, hb, h3, _⟩
  · exact ⟨none, 0, by rw [h1, h2], fun i hi => by omega⟩
  · subst h1
    refine ⟨_, cap, rfl, fun i hi => ⟨g, rfl, hb, lt_in h3, ?_⟩⟩
    have hc : ∀ j u, (encT l[i])[j]? = some u → w.cell? ⟨g, i * 5 + j, none⟩ = some u := fun j u hu => by
      have hj : j < 5 := (List.getElem?_eq_some_iff.1 hu).1
      have hc := World.ownsRow.cells h (g := g) rfl (i * 5 + j) u (by rw [flatT_at l i j hi hj]; exact hu)
      rw [Addr.add_lit] at hc
      simpa using hc
    exact ⟨hc 0 _ rfl, hc 1 _ rfl, hc 2 _ rfl, hc 3 _ rfl, hc 4 _ rfl⟩
end
theorem Rn.gc {w0 w : World} {b c : Nat} {s : St} {V : List (Nat × Obj)} (h : Rn w0 w b s c V) : s.gens ≤ c := by
  obtain ⟨x, h1, h2, h3, h4⟩ := h
  exact h1.sv.gc
/-- A block that a call made is the caller's own from then on. -/
theorem Rn.gain {w0 w w' : World} {b c : Nat} {s : St} {V : List (Nat × Obj)} (h : Rn w0 w b s c V) (k : Below w.heap.size w w') {g : Nat} {o : Obj} (hg : w.heap.size ≤ g) (ho : w'.heap[g]? = some o) : Rn w0 w' b s c ((g, o) :: V) := by
  obtain ⟨x, h1, h2, h3, h4⟩ := h
  refine ⟨x, h1.below k, h2, h3.trans (k.mono h3.size), fun p hp => ?_⟩
  rcases List.mem_cons.1 hp with rfl | hp
  · exact ⟨ho, fun e => by have := (h1.sv.lt _ e).1; simp only at this; omega⟩
  · have h5 := (h4 p hp).1
    exact ⟨(k.block _ (Array.getElem?_eq_some_iff.1 h5).1).trans h5, (h4 p hp).2⟩
/-- .. and so is a row of timers. -/
theorem Rn.row {w0 w w' : World} {b c : Nat} {s : St} {V : List (Nat × Obj)} (h : Rn w0 w b s c V) (k : Below w.heap.size w w') {v : Value} {l : List Tm} (T : Tms w.heap.size w' v l) :
    ∃ R : List (Nat × Obj), Rn w0 w' b s c (R ++ V) ∧ ∀ W : World, (∀ p ∈ R, W.heap[p.1]? = some p.2) → Tms w.heap.size W v l := by
  cases hv : v.ownBlock with
  | none => exact ⟨[], h.below k, fun W _ => T.same fun g hg => by rw [hv] at hg; cases hg⟩
  | some g =>
    obtain ⟨cur, hc⟩ := row_at T hv
    refine ⟨[(g, .cells cur 55)], h.gain k (World.ownsRow.lt T g hv).1 hc, fun W hW => T.same fun g' hg => ?_⟩
    rw [hv] at hg
    injection hg with hg
    subst hg
    exact (hW _ (List.mem_singleton.2 rfl)).trans hc.symm
end Go.Proofs.YtoihekgmomjhpaaGreatDoor

/-
  Layer 8: the fixed answers.
-/
set_option linter.unusedVariables false
namespace Go.Proofs.YtoihekgmomjhpaaGreatDoor
open Go.RowKit Crn Nxt Ste
set_option maxRecDepth 100000
theorem ok_aw (k c r i g o d s e : Int) (h : ∀ x ∈ [k, c, r, i, g, o, d, s, e], 0 ≤ x ∧ x ≤ 1000) : OpOk ⟨k, c, r, i, g, o, d, s, e, ⟨#[]⟩⟩ := by
  have q : ∀ x ∈ [k, c, r, i, g, o, d, s, e], i64 x := fun x hx => by have := h x hx; unfold i64; omega
  exact ⟨q k (by simp), q c (by simp), q r (by simp), q i (by simp), q g (by simp), q o (by simp), q d (by simp), q s (by simp), q e (by simp), by simp [ByteArray.size]⟩
structure FC (W : World) (k : Nat) (o : OpN) : Prop where
  h : W.heap[k]? = some (opO o)
theorem size_alloc (W : World) (z : Obj) : (W.alloc z).heap.size = W.heap.size + 1 := by simp
section
variable {w0 w : World} {b c : Nat} {s : St} {V : List (Nat × Obj)}
end
end Go.Proofs.YtoihekgmomjhpaaGreatDoor
