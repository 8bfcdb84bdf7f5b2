/-
  Texts laid into one (a claim has 60 files at most): OPut.
-/
import Derived.Test.YtoihekgmomjhpaaGreatDoorKO4
import Derived.Laws.Tables
/-
  Layer 9: one more operation, one more answer in the log's rows; a call's own block laid anew.
-/
set_option linter.unusedVariables false
set_option linter.unusedSimpArgs false
namespace Go.Proofs.YtoihekgmomjhpaaGreatDoor
open Go.RowKit Go.MapKept Crn Nxt Ste
set_option maxRecDepth 100000
theorem step_store_row {P : Program} {ops : Array Oper} {o : Oper} {a : Act} {w : World} {K : Act → World → Prop} {Q : Exit → Act → World → Prop} {E : Prop}
    (hg : o.guard = none) (ty : TypeId) (x y : Operand) (ho : o.op = .store ty x y) (g : Nat) (cells : Array Value) (hx : a.eval x = .pointer (some ⟨g, 0, none⟩)) (hy : a.eval y = .agg cells)
    (t : TypeId) (old : Array Value) (hh : w.heap[g]? = some (.cells old t (0, 0))) (hi : (P.info? ty).map (·.size) = some cells.size) (hold : old.size = cells.size) (h1 : cells.all (·.oneCell') = true)
    (hK : K (a.put o.dst undef) (w.setRow g cells)) : if Region.wanted o (yielded ops a.tmps) = true then Oper.wp P o a w K Q else E := by
  have hw : Region.wanted o (yielded ops a.tmps) = true := by simp [Region.wanted, hg]
  rw [if_pos hw]
  exact wp_store_row ty x y ho g cells hx hy t old hh hi hold h1 hK
theorem Kl.setRow {L : List Nat} {w : World} {q : Nat} {cs : Array Value} (hq : q ∈ L) : Kl L w (w.setRow q cs) :=
  ⟨rfl, rfl, rfl, by simp, fun k _ hk => setRow_other w q k cs (fun e => hk (e ▸ hq))⟩
section
variable {w0 w w' : World} {b c wb now : Nat} {s : St} {l : List Whl.ItemN} {x : Pl} {g : Lo} {M : List Nat} {PP : World → Prop}
theorem Lx.setRow {q : Nat} {old : Array Value} {T : TypeId} (h : Lx w0 w b s c wb now l x g (q :: M) (fun W => W.heap[q]? = some (.cells old T) ∧ PP W)) (st : Stab M PP) (hq : q ∉ M) (cs : Array Value) :
    Lx w0 (w.setRow q cs) b s c wb now l x g (q :: M) (fun W => W.heap[q]? = some (.cells cs T) ∧ PP W) :=
  h.turn (Kl.setRow (by simp)) (stab_cons _ _ st) ⟨setRow_heap w q _ cs T _ h.pp.1, st w _ (by simp) (fun k hk => setRow_other w q k cs (fun e => hq (e ▸ hk))) h.pp.2⟩
theorem Lx.setRow2 {p q : Nat} {O : Obj} {old : Array Value} {T : TypeId} (h : Lx w0 w b s c wb now l x g (p :: q :: M) (fun W => W.heap[p]? = some O ∧ W.heap[q]? = some (.cells old T) ∧ PP W)) (st : Stab M PP) (hq : q ∉ M) (hp : p ≠ q) (cs : Array Value) :
    Lx w0 (w.setRow q cs) b s c wb now l x g (p :: q :: M) (fun W => W.heap[p]? = some O ∧ W.heap[q]? = some (.cells cs T) ∧ PP W) :=
  h.turn (Kl.setRow (by simp)) (stab_cons _ _ (stab_cons _ _ st)) ⟨(setRow_other w q p cs hp).trans h.pp.1, setRow_heap w q _ cs T _ h.pp.2.1, st w _ (by simp) (fun k hk => setRow_other w q k cs (fun e => hq (e ▸ hk))) h.pp.2.2⟩
theorem Lx.pushOp (h : Lx w0 w b s c wb now l x g M PP) (o : OpN) (hl : g.ops.length ≤ 100000) : ∃ p' cap' w8, (Builtin.append_ #[22, 22] 22 #[.slice x.op g.ops.length x.oc, .slice (some ⟨w.heap.size, 0, none⟩) 1 1]).run Tryz.prog (w.alloc (.cells (opC o) 31)).drew = .ok (.slice p' (g.ops.length + 1) cap') w8 ∧
    w8.heap[x.lb]? = w.heap[x.lb]? ∧ (∀ k ∈ M, w8.heap[k]? = w.heap[k]?) ∧ Lx w0 (w8.setCell ⟨x.lb, 2, none⟩ (.slice p' (g.ops.length + 1) cap')) b s c wb now l { x with op := p', oc := cap' } { g with ops := g.ops ++ [o] } M PP := by
  have H := h.lp
  have hap := H.apart
  have kv : Below w.heap.size w (w.alloc (.cells (opC o) 31)) := (Below.refl _ _).alloc (Nat.le_refl _) _
  obtain ⟨p', cap', w8, hrun, g2, g3, g4, g5, g6⟩ := push_run (ST := 22) Tryz.underlying22 infoOp (by rfl) (by omega) (by omega) (fun _ => rfl) opC_one (W := (w.alloc (.cells (opC o) 31)).drew) (H.ops.kept fun k hk => kv.block k (H.ops.lt k hk).2) hl (Nat.le_trans h.lw.bel.size kv.size) o (vb := w.heap.size) (Go.heap_alloc_new w _)
  have hold : ∀ k, k < w.heap.size → k ∉ rowOf x.op → w8.heap[k]? = w.heap[k]? := fun k e1 e2 => (g3 k (Nat.lt_of_lt_of_le e1 kv.size) e2).trans (kv.block k e1)
  have hlb := hold x.lb (lt_in H.box) hap.1.1
  have h8 := hlb.trans H.box
  refine ⟨p', cap', w8, hrun, hlb, fun k hk => hold k (h.lw.lt k (List.mem_append.2 (.inl hk))).2 fun e => h.far k hk (mem_ownL.2 (.inr (.inl e))), ?_⟩
  have hend : ∀ k, k < w.heap.size → k ∉ rowOf x.op → k ≠ x.lb → (w8.setCell ⟨x.lb, 2, none⟩ (.slice p' (g.ops.length + 1) cap')).heap[k]? = w.heap[k]? := fun k e1 e2 e3 => (heap_setCell_other _ _ _ _ e3).trans (hold k e1 e2)
  refine h.own (Kl.setCell ⟨g5.1.trans kv.os, g5.2.1.trans kv.tape, g5.2.2.trans kv.output, Nat.le_trans kv.size g4, fun k e1 e2 => hold k e1 fun e => e2 (mem_ownL.2 (.inr (.inl e)))⟩ (mem_ownL.2 (.inl rfl)) 2 _) ⟨?_, g2.kept fun k e => heap_setCell_other _ _ _ _ (fun e2 => ?_), H.rps.kept fun k e => hend k (H.rps.lt k e).2 (fun e2 => (hap.2.1 k e2).1 e) (fun e2 => hap.1.2.1 (e2 ▸ e)), H.req.kept (hend _ H.req.lt (fun e2 => (hap.2.1 _ e2).2.1 rfl) (fun e2 => hap.1.2.2.1 e2.symm)), H.rok,
    H.ver.kept (hend _ H.ver.lt.1 (fun e2 => (hap.2.1 _ e2).2.2.1 rfl) (fun e2 => hap.1.2.2.2.1 e2.symm)) (fun k e => hend k (H.ver.lt.2 k e).2 (fun e2 => (hap.2.1 k e2).2.2.2.1 e) (fun e2 => hap.1.2.2.2.2.1 (e2 ▸ e))), H.fir.kept fun k e => hend k (H.fir.lt k e).2 (fun e2 => (hap.2.1 k e2).2.2.2.2 e) (fun e2 => hap.1.2.2.2.2.2 (e2 ▸ e)), H.two⟩ (fun k e => ?_)
  · show _ = some (Obj.cells (logC _ _ b wb) _ _)
    rw [heap_setCell_same w8 x.lb 2 _ _ _ h8]
    simp [logC]
  · have e3 : k = x.lb := e2
    subst e3
    obtain ⟨cur, hc⟩ := g2.type _ e
    exact type_no h8 hc (by decide) rfl
  · rcases mem_ownL.1 e with e | e | e | e | e | e | e
    · exact .inl (mem_ownL.2 (.inl e))
    · rcases g6 k e with f | f
      · exact .inl (mem_ownL.2 (.inr (.inl f)))
      · exact .inr (by rw [f]; exact kv.size)
    · exact .inl (mem_ownL.2 (.inr (.inr (.inl e))))
    · exact .inl (mem_ownL.2 (.inr (.inr (.inr (.inl e)))))
    · exact .inl (mem_ownL.2 (.inr (.inr (.inr (.inr (.inl e))))))
    · exact .inl (mem_ownL.2 (.inr (.inr (.inr (.inr (.inr (.inl e)))))))
    · exact .inl (mem_ownL.2 (.inr (.inr (.inr (.inr (.inr (.inr e)))))))
theorem Lx.pushRp (h : Lx w0 w b s c wb now l x g M PP) (r : Rp) (hl : g.rps.length ≤ 100000) : ∃ p' cap' w8, (Builtin.append_ #[38, 38] 38 #[.slice x.rp g.rps.length x.rc, .slice (some ⟨w.heap.size, 0, none⟩) 1 1]).run Tryz.prog (w.alloc (.cells (rpC r) 34)).drew = .ok (.slice p' (g.rps.length + 1) cap') w8 ∧
    w8.heap[x.lb]? = w.heap[x.lb]? ∧ (∀ k ∈ M, w8.heap[k]? = w.heap[k]?) ∧ Lx w0 (w8.setCell ⟨x.lb, 3, none⟩ (.slice p' (g.rps.length + 1) cap')) b s c wb now l { x with rp := p', rc := cap' } { g with rps := g.rps ++ [r] } M PP := by
  have H := h.lp
  have hap := H.apart
  have kv : Below w.heap.size w (w.alloc (.cells (rpC r) 34)) := (Below.refl _ _).alloc (Nat.le_refl _) _
  obtain ⟨p', cap', w8, hrun, g2, g3, g4, g5, g6⟩ := push_run (ST := 38) Tryz.underlying38 infoRp (by rfl) (by omega) (by omega) (fun _ => rfl) rpC_one (W := (w.alloc (.cells (rpC r) 34)).drew) (H.rps.kept fun k hk => kv.block k (H.rps.lt k hk).2) hl (Nat.le_trans h.lw.bel.size kv.size) r (vb := w.heap.size) (Go.heap_alloc_new w _)
  have hold : ∀ k, k < w.heap.size → k ∉ rowOf x.rp → w8.heap[k]? = w.heap[k]? := fun k e1 e2 => (g3 k (Nat.lt_of_lt_of_le e1 kv.size) e2).trans (kv.block k e1)
  have hlb := hold x.lb (lt_in H.box) hap.1.2.1
  have h8 := hlb.trans H.box
  refine ⟨p', cap', w8, hrun, hlb, fun k hk => hold k (h.lw.lt k (List.mem_append.2 (.inl hk))).2 fun e => h.far k hk (mem_ownL.2 (.inr (.inr (.inl e)))), ?_⟩
  have hend : ∀ k, k < w.heap.size → k ∉ rowOf x.rp → k ≠ x.lb → (w8.setCell ⟨x.lb, 3, none⟩ (.slice p' (g.rps.length + 1) cap')).heap[k]? = w.heap[k]? := fun k e1 e2 e3 => (heap_setCell_other _ _ _ _ e3).trans (hold k e1 e2)
  refine h.own (Kl.setCell ⟨g5.1.trans kv.os, g5.2.1.trans kv.tape, g5.2.2.trans kv.output, Nat.le_trans kv.size g4, fun k e1 e2 => hold k e1 fun e => e2 (mem_ownL.2 (.inr (.inr (.inl e))))⟩ (mem_ownL.2 (.inl rfl)) 3 _) ⟨?_, H.ops.kept fun k e => hend k (H.ops.lt k e).2 (fun e2 => (hap.2.1 k e).1 e2) (fun e2 => hap.1.1 (e2 ▸ e)), g2.kept fun k e => heap_setCell_other _ _ _ _ (fun e2 => ?_), H.req.kept (hend _ H.req.lt (fun e2 => (hap.2.2.1 _ e2).1 rfl) (fun e2 => hap.1.2.2.1 e2.symm)), H.rok,
    H.ver.kept (hend _ H.ver.lt.1 (fun e2 => (hap.2.2.1 _ e2).2.1 rfl) (fun e2 => hap.1.2.2.2.1 e2.symm)) (fun k e => hend k (H.ver.lt.2 k e).2 (fun e2 => (hap.2.2.1 k e2).2.2.1 e) (fun e2 => hap.1.2.2.2.2.1 (e2 ▸ e))), H.fir.kept fun k e => hend k (H.fir.lt k e).2 (fun e2 => (hap.2.2.1 k e2).2.2.2 e) (fun e2 => hap.1.2.2.2.2.2 (e2 ▸ e)), H.two⟩ (fun k e => ?_)
  · show _ = some (Obj.cells (logC _ _ b wb) _ _)
    rw [heap_setCell_same w8 x.lb 3 _ _ _ h8]
    simp [logC]
  · have e3 : k = x.lb := e2
    subst e3
    obtain ⟨cur, hc⟩ := g2.type _ e
    exact type_no h8 hc (by decide) rfl
  · rcases mem_ownL.1 e with e | e | e | e | e | e | e
    · exact .inl (mem_ownL.2 (.inl e))
    · exact .inl (mem_ownL.2 (.inr (.inl e)))
    · rcases g6 k e with f | f
      · exact .inl (mem_ownL.2 (.inr (.inr (.inl f))))
      · exact .inr (by rw [f]; exact kv.size)
    · exact .inl (mem_ownL.2 (.inr (.inr (.inr (.inl e)))))
    · exact .inl (mem_ownL.2 (.inr (.inr (.inr (.inr (.inl e))))))
    · exact .inl (mem_ownL.2 (.inr (.inr (.inr (.inr (.inr (.inl e)))))))
    · exact .inl (mem_ownL.2 (.inr (.inr (.inr (.inr (.inr (.inr e)))))))
/-- keepRequest. -/
theorem Lx.keepReq (h : Lx w0 w b s c wb now l x g M PP) (o : OpN) (hn : g.ops.length ≤ 100000) (h1 : I64 o.client) (h2 : I64 o.req) :
    Calls Tryz.prog 32 #[.pointer (some ⟨x.lb, 0, none⟩), opV o] w fun e w' => e = .returned (.tuple #[]) ∧ Lx w0 w' b s c wb now l x { g with rt := addR g.rt o g.ops.length } M PP := by
  have H := h.lp
  have hap := H.apart
  refine (keepReq_any x.lb x.rq g.ops.length x.oc x.op o g.rt w (cell_in H.box 2) (cell_in H.box 4) H.req H.rok (lt_in H.box) hn h1 h2 hap.1.2.2.1).mono fun e w' ⟨he, k1, k2⟩ => ⟨he, h.own (k2.mono fun k hk => .inl (mem_ownL.2 (.inr (.inr (.inr (.inl (by simpa using hk))))))) ?_ fun k hk => .inl hk⟩
  have hk : ∀ k, k < w.heap.size → k ≠ x.rq → w'.heap[k]? = w.heap[k]? := fun k e1 e2 => k2.block k e1 (by simpa using e2)
  exact ⟨(hk _ (lt_in H.box) hap.1.2.2.1).trans H.box, H.ops.kept fun k e => hk k (H.ops.lt k e).2 (hap.2.1 k e).2.1, H.rps.kept fun k e => hk k (H.rps.lt k e).2 (hap.2.2.1 k e).1, k1, H.rok.add _ h1 h2, H.ver.kept (hk _ H.ver.lt.1 H.two.symm) (fun k e => hk k (H.ver.lt.2 k e).2 fun e2 => hap.2.2.2.1.1 (e2 ▸ e)), H.fir.kept fun k e => hk k (H.fir.lt k e).2 fun e2 => hap.2.2.2.1.2 (e2 ▸ e), H.two⟩
/-- keepFire. -/
theorem Lx.keepFire (h : Lx w0 w b s c wb now l x g M PP) (o : OpN) (r : Rp) (client : Int) (hn : g.ops.length ≤ 100000) (hl : g.fires.length ≤ 100000) :
    Calls Tryz.prog 34 #[.pointer (some ⟨x.lb, 0, none⟩), opV o, rpV r, .int .i64 client] w fun e w' => e = .returned (.tuple #[]) ∧ ∃ fp' fc', Lx w0 w' b s c wb now l { x with fp := fp', fc := fc' } { g with fires := g.fires ++ fireOf o r g.ops.length client } M PP := by
  have H := h.lp
  have hap := H.apart
  refine (keepFire_any x.lb g.ops.length x.oc w0.heap.size x.op x.fp x.fc g.fires (logC x g b wb) o r client w H.box rfl rfl H.fir hn hl h.lw.bel.size).mono fun e w' ⟨he, fp', fc', k1, k2, k3, k4⟩ => ⟨he, fp', fc', h.own (k3.mono fun k hk => ?_) ?_ fun k hk => ?_⟩
  · rcases List.mem_cons.1 hk with rfl | e2
    · exact .inl (mem_ownL.2 (.inl rfl))
    · exact .inl (mem_ownL.2 (.inr (.inr (.inr (.inr (.inr (.inr e2)))))))
  · have hk : ∀ k, k < w.heap.size → k ≠ x.lb → k ∉ rowOf x.fp → w'.heap[k]? = w.heap[k]? := fun k e1 e2 e3 => k3.block k e1 (by simp [e2, e3])
    refine ⟨k1, H.ops.kept fun k e => hk k (H.ops.lt k e).2 (fun e2 => hap.1.1 (e2 ▸ e)) (hap.2.1 k e).2.2.2.2, H.rps.kept fun k e => hk k (H.rps.lt k e).2 (fun e2 => hap.1.2.1 (e2 ▸ e)) (hap.2.2.1 k e).2.2.2, H.req.kept (hk _ H.req.lt (fun e2 => hap.1.2.2.1 e2.symm) hap.2.2.2.1.2), H.rok, H.ver.kept (hk _ H.ver.lt.1 (fun e2 => hap.1.2.2.2.1 e2.symm) hap.2.2.2.2.1.2) (fun k e => hk k (H.ver.lt.2 k e).2 (fun e2 => hap.1.2.2.2.2.1 (e2 ▸ e)) (hap.2.2.2.2.2 k e)), k2, H.two⟩
  · rcases mem_ownL.1 hk with e | e | e | e | e | e | e
    · exact .inl (mem_ownL.2 (.inl e))
    · exact .inl (mem_ownL.2 (.inr (.inl e)))
    · exact .inl (mem_ownL.2 (.inr (.inr (.inl e))))
    · exact .inl (mem_ownL.2 (.inr (.inr (.inr (.inl e)))))
    · exact .inl (mem_ownL.2 (.inr (.inr (.inr (.inr (.inl e))))))
    · exact .inl (mem_ownL.2 (.inr (.inr (.inr (.inr (.inr (.inl e)))))))
    · rcases k4 k e with f | f
      · exact .inl (mem_ownL.2 (.inr (.inr (.inr (.inr (.inr (.inr f)))))))
      · exact .inr f
end
end Go.Proofs.YtoihekgmomjhpaaGreatDoor
