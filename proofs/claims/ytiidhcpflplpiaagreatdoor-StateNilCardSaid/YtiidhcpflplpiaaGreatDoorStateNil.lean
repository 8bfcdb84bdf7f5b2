/-
  StateNil: a service that is none does nothing. No condition but what the card lists.
-/
import Derived.Test.YtiidhcpflplpiaaGreatDoorLift
import Derived.Test.YtiidhcpflplpiaaGreatDoorSB
/-
  Layer 8: an operation that is handed in, opened and shut again.
-/
set_option linter.unusedVariables false
namespace Go.Proofs.YtiidhcpflplpiaaGreatDoor
open Go.ChangeShapes Go.WideShapes Go.ChangeAt Go.RowKit Go.Joins Go.Deep Crn Ste
theorem cells30 : Tryz.prog.cellsOf 30 = 10 := by kernel_rfl
theorem cells9s : Tryz.prog.cellsOf 9 = 1 := by kernel_rfl
/-- An operation's numbers are int's, and its text is no longer than a text may be in memory. -/
structure OpIs (o : OpN) : Prop where
  kind : i64 o.kind
  client : i64 o.client
  req : i64 o.req
  id : i64 o.id
  gen : i64 o.gen
  occ : i64 o.occ
  due : i64 o.due
  stamp : i64 o.stamp
  epoch : i64 o.epoch
  cron : o.cron.size ≤ maxLen
def opD {H : Type} (o : OpN) : DataW H := .agg [.lit (.int .i64 o.kind), .lit (.int .i64 o.client), .lit (.int .i64 o.req), .lit (.int .i64 o.id), .lit (.int .i64 o.gen), .lit (.int .i64 o.occ), .lit (.int .i64 o.due), .lit (.int .i64 o.stamp), .lit (.int .i64 o.epoch), .lit (.string o.cron.data.toList)]
section
variable {H : Type} {enc : TypeId × Value → H} {w : World} {base : Nat} {spare : Nat → Bool} {held : Bool}
set_option maxRecDepth 100000 in
theorem open_op {r : Reach} {b0 : Nat} {v : Value} {d : DataW H} {p : List MemPlace} (hv : Value.okWide Tryz.prog w r b0 30 v) (h : DataW.Trod enc Tryz.prog w base spare held 30 v d p) :
    ∃ o : OpN, v = opV o ∧ d = opD o ∧ p = [] ∧ OpIs o := by
  obtain ⟨cs, rfl, hsz⟩ := okWide_struct Tryz.underlying30 hv
  obtain ⟨l⟩ := cs
  match l, hsz.trans cells30 with
  | [c0, c1, c2, c3, c4, c5, c6, c7, c8, c9], _ =>
    obtain ⟨fuel, hf⟩ := h
    obtain ⟨xs, n, _, hx, _, hlen, hg⟩ := DataW.trod_struct Tryz.underlying30 hf
    match xs, hlen with
    | [y0, y1, y2, y3, y4, y5, y6, y7, y8, y9], _ =>
      simp only [Prod.mk.injEq] at hx
      have g0 : DataW.trod enc Tryz.prog w base spare held n 3 [c0] = some y0 := by simpa [Value.cells, cells3, cells9s] using hg 0 _ rfl
      have g1 : DataW.trod enc Tryz.prog w base spare held n 3 [c1] = some y1 := by simpa [Value.cells, cells3, cells9s] using hg 1 _ rfl
      have g2 : DataW.trod enc Tryz.prog w base spare held n 3 [c2] = some y2 := by simpa [Value.cells, cells3, cells9s] using hg 2 _ rfl
      have g3 : DataW.trod enc Tryz.prog w base spare held n 3 [c3] = some y3 := by simpa [Value.cells, cells3, cells9s] using hg 3 _ rfl
      have g4 : DataW.trod enc Tryz.prog w base spare held n 3 [c4] = some y4 := by simpa [Value.cells, cells3, cells9s] using hg 4 _ rfl
      have g5 : DataW.trod enc Tryz.prog w base spare held n 3 [c5] = some y5 := by simpa [Value.cells, cells3, cells9s] using hg 5 _ rfl
      have g6 : DataW.trod enc Tryz.prog w base spare held n 3 [c6] = some y6 := by simpa [Value.cells, cells3, cells9s] using hg 6 _ rfl
      have g7 : DataW.trod enc Tryz.prog w base spare held n 3 [c7] = some y7 := by simpa [Value.cells, cells3, cells9s] using hg 7 _ rfl
      have g8 : DataW.trod enc Tryz.prog w base spare held n 3 [c8] = some y8 := by simpa [Value.cells, cells3, cells9s] using hg 8 _ rfl
      have g9 : DataW.trod enc Tryz.prog w base spare held n 9 [c9] = some y9 := by simpa [Value.cells, cells3, cells9s] using hg 9 _ rfl
      obtain ⟨n0, e0, rfl, w0⟩ := DataW.trod_int Tryz.underlying3 g0
      obtain ⟨n1, e1, rfl, w1⟩ := DataW.trod_int Tryz.underlying3 g1
      obtain ⟨n2, e2, rfl, w2⟩ := DataW.trod_int Tryz.underlying3 g2
      obtain ⟨n3, e3, rfl, w3⟩ := DataW.trod_int Tryz.underlying3 g3
      obtain ⟨n4, e4, rfl, w4⟩ := DataW.trod_int Tryz.underlying3 g4
      obtain ⟨n5, e5, rfl, w5⟩ := DataW.trod_int Tryz.underlying3 g5
      obtain ⟨n6, e6, rfl, w6⟩ := DataW.trod_int Tryz.underlying3 g6
      obtain ⟨n7, e7, rfl, w7⟩ := DataW.trod_int Tryz.underlying3 g7
      obtain ⟨n8, e8, rfl, w8⟩ := DataW.trod_int Tryz.underlying3 g8
      obtain ⟨s9, e9, rfl, w9⟩ := DataW.trod_string Tryz.underlying9 g9
      obtain rfl := (List.cons.inj e0).1
      obtain rfl := (List.cons.inj e1).1
      obtain rfl := (List.cons.inj e2).1
      obtain rfl := (List.cons.inj e3).1
      obtain rfl := (List.cons.inj e4).1
      obtain rfl := (List.cons.inj e5).1
      obtain rfl := (List.cons.inj e6).1
      obtain rfl := (List.cons.inj e7).1
      obtain rfl := (List.cons.inj e8).1
      obtain rfl := (List.cons.inj e9).1
      exact ⟨⟨n0, n1, n2, n3, n4, n5, n6, n7, n8, s9⟩, rfl, by simpa [opD] using hx.1, by simpa using hx.2, ⟨wf_i64 w0, wf_i64 w1, wf_i64 w2, wf_i64 w3, wf_i64 w4, wf_i64 w5, wf_i64 w6, wf_i64 w7, wf_i64 w8, w9⟩⟩
set_option maxRecDepth 100000 in
theorem shut_op {o : OpN} (ho : OpIs o) : DataW.Trod enc Tryz.prog w base spare held 30 (opV o) (opD o) [] := by
  obtain ⟨n0, t0⟩ := field_of_Trod (shut_int (enc := enc) (w := w) (base := base) (spare := spare) (held := held) Tryz.underlying3 (i64_wf ho.kind.1 ho.kind.2)) rfl
  obtain ⟨n1, t1⟩ := field_of_Trod (shut_int (enc := enc) (w := w) (base := base) (spare := spare) (held := held) Tryz.underlying3 (i64_wf ho.client.1 ho.client.2)) rfl
  obtain ⟨n2, t2⟩ := field_of_Trod (shut_int (enc := enc) (w := w) (base := base) (spare := spare) (held := held) Tryz.underlying3 (i64_wf ho.req.1 ho.req.2)) rfl
  obtain ⟨n3, t3⟩ := field_of_Trod (shut_int (enc := enc) (w := w) (base := base) (spare := spare) (held := held) Tryz.underlying3 (i64_wf ho.id.1 ho.id.2)) rfl
  obtain ⟨n4, t4⟩ := field_of_Trod (shut_int (enc := enc) (w := w) (base := base) (spare := spare) (held := held) Tryz.underlying3 (i64_wf ho.gen.1 ho.gen.2)) rfl
  obtain ⟨n5, t5⟩ := field_of_Trod (shut_int (enc := enc) (w := w) (base := base) (spare := spare) (held := held) Tryz.underlying3 (i64_wf ho.occ.1 ho.occ.2)) rfl
  obtain ⟨n6, t6⟩ := field_of_Trod (shut_int (enc := enc) (w := w) (base := base) (spare := spare) (held := held) Tryz.underlying3 (i64_wf ho.due.1 ho.due.2)) rfl
  obtain ⟨n7, t7⟩ := field_of_Trod (shut_int (enc := enc) (w := w) (base := base) (spare := spare) (held := held) Tryz.underlying3 (i64_wf ho.stamp.1 ho.stamp.2)) rfl
  obtain ⟨n8, t8⟩ := field_of_Trod (shut_int (enc := enc) (w := w) (base := base) (spare := spare) (held := held) Tryz.underlying3 (i64_wf ho.epoch.1 ho.epoch.2)) rfl
  obtain ⟨n9, t9⟩ := shut_string_cell (enc := enc) (w := w) (base := base) (spare := spare) (held := held) Tryz.underlying9 ho.cron
  replace t0 := DataW.trod_le (show n0 ≤ n0 + n1 + n2 + n3 + n4 + n5 + n6 + n7 + n8 + n9 by omega) t0
  replace t1 := DataW.trod_le (show n1 ≤ n0 + n1 + n2 + n3 + n4 + n5 + n6 + n7 + n8 + n9 by omega) t1
  replace t2 := DataW.trod_le (show n2 ≤ n0 + n1 + n2 + n3 + n4 + n5 + n6 + n7 + n8 + n9 by omega) t2
  replace t3 := DataW.trod_le (show n3 ≤ n0 + n1 + n2 + n3 + n4 + n5 + n6 + n7 + n8 + n9 by omega) t3
  replace t4 := DataW.trod_le (show n4 ≤ n0 + n1 + n2 + n3 + n4 + n5 + n6 + n7 + n8 + n9 by omega) t4
  replace t5 := DataW.trod_le (show n5 ≤ n0 + n1 + n2 + n3 + n4 + n5 + n6 + n7 + n8 + n9 by omega) t5
  replace t6 := DataW.trod_le (show n6 ≤ n0 + n1 + n2 + n3 + n4 + n5 + n6 + n7 + n8 + n9 by omega) t6
  replace t7 := DataW.trod_le (show n7 ≤ n0 + n1 + n2 + n3 + n4 + n5 + n6 + n7 + n8 + n9 by omega) t7
  replace t8 := DataW.trod_le (show n8 ≤ n0 + n1 + n2 + n3 + n4 + n5 + n6 + n7 + n8 + n9 by omega) t8
  replace t9 := DataW.trod_le (show n9 ≤ n0 + n1 + n2 + n3 + n4 + n5 + n6 + n7 + n8 + n9 by omega) t9
  have ts := trod_struct_mk (enc := enc) (w := w) (base := base) (spare := spare) (held := held) (n := n0 + n1 + n2 + n3 + n4 + n5 + n6 + n7 + n8 + n9) (cs := (opC o).toList) (xs := [(.lit (.int .i64 o.kind), []), (.lit (.int .i64 o.client), []), (.lit (.int .i64 o.req), []), (.lit (.int .i64 o.id), []), (.lit (.int .i64 o.gen), []), (.lit (.int .i64 o.occ), []), (.lit (.int .i64 o.due), []), (.lit (.int .i64 o.stamp), []), (.lit (.int .i64 o.epoch), []), (.lit (.string o.cron.data.toList), [])]) Tryz.underlying30 (by rw [cells30]; rfl) (
    by simp [cells3, cells9s, t0, t1, t2, t3, t4, t5, t6, t7, t8, t9])
  exact ⟨_, by simpa [opV, Value.cells, opD] using ts⟩
end
end Go.Proofs.YtiidhcpflplpiaaGreatDoor

set_option linter.unusedVariables false
namespace Go.Proofs.YtiidhcpflplpiaaGreatDoor.stateNil
open Go.ChangeShapes Go.WideShapes Go.ChangeAt Go.RowKit Crn Nxt Ste
open Go.ChangeMaps (open_string shut_string)

/-- The argument's variable, and nothing else turned. -/
structure HB (w W : World) (o : OpN) : Prop where
  b : Below w.heap.size w W
  op : W.heap[w.heap.size]? = some (opO o)
theorem HB.start (w : World) (o : OpN) : HB w (w.alloc (opO o)) o := ⟨(Below.refl _ _).alloc (Nat.le_refl _) _, Go.heap_alloc_new w _⟩
theorem HB.below {w W W2 : World} {o : OpN} (h : HB w W o) (k : Below W.heap.size W W2) : HB w W2 o :=
  ⟨h.b.trans (k.mono h.b.size), (k.block _ (Array.getElem?_eq_some_iff.1 h.op).1).trans h.op⟩
theorem HB.alloc {w W : World} {o : OpN} (h : HB w W o) (z : Obj) : HB w (W.alloc z) o := h.below ((Below.refl _ _).alloc (Nat.le_refl _) _)

theorem fieldRp (a b c : Value) (W : World) : Sem.run Tryz.prog (Instr.field 34 (.agg #[a, b, c]) 0) W = .ok a W := by
  simp [Instr.field, underlying, part, asAgg, Tryz.underlying34, Sem.run_bind, Result.andThen]

set_option maxRecDepth 100000 in
set_option maxHeartbeats 4000000 in
theorem walk (o : OpN) (w : World) (tb : Tab w) (nt : NTab w) :
    Calls Tryz.prog 6 #[opV o] w fun e w' => e = .returned (.bool true) ∧ Below w.heap.size w w' := by
  have cA := Lib.hid (fun W (h : Below w.heap.size w W) => awake_any W (tb.below h) (nt.below h))
  have c1 := Lib.hid get_nil
  have c2 := Lib.hid last_nil
  have c3 := Lib.hid (fun W => apply_nil o W)
  have c4 := Lib.hid list_nil
  have c5 := Lib.hid clients_nil
  have c6 := Lib.hid (fun W => fires_nil o W)
  have c7 := Lib.hid copy_nil
  have H0 := Lib.hid (HB.start w o)
  obtain ⟨p0, p1, p2, p3, p4, p5, p6, p7, p8, p9⟩ := op_cells H0.out.op
  have qF := fieldRp
  clear tb nt
  have c3' := c3
  obtain ⟨okind, oclient, oreq, oid, ogen, oocc, odue, ostamp, oepoch, ocron⟩ := o
  simp only [opV, opC, opO] at *
  unfold rpV at *
  go_enter Tryz.func6, Tryz.ntmps6
  go_wp2_with fail
  refine (c1.out _ _).mono ?_
  rintro e w2 ⟨rfl, k2⟩
  have H1 := Lib.hid ((H0.out.below k2).alloc (.cells #[.int .i64 0, .int .i64 0, .int .i64 0, .int .i64 0, .string ⟨#[]⟩] 37))
  obtain ⟨q0, q1, q2, q3, q4, q5, q6, q7, q8, q9⟩ := op_cells H1.out.op
  clear H0 k2 p0 p1 p2 p3 p4 p5 p6 p7 p8 p9
  simp only [] at q0 q1 q2 q3 q4 q5 q6 q7 q8 q9
  unfold zTm tmV at *
  go_wp2_with fail
  refine (c2.out _ _).mono ?_
  rintro e w3 ⟨rfl, k3⟩
  have H2 := Lib.hid ((H1.out.below k3).alloc (.cells #[.int .i64 0, .int .i64 0, .int .i64 0] 34))
  clear H1 k3 q0 q1 q2 q3 q4 q5 q6 q7 q8 q9
  go_wp2_with fail
  refine (cA.out _ H2.out.b).mono ?_
  rintro e w4 ⟨rfl, k4⟩
  have H3 := Lib.hid (H2.out.below k4)
  obtain ⟨q0, q1, q2, q3, q4, q5, q6, q7, q8, q9⟩ := op_cells H3.out.op
  simp only [] at q0 q1 q2 q3 q4 q5 q6 q7 q8 q9
  clear H2 k4
  go_wp2_with fail
  refine (c3'.out _).mono ?_
  rintro e w5 ⟨rfl, k5⟩
  have H4 := Lib.hid (H3.out.below k5)
  clear H3 k5 q0 q1 q2 q3 q4 q5 q6 q7 q8 q9
  obtain ⟨q0, q1, q2, q3, q4, q5, q6, q7, q8, q9⟩ := op_cells H4.out.op
  simp only [] at q0 q1 q2 q3 q4 q5 q6 q7 q8 q9
  go_wp2_with fail
  refine (c4.out _).mono ?_
  rintro e w6 ⟨rfl, rfl⟩
  go_wp2_with fail
  refine (c5.out _).mono ?_
  rintro e w7 ⟨rfl, rfl⟩
  go_wp2_with fail
  refine (c6.out _).mono ?_
  rintro e w8 ⟨rfl, k8⟩
  have H5 := Lib.hid (H4.out.below k8)
  clear k8 q0 q1 q2 q3 q4 q5 q6 q7 q8 q9 H4
  go_wp2_with fail
  refine (c7.out _).mono ?_
  rintro e w9 ⟨rfl, rfl⟩
  go_wp2_with fail
  go_ret
  exact ⟨rfl, H5.out.b⟩


set_option maxRecDepth 100000 in
theorem contract (H : Type) (enc : TypeId × Value → H) (W : World) (base : Nat) (args : Array Value) (ds gs : List (DataW H)) (before : List MemPlace)
    (hval : ∀ (j : Nat) t v, Tryz.f6.params[j]? = some t → args[j]? = some v → Value.okWide Tryz.prog W .any base t v)
    (hW : DataW.Whole enc Tryz.prog Tryz.f6.params.toList Rows.stateNilSpec.vars false W args.toList ds gs before) (hL : laidMetH Tryz.prog Rows.stateNilRow.laid W) (hS : W.ShapedOpen Tryz.prog) :
    Calls Tryz.prog 6 args W fun e W' => ∃ v, e = .returned v ∧ Rows.stateNilSpec.post enc Tryz.prog Tryz.f6 false true false false W args v W' := by
  have hW' := hW
  obtain ⟨p, q, hA0, hV, rfl, hfz, hnd⟩ := hW
  have hA : DataW.TrodAll enc Tryz.prog W 0 (fun _ => true) true Tryz.f6.params.toList args.toList ds p := hA0
  rw [Tryz.params6] at hA hval
  obtain ⟨v0, vs0, d0, ds0, p0, q0, hargs, rfl, rfl, h0, r0⟩ := trodAll_cons hA
  obtain ⟨rfl, rfl, rfl⟩ := trodAll_nil r0
  obtain rfl : args = #[v0] := by clear hL hS hW' hval; cases args; simp_all
  obtain ⟨rfl, rfl⟩ := trodVars_none hV
  obtain ⟨a0, rfl, rfl, rfl, w0⟩ := open_op (hval 0 30 v0 rfl rfl) h0
  clear hA0
  simp only [List.append_nil] at hW'
  refine (walk a0 W (table hL hS) (tables hL hS)).mono fun e W' ⟨he, hg⟩ => ?_
  subst he
  exact ⟨_, rfl, _, _, _, [], [], [], hW', trodAll_cons_mk (shut_bool Tryz.underlying4 _) trodAll_mk0, trodAll_cons_mk (shut_op w0) trodAll_mk0, rfl, hg.frame _, fun h => by cases h⟩

theorem reads (os : Os) {H : Type} (enc : TypeId × Value → H) : ∃ places, DataW.whole enc Tryz.prog ((laidWorld os).forCall (fun _ _ => 0) ⟨#[], #[.agg #[.int .i64 0, .int .i64 0, .int .i64 0, .int .i64 0, .int .i64 0, .int .i64 0, .int .i64 0, .int .i64 0, .int .i64 0, .string ByteArray.empty]], []⟩).memory Tryz.f6.params.toList Rows.stateNilSpec.vars false (#[.agg #[.int .i64 0, .int .i64 0, .int .i64 0, .int .i64 0, .int .i64 0, .int .i64 0, .int .i64 0, .int .i64 0, .int .i64 0, .string ByteArray.empty]] : Array Value).toList 8 = some ([.agg [.lit (.int .i64 0), .lit (.int .i64 0), .lit (.int .i64 0), .lit (.int .i64 0), .lit (.int .i64 0), .lit (.int .i64 0), .lit (.int .i64 0), .lit (.int .i64 0), .lit (.int .i64 0), .lit (.string [])]], [], places) :=
  ⟨[], by kernel_rfl⟩

set_option maxRecDepth 100000 in
theorem lifted (os : Os) (started : os.Started) (H : Type) (enc : TypeId × Value → H) (F : Stop.Interp) :
    ReturnsInHanded {} Tryz.checked os 6 .any ((OpenSpec.ofChange Rows.stateNilSpec).preRow enc Tryz.prog Tryz.f6 Rows.stateNilRow.domain false Rows.stateNilRow.laid) (((OpenSpec.ofChange Rows.stateNilSpec).at F).post enc Tryz.prog Tryz.f6 false true false false) := by
  obtain ⟨places, hx⟩ := reads os enc
  refine returnsInHanded_of_row (C := Tryz.checked) (s := OpenSpec.ofChange Rows.stateNilSpec) ownKb started (by kernel_rfl) Tryz.func6
    (witness_row_at (enc := enc) (C := Tryz.checked) false (laidWorld os) #[.agg #[.int .i64 0, .int .i64 0, .int .i64 0, .int .i64 0, .int .i64 0, .int .i64 0, .int .i64 0, .int .i64 0, .int .i64 0, .string ByteArray.empty]] (World.laidAll_os _ _ _) (by kernel_rfl) (by kernel_rfl) (by kernel_rfl)
      (OpenSpec.preRow_of_cond 8 hx (by kernel_rfl) (fun k hk => by cases hk) (by kernel_rfl) (laid_met os _))) ?_
  intro W base args ds gs before hval hW _ _ _ hL hS _
  exact contract H enc W base args ds gs before hval hW hL hS

theorem said : Rows.StateNilSaid :=
  OpenClaim.holds_of_cond 6 Tryz.f6 rfl rfl rfl rfl rfl rfl rfl ⟨rfl, rfl, rfl, rfl, rfl⟩ rfl rfl rfl rfl rfl (by kernel_rfl) Tryz.func6 (by kernel_rfl)
    (of_decide_eq_true (by kernel_rfl)) (by unfold Func.isWrapper; first | (rw [if_pos (by decide +kernel)]; kernel_rfl) | (rw [if_neg (by decide +kernel)]; exact ⟨rfl, rfl⟩))
    (fun os started H enc _ F => by rw [OpenClaim.pre_eq_preRow]; exact lifted os started H enc F)

theorem plain (f : FuncId) (fn : Func) (hf : Tryz.pinned.checked.prog.funcNamed "tompion/tompionlaw08.StateNil" = some f) (hfn : Tryz.pinned.checked.prog.funcs[f]? = some fn) :
    true = Tryz.pinned.checked.prog.looks [] ∧ ∀ (j : Nat) t, fn.params[j]? = some t → Tryz.pinned.checked.prog.wantsStandIn t = false := by
  obtain rfl : f = 6 := Option.some.inj ((show Tryz.prog.funcNamed "tompion/tompionlaw08.StateNil" = some 6 by kernel_rfl).symm.trans hf) |>.symm
  obtain rfl : fn = Tryz.f6 := (Option.some.inj (Tryz.func6.symm.trans hfn)).symm
  refine ⟨by kernel_rfl, fun j t ht => ?_⟩
  rw [Tryz.params6] at ht
  obtain rfl : t = 30 := by simpa using Array.mem_of_getElem? ht
  exact (show Tryz.prog.wantsStandIn 30 = false by kernel_rfl)

/-- The statement: the card, its tables tied to the program's text. -/
theorem proved : Rows.StateNilCardSaid :=
  Claim7.holds_tied_plain_at .later [] _ _ _ _ said (fun _ h => by cases h) (by kernel_rfl) (fun _ h => by cases h) stateNil_row_tie rfl ⟨rfl, rfl⟩ (by kernel_rfl) rfl plain (by kernel_rfl)
#print axioms proved
end Go.Proofs.YtiidhcpflplpiaaGreatDoor.stateNil
