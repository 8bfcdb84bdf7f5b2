/-
  OplogNil: a log that is none tells nothing, and refuses what is appended. No condition but what the card lists.
-/
import Derived.Test.YtoihekgmomjhpaaGreatDoorKN5
import Derived.Test.YtoihekgmomjhpaaGreatDoorKT1
import Derived.Test.YtoihekgmomjhpaaGreatDoorKO8
set_option linter.unusedVariables false
namespace Go.Proofs.YtoihekgmomjhpaaGreatDoor.oplogNil
open Go.ChangeShapes Go.WideShapes Go.ChangeAt Go.RowKit Go.MapKept Crn Nxt Ste
open Go.ChangeMaps (open_string shut_string)

/-- The argument's variable, and nothing else turned. -/
structure HB (w W : World) (o : OpN) : Prop where
  b : Below w.heap.size w W
  op : W.heap[w.heap.size]? = some (opO o)
theorem HB.start (w : World) (o : OpN) : HB w (w.alloc (opO o)) o := ⟨(Below.refl _ _).alloc (Nat.le_refl _) _, Go.heap_alloc_new w _⟩
theorem HB.below {w W W2 : World} {o : OpN} (h : HB w W o) (k : Below W.heap.size W W2) : HB w W2 o :=
  ⟨h.b.trans (k.mono h.b.size), (k.block _ (Array.getElem?_eq_some_iff.1 h.op).1).trans h.op⟩
theorem HB.alloc {w W : World} {o : OpN} (h : HB w W o) (z : Obj) : HB w (W.alloc z) o := h.below ((Below.refl _ _).alloc (Nat.le_refl _) _)

set_option maxRecDepth 100000 in
set_option maxHeartbeats 4000000 in
theorem walk (o : OpN) (seq : Int) (hseq : i64 seq) (w : World) (tb : Tab w) (nt : NTab w) :
    Calls Tryz.prog 5 #[opV o, .int .i64 seq] w fun e w' => e = .returned (.bool true) ∧ Below w.heap.size w w' := by
  have cA := Lib.hid (fun W (h : Below w.heap.size w W) => awake_any W (tb.below h) (nt.below h))
  have c1 := Lib.hid (fun W => appendNil W o)
  have c2 := Lib.hid (fun W => opNil W seq)
  have c3 := Lib.hid (fun W => replyNil W seq)
  have c4 := Lib.hid (fun W => requestNil W seq seq)
  have c5 := Lib.hid (fun W => firesNil W seq 0 seq seq)
  have c6 := Lib.hid lenNil
  have c7 := Lib.hid (fun W => readNil W seq seq)
  have c8 := Lib.hid (fun W => newestNil W seq)
  have c9 := Lib.hid (fun W => dueNil W seq 5)
  have c10 := Lib.hid (fun W => fromNil W seq 5)
  have c11 := Lib.hid timersNil
  have H0 := Lib.hid (HB.start w o)
  obtain ⟨p0, p1, p2, p3, p4, p5, p6, p7, p8, p9⟩ := op_cells H0.out.op
  have qF := fieldRp9
  clear tb nt
  obtain ⟨okind, oclient, oreq, oid, ogen, oocc, odue, ostamp, oepoch, ocron⟩ := o
  simp only [opV, opC, opO] at *
  unfold rpV at *
  go_enter Tryz.func5, Tryz.ntmps5
  go_wp2_with fail
  refine (c1.out _).mono ?_
  rintro e w2 ⟨rfl, k2⟩
  have H1 := Lib.hid ((H0.out.below k2).alloc (.cells #[.int .i64 0, .int .i64 0, .int .i64 0] 34))
  clear H0 k2 p0 p1 p2 p3 p4 p5 p6 p7 p8 p9 c1
  go_wp2_with fail
  refine (c2.out _).mono ?_
  rintro e w3 ⟨rfl, k3⟩
  have H2 := Lib.hid ((H1.out.below k3).alloc (.cells #[.int .i64 0, .int .i64 0, .int .i64 0, .int .i64 0, .int .i64 0, .int .i64 0, .int .i64 0, .int .i64 0, .int .i64 0, .string ⟨#[]⟩] 31))
  clear H1 k3 c2
  go_wp2_with fail
  refine (c3.out _).mono ?_
  rintro e w4 ⟨rfl, k4⟩
  have H3 := Lib.hid ((H2.out.below k4).alloc (.cells #[.int .i64 0, .int .i64 0, .int .i64 0] 34))
  clear H2 k4 c3
  go_wp2_with fail
  refine (c4.out _).mono ?_
  rintro e w5 ⟨rfl, h5⟩
  subst h5
  go_wp2_with fail
  refine (c5.out _).mono ?_
  rintro e w6 ⟨rfl, k6⟩
  have H4 := Lib.hid (H3.out.below k6)
  clear H3 k6 c5 c4
  go_wp2_with fail
  refine (cA.out _ H4.out.b).mono ?_
  rintro e w7 ⟨rfl, k7⟩
  have H5 := Lib.hid (H4.out.below k7)
  clear H4 k7 cA
  go_wp2_with fail
  refine (c6.out _).mono ?_
  rintro e w8 ⟨rfl, h8⟩
  subst h8
  go_wp2_with fail
  refine (c7.out _).mono ?_
  rintro e w9 ⟨rfl, k9⟩
  have H6 := Lib.hid (H5.out.below k9)
  clear H5 k9 c7 c6
  go_wp2_with fail
  refine (c8.out _).mono ?_
  rintro e w10 ⟨rfl, h10⟩
  subst h10
  go_wp2_with fail
  refine (c9.out _).mono ?_
  rintro e w11 ⟨rfl, h11⟩
  subst h11
  go_wp2_with fail
  refine (c10.out _).mono ?_
  rintro e w12 ⟨rfl, h12⟩
  subst h12
  go_wp2_with fail
  refine (c11.out _).mono ?_
  rintro e w13 ⟨rfl, h13⟩
  subst h13
  go_wp2_with fail
  go_ret
  exact ⟨rfl, H6.out.b⟩


set_option maxRecDepth 100000 in
theorem contract (H : Type) (enc : TypeId × Value → H) (W : World) (base : Nat) (args : Array Value) (ds gs : List (DataW H)) (before : List MemPlace)
    (hval : ∀ (j : Nat) t v, Tryz.f5.params[j]? = some t → args[j]? = some v → Value.okWide Tryz.prog W .any base t v)
    (hW : DataW.Whole enc Tryz.prog Tryz.f5.params.toList Rows.oplogNilSpec.vars false W args.toList ds gs before) (hL : laidMetH Tryz.prog Rows.oplogNilRow.laid W) (hS : W.ShapedOpen Tryz.prog) :
    Calls Tryz.prog 5 args W fun e W' => ∃ v, e = .returned v ∧ Rows.oplogNilSpec.post enc Tryz.prog Tryz.f5 false true false false W args v W' := by
  have hW' := hW
  obtain ⟨p, q, hA0, hV, rfl, hfz, hnd⟩ := hW
  have hA : DataW.TrodAll enc Tryz.prog W 0 (fun _ => true) true Tryz.f5.params.toList args.toList ds p := hA0
  rw [Tryz.params5] at hA hval
  obtain ⟨v0, vs0, d0, ds0, p0, q0, hargs, rfl, rfl, h0, r0⟩ := trodAll_cons hA
  obtain ⟨v1, vs1, d1, ds1, p1, q1, rfl, rfl, rfl, h1, r1⟩ := trodAll_cons r0
  obtain ⟨rfl, rfl, rfl⟩ := trodAll_nil r1
  obtain rfl : args = #[v0, v1] := by clear hL hS hW' hval; cases args; simp_all
  obtain ⟨rfl, rfl⟩ := trodVars_none hV
  obtain ⟨a0, rfl, rfl, rfl, w0⟩ := open_op (hval 0 31 v0 rfl rfl) h0
  obtain ⟨a1, rfl, rfl, rfl, w1⟩ := open_int Tryz.underlying3 (hval 1 3 v1 rfl rfl) h1
  clear hA0
  simp only [List.append_nil] at hW'
  refine (walk a0 a1 (wf_i64 w1) W (table hL hS) (tables hL hS)).mono fun e W' ⟨he, hg⟩ => ?_
  subst he
  exact ⟨_, rfl, _, _, _, [], [], [], hW', trodAll_cons_mk (shut_bool Tryz.underlying4 _) trodAll_mk0, trodAll_cons_mk (shut_op w0) (trodAll_cons_mk (shut_int Tryz.underlying3 w1) trodAll_mk0), rfl, hg.frame _, fun h => by cases h⟩

theorem reads (os : Os) {H : Type} (enc : TypeId × Value → H) : ∃ places, DataW.whole enc Tryz.prog ((laidWorld os).forCall (fun _ _ => 0) ⟨#[], #[.agg #[.int .i64 0, .int .i64 0, .int .i64 0, .int .i64 0, .int .i64 0, .int .i64 0, .int .i64 0, .int .i64 0, .int .i64 0, .string ByteArray.empty], .int .i64 0], []⟩).memory Tryz.f5.params.toList Rows.oplogNilSpec.vars false (#[.agg #[.int .i64 0, .int .i64 0, .int .i64 0, .int .i64 0, .int .i64 0, .int .i64 0, .int .i64 0, .int .i64 0, .int .i64 0, .string ByteArray.empty], .int .i64 0] : Array Value).toList 8 = some ([.agg [.lit (.int .i64 0), .lit (.int .i64 0), .lit (.int .i64 0), .lit (.int .i64 0), .lit (.int .i64 0), .lit (.int .i64 0), .lit (.int .i64 0), .lit (.int .i64 0), .lit (.int .i64 0), .lit (.string [])], .lit (.int .i64 0)], [], places) :=
  ⟨[], by kernel_rfl⟩

set_option maxRecDepth 100000 in
theorem lifted (os : Os) (started : os.Started) (H : Type) (enc : TypeId × Value → H) (F : Stop.Interp) :
    ReturnsInHanded {} Tryz.checked os 5 .any ((OpenSpec.ofChange Rows.oplogNilSpec).preRow enc Tryz.prog Tryz.f5 Rows.oplogNilRow.domain false Rows.oplogNilRow.laid) (((OpenSpec.ofChange Rows.oplogNilSpec).at F).post enc Tryz.prog Tryz.f5 false true false false) := by
  obtain ⟨places, hx⟩ := reads os enc
  refine returnsInHanded_of_row (C := Tryz.checked) (s := OpenSpec.ofChange Rows.oplogNilSpec) ownKb started (by kernel_rfl) Tryz.func5
    (witness_row_at (enc := enc) (C := Tryz.checked) false (laidWorld os) #[.agg #[.int .i64 0, .int .i64 0, .int .i64 0, .int .i64 0, .int .i64 0, .int .i64 0, .int .i64 0, .int .i64 0, .int .i64 0, .string ByteArray.empty], .int .i64 0] (World.laidAll_os _ _ _) (by kernel_rfl) (by kernel_rfl) (by kernel_rfl)
      (OpenSpec.preRow_of_cond 8 hx (by kernel_rfl) (fun k hk => by cases hk) (by kernel_rfl) (laid_met os _))) ?_
  intro W base args ds gs before hval hW _ _ _ hL hS _
  exact contract H enc W base args ds gs before hval hW hL hS

theorem said : Rows.OplogNilSaid :=
  OpenClaim.holds_of_cond 5 Tryz.f5 rfl rfl rfl rfl rfl rfl rfl ⟨rfl, rfl, rfl, rfl, rfl⟩ rfl rfl rfl rfl rfl (by kernel_rfl) Tryz.func5 (by kernel_rfl)
    (of_decide_eq_true (by kernel_rfl)) (by unfold Func.isWrapper; first | (rw [if_pos (by decide +kernel)]; kernel_rfl) | (rw [if_neg (by decide +kernel)]; exact ⟨rfl, rfl⟩))
    (fun os started H enc _ F => by rw [OpenClaim.pre_eq_preRow]; exact lifted os started H enc F)

theorem plain (f : FuncId) (fn : Func) (hf : Tryz.pinned.checked.prog.funcNamed "tompion/tompionlaw09.OplogNil" = some f) (hfn : Tryz.pinned.checked.prog.funcs[f]? = some fn) :
    false = Tryz.pinned.checked.prog.looks [] ∧ ∀ (j : Nat) t, fn.params[j]? = some t → Tryz.pinned.checked.prog.wantsStandIn t = false := by
  obtain rfl : f = 5 := Option.some.inj ((show Tryz.prog.funcNamed "tompion/tompionlaw09.OplogNil" = some 5 by kernel_rfl).symm.trans hf) |>.symm
  obtain rfl : fn = Tryz.f5 := (Option.some.inj (Tryz.func5.symm.trans hfn)).symm
  refine ⟨by kernel_rfl, fun j t ht => ?_⟩
  rw [Tryz.params5] at ht
  have hm := Array.mem_of_getElem? ht
  simp at hm
  replace hm : t = 31 ∨ t = 3 := by first | (rcases hm with e | e | e <;> simp [e]) | (rcases hm with e | e <;> simp [e])
  rcases hm with rfl | rfl
  · exact (show Tryz.prog.wantsStandIn 31 = false by kernel_rfl)
  · exact (show Tryz.prog.wantsStandIn 3 = false by kernel_rfl)

/-- The statement: the card, its tables tied to the program's text. -/
theorem proved : Rows.OplogNilCardSaid :=
  Claim7.holds_tied_plain_at .later [] _ _ _ _ said (fun _ h => by cases h) (by kernel_rfl) (fun _ h => by cases h) oplogNil_row_tie rfl ⟨rfl, rfl⟩ (by kernel_rfl) rfl plain (by kernel_rfl)
#print axioms proved
end Go.Proofs.YtoihekgmomjhpaaGreatDoor.oplogNil
