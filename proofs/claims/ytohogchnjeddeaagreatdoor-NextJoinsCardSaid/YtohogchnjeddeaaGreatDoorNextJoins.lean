/-
  NextJoins: the times between two seconds are those up to a third one between, and those behind it. No condition but what the card lists.
-/
import Derived.Test.YtohogchnjeddeaaGreatDoorLift
import Derived.Deep.DeepCutAuto
import Derived.Deep.RegionHeld3
import Derived.Maps.AppendAt
import Derived.Deep.QuietTactic
import Derived.BigQuiet
set_option linter.unusedVariables false
namespace Go.Proofs.YtohogchnjeddeaaGreatDoor.nextJoins
open Go.ChangeShapes Go.WideShapes Go.ChangeAt Go.RowKit Crn Nxt Civ
open Go.ChangeMaps (open_string shut_string)

/-- A slice of numbers as it is read. -/
def Lst (W : World) (p : Option Addr) (L : List Int) : Prop := ∀ i (hi : i < L.length), ∃ g, p = some ⟨g, 0, none⟩ ∧ W.cell? ⟨g, i, none⟩ = some (.int .i64 L[i])
theorem Lst.step {W W2 : World} {p : Option Addr} {L : List Int} (h : Lst W p L) (k : Below W.heap.size W W2) : Lst W2 p L := fun i hi => by
  obtain ⟨g, hg, hc⟩ := h i hi
  exact ⟨g, hg, (k.cell (p := ⟨g, i, none⟩) (show g < W.heap.size from World.block_lt_of_cell? W _ hc)).trans hc⟩

/-- One's own row, and another slice of numbers behind it. -/
theorem join_run {W : World} {base : Nat} {v1 : Value} {l1 l2 : List Int} {base2 : Nat} {v2 : Value} (h1 : Ints base W v1 l1) (h2 : Ints base2 W v2 l2) (hc1 : l1.length ≤ 10000) (hc2 : l2.length ≤ 10000) (hb : base ≤ W.heap.size) (ty : TypeId) :
    ∃ v w', (Builtin.append_ #[31, 31] ty #[v1, v2]).run Tryz.prog W = .ok v w' ∧ Ints base w' v (l1 ++ l2) ∧ W.grownBy w' v1.ownBlock := by
  obtain ⟨i0, hi, hz0, hz1, hz2⟩ := info_parts Tryz.info3
  have e : intsOf (l1 ++ l2) = intsOf l1 ++ intsOf l2 := by simp [intsOf]
  rcases h2.2 with ⟨e1, e2⟩ | ⟨g, cap, cur, e1, hg, hgq, hrest⟩
  · have hl2 : l2 = [] := List.length_eq_zero_iff.1 e2
    subst hl2
    subst e1
    refine ⟨v1, W, ?_, by rw [List.append_nil]; exact h1, World.grownBy.refl W _⟩
    rcases h1.2 with ⟨rfl, _⟩ | ⟨g, cap, cur, rfl, _, _, hnc, _⟩
    · simp [Builtin.append_, run_underlying Tryz.underlying31, sizeOf, typeInfo, hi, Builtin.lenOf, Builtin.firstCells]
    · simp [Builtin.append_, run_underlying Tryz.underlying31, sizeOf, typeInfo, hi, Builtin.lenOf, Builtin.firstCells, hnc, storeCells]
  · subst e1
    have hcells : ∀ j u, (intsOf l2)[j]? = some u → W.cell? ((⟨g, 0, none⟩ : Addr).add j) = some u := fun j u hu => World.ownsRow.cells (g := g) h2 rfl j u hu
    obtain ⟨v', w', hrun, r2, r3, _, _⟩ := run_append_own_at (P := Tryz.prog) W base 31 ty 3 i0 (.int .i64 0) 1 8 Tryz.underlying31 hi hz0 hz1 hz2 rfl (by decide) v1 l1.length (intsOf l1) h1 ⟨g, 0, none⟩ l2.length cap (intsOf l2) (by rw [intsOf_len]; omega) hcells (fun u hu => by simp only [intsOf, List.mem_map] at hu; obtain ⟨z, _, rfl⟩ := hu; rfl) (by unfold maxLen; omega) (by omega) hb
    exact ⟨v', w', hrun, by unfold Ints; rw [e, List.length_append]; exact r2, r3⟩

theorem Ints.low {base b0 : Nat} {w : World} {v : Value} {l : List Int} (h : Ints base w v l) (hb : b0 ≤ base) : Ints b0 w v l := by
  refine ⟨h.1, ?_⟩
  rcases h.2 with g | ⟨q, cap, cur, e, hq, rest⟩
  · exact Or.inl g
  · exact Or.inr ⟨q, cap, cur, e, by omega, rest⟩
/-- append at its place in a region that draws, its run known. -/
theorem step_run {w : World} {ops : Array Oper} {o : Oper} {a : Act} {K : Act → World → Prop} {Q : Exit → Act → World → Prop} {E : Prop} {v1 v2 v : Value} {w' : World} (hgd : o.guard = none) (s x : Operand) (t : TypeId)
    (ho : o.op = .call { callee := .builtin .append, args := #[s, x], argTypes := #[t, t] }) (hs : a.eval s = v1) (hx : a.eval x = v2) (hrun : (Builtin.append_ #[t, t] o.type #[v1, v2]).run Tryz.prog w = .ok v w') (h : K (a.put o.dst v) w') :
    if Region.wanted o (yielded ops a.tmps) = true then Oper.wp Tryz.prog o a w K Q else E := by
  have hw : Region.wanted o (yielded ops a.tmps) = true := by simp [Region.wanted, hgd]
  rw [if_pos hw]
  unfold Oper.wp execOp
  simp only [ho, resolve, invoke, builtin, Sem.run_bind, Sem.run_pure, Result.andThen_ok, List.map_toArray, List.map_cons, List.map_nil, hs, hx, hrun]
  exact h
theorem arm_two {w3 w6 w7 : World} {v1 v2 : Value} {l1 l2 : List Int} {B2 : Nat} (hb : Below w3.heap.size w3 w6) (i1 : Ints (w3.drew.heap.size + 1) w6 v1 l1) (k7 : Below w6.heap.size w6 w7) (i2 : Ints B2 w7 v2 l2) (hc1 : l1.length ≤ 10000) (hc2 : l2.length ≤ 10000) :
    ∃ v8 w8, (Builtin.append_ #[31, 31] 31 #[v1, v2]).run Tryz.prog w7 = .ok v8 w8 ∧ Ints w3.heap.size w8 v8 (l1 ++ l2) ∧ Below w3.heap.size w3 w7 ∧ Below w3.heap.size w3 w8 := by
  have e : w3.drew.heap.size = w3.heap.size := rfl
  rw [e] at i1
  have h7 : Below w3.heap.size w3 w7 := hb.trans (k7.mono hb.size)
  have i1' : Ints w3.heap.size w7 v1 l1 := Ints.low (base := w3.heap.size + 1) (own_step i1 k7) (by omega)
  obtain ⟨v8, w8, hrun, i8, g8⟩ := join_run i1' i2 hc1 hc2 h7.size 31
  exact ⟨v8, w8, hrun, i8, h7, h7.trans ((Below.refl _ _).grown g8 h7.size (fun k hk => (World.ownsRow.lt i1' k hk).1))⟩
theorem dN {B : Nat} {a w : World} (h : Below B a w) (n : Nat) : Below B a (w.drewN n) := h.trans ⟨rfl, rfl, rfl, Nat.le_refl _, fun _ _ => rfl⟩
theorem Lst.drew {W : World} {p : Option Addr} {L : List Int} (h : Lst W p L) (n : Nat) : Lst (W.drewN n) p L := h.step (dN (Below.refl _ _) n)

set_option maxRecDepth 100000 in
set_option maxHeartbeats 2000000 in
theorem walk (x : SpecN) (hx : Fits x) (fr : Int) (hw : (Lit.int .i64 fr).wf = true) (a0 : Int) (hw2 : (Lit.int .i64 a0).wf = true) (b0 : Int) (hw3 : (Lit.int .i64 b0).wf = true) (w : World) (tb : Tab w) (nt : NTab w) :
    Calls Tryz.prog 9 #[specV x, .int .i64 fr, .int .i64 a0, .int .i64 b0] w fun e w' => e = .returned (.bool true) ∧ Below w.heap.size w w' := by
  obtain ⟨U1, hU1⟩ : ∃ U : Nat, IntKind.u64.wrap fr = (U : Int) := ⟨(IntKind.u64.wrap fr).toNat, by rw [IntKind.wrap_u64]; omega⟩
  obtain ⟨U2, hU2⟩ : ∃ U : Nat, IntKind.u64.wrap a0 = (U : Int) := ⟨(IntKind.u64.wrap a0).toNat, by rw [IntKind.wrap_u64]; omega⟩
  obtain ⟨U3, hU3⟩ : ∃ U : Nat, IntKind.u64.wrap b0 = (U : Int) := ⟨(IntKind.u64.wrap b0).toNat, by rw [IntKind.wrap_u64]; omega⟩
  obtain ⟨F, hF⟩ : ∃ F : Nat, (U1 : Int) % 2000000000 = (F : Int) := ⟨U1 % 2000000000, by omega⟩
  obtain ⟨A, hA⟩ : ∃ A : Nat, (U2 : Int) % 200000 = (A : Int) := ⟨U2 % 200000, by omega⟩
  obtain ⟨C, hC⟩ : ∃ C : Nat, (U3 : Int) % 200000 = (C : Int) := ⟨U3 % 200000, by omega⟩
  obtain ⟨M, hM⟩ : ∃ M : Nat, (F : Int) + (A : Int) = (M : Int) := ⟨F + A, by omega⟩
  obtain ⟨T, hT⟩ : ∃ T : Nat, (M : Int) + (C : Int) = (T : Int) := ⟨M + C, by omega⟩
  obtain ⟨M1, hM1⟩ : ∃ M1 : Nat, (M : Int) + 1 = (M1 : Int) := ⟨M + 1, by omega⟩
  have f1 : (F : Int) < 2000000000 := by omega
  have f2 : (A : Int) < 200000 := by omega
  have f3 : (C : Int) < 200000 := by omega
  have f4 : (M : Int) < 2000300000 := by omega
  have f5 : (T : Int) < 2000500000 := by omega
  have Cw := Lib.hid (fun W h1 h2 => awake_any W h1 h2)
  have full : ∀ (p q : Int), q - p ≤ 400000 → (allN x p q).length ≤ 7000 := fun p q h => by
    have := allN_count x p q
    omega
  have k0 := full F T (by omega)
  have k1 := full F M (by omega)
  have k2 := full M1 T (by omega)
  have c0 := Lib.hid (fun W h1 h2 => between_any x hx F T 10000 (by omega) (by omega) (by omega) (by omega) (by omega) (by omega) W h1 h2)
  have c1 := Lib.hid (fun W h1 h2 => between_any x hx F M 10000 (by omega) (by omega) (by omega) (by omega) (by omega) (by omega) W h1 h2)
  have c2 := Lib.hid (fun W h1 h2 => between_any x hx M1 T 10000 (by omega) (by omega) (by omega) (by omega) (by omega) (by omega) W h1 h2)
  have eT : (10000 : Int).toNat = 10000 := rfl
  rw [eT, List.take_of_length_le (by omega)] at c0 c1 c2
  have hsplit : Hid (allN x F T = allN x F M ++ allN x M1 T) := by
    rw [← hM1]
    exact allN_split x (by omega) (by omega)
  generalize allN x F T = L at *
  generalize allN x F M = L1 at *
  generalize allN x M1 T = L2 at *
  clear hw hw2 hw3 full eT
  obtain ⟨x0, x1, x2, x3, x4, x5, x6, x7⟩ := x
  simp only [specV, cellsN] at *
  have t1 := Lib.hid (tb.alloc (.cells #[.int .u64 x0, .int .u64 x1, .int .u64 x2, .int .u64 x3, .int .u64 x4, .bool x5, .bool x6, .int .i64 x7] 24))
  have n1 := Lib.hid (nt.alloc (.cells #[.int .u64 x0, .int .u64 x1, .int .u64 x2, .int .u64 x3, .int .u64 x4, .bool x5, .bool x6, .int .i64 x7] 24))
  have B1 := Lib.hid (Box.start w x0 x1 x2 x3 x4 x5 x6 x7)
  have b1 := Lib.hid ((Below.refl w.heap.size w).alloc (Nat.le_refl _) (.cells #[.int .u64 x0, .int .u64 x1, .int .u64 x2, .int .u64 x3, .int .u64 x4, .bool x5, .bool x6, .int .i64 x7] 24))
  clear tb nt hx
  go_enter Tryz.func9, Tryz.ntmps9
  go_wp2_with fail
  clear hU1 hU2 hU3 hF hA hC hM hT
  refine (Cw.out _ t1.out n1.out).mono ?_
  rintro e w2 ⟨rfl, g⟩
  have t2 := Lib.hid (t1.out.below g)
  have n2 := Lib.hid (n1.out.below g)
  have B2 := Lib.hid (B1.out.step g)
  have b2 := Lib.hid (b1.out.trans (g.mono b1.out.size))
  clear g t1 n1 B1 b1
  obtain ⟨q0, q1, q2, q3, q4, q5, q6, q7⟩ := B2.out.all
  go_wp2_with fail
  refine (c0.out _ t2.out n2.out).mono ?_
  rintro e w3 ⟨⟨v, rfl, hi⟩, g⟩
  have t3 := Lib.hid (t2.out.below g)
  have n3 := Lib.hid (n2.out.below g)
  have B3 := Lib.hid (B2.out.step g)
  have b3 := Lib.hid (b2.out.trans (g.mono b2.out.size))
  obtain ⟨p, cap, rfl, hl⟩ := ints_any hi
  have L3 : Hid (Lst w3 p L) := hl
  clear g t2 n2 B2 b2 c0 q0 q1 q2 q3 q4 q5 q6 q7 hi hl
  have hbl : Hid (w.heap.size < w3.heap.size) := World.block_lt_of_cell? _ _ B3.out.c0
  have hS : Hid (∀ W, Below w3.heap.size w3 W → Box w.heap.size W x0 x1 x2 x3 x4 x5 x6 x7) := fun W k => B3.out.step k
  have hcA := (hS.out _ (Below.refl _ _)).all
  have hcB := (hS.out w3.drew (Below.refl _ _).drew).all
  have hb : Hid (Below w3.heap.size w3 w3.drew) := (Below.refl _ _).drew
  have hw1 : IntKind.i64.wrap (M1 : Int) = (M1 : Int) := IntWalk.i64_in _ (by omega)
  have len1 : Hid (L1.length ≤ 10000) := by unfold Hid; omega
  have len2 : Hid (L2.length ≤ 10000) := by unfold Hid; omega
  go_upto_region 7 with fail
  go_cut [12] (fun v wc => ∃ p2 cap2, v = .slice p2 L.length cap2 ∧ Hid (Lst wc p2 L) ∧ Hid (Lst wc p L) ∧ Hid (Below w.heap.size w wc))
  case first =>
    go_region_held3 (fun w' => w'.cell? ⟨w.heap.size, 0, none⟩ = some (.int .u64 x0) ∧ w'.cell? ⟨w.heap.size, 1, none⟩ = some (.int .u64 x1) ∧ w'.cell? ⟨w.heap.size, 2, none⟩ = some (.int .u64 x2) ∧ w'.cell? ⟨w.heap.size, 3, none⟩ = some (.int .u64 x3) ∧ w'.cell? ⟨w.heap.size, 4, none⟩ = some (.int .u64 x4) ∧ w'.cell? ⟨w.heap.size, 5, none⟩ = some (.bool x5) ∧ w'.cell? ⟨w.heap.size, 6, none⟩ = some (.bool x6) ∧ w'.cell? ⟨w.heap.size, 7, none⟩ = some (.int .i64 x7)) (first | (with_reducible exact hc8) | (with_reducible exact hc7) | (with_reducible exact hc6) | (with_reducible exact hcB) | (with_reducible exact hcA) | go_keep)
      (first
        | (go_at_call 15; (with_reducible refine (c1.out _ (t3.out.below hb.out) (n3.out.below hb.out)).mono ?_); rintro e w6 ⟨⟨v1, rfl, i1⟩, k6⟩; have z6 : Hid (w3.heap.size ≤ w6.heap.size) := Nat.le_trans hb.out.size k6.size; replace hb := Lib.hid (hb.out.trans (k6.mono hb.out.size)); have hc6 := (hS.out _ hb.out).all; replace i1 := Lib.hid i1; clear k6)
        | (go_at_call 15; (with_reducible refine (c2.out _ (t3.out.below hb.out) (n3.out.below hb.out)).mono ?_); rintro e w7 ⟨⟨v2, rfl, i2⟩, k7⟩; obtain ⟨v8, w8, hrun, i8, h7, h8⟩ := arm_two hb.out i1.out k7 i2 len1.out len2.out; have hc7 := (hS.out _ h7).all; have hc8 := (hS.out _ h8).all; replace i8 := Lib.hid i8; replace h8 := Lib.hid h8; clear h7 i2 k7; replace hrun := Lib.hid hrun)
        | (refine step_run (by rfl) _ _ _ (by rfl) (by rfl) (by rfl) hrun.out ?_))
    all_goals
      obtain ⟨p2, cap2, rfl, hl2⟩ := ints_any i8.out
      replace hl2 := Lib.hid hl2
      have kw8 := h8
      go_wp2_with fail
      go_meet
      refine ⟨p2, cap2, by rw [hsplit.out], ?_, L3.out.step kw8.out, b3.out.trans (kw8.out.mono b3.out.size)⟩
      rw [hsplit.out]
      exact hl2.out
  case rest =>
    obtain ⟨p2, cap2, rfl, hl2, hl3, hb5⟩ := hcut
    clear hcA hcB hb hS t3 n3 B3 b3 L3 c1 c2 hw1 hbl
    have hc : (L.length : Int) ≤ 7000 := by omega
    have elen : ((L.length : Int) != (L.length : Int)) = false := by simp
    go_wp2_with fail
    go_loopw [53] (fun vk wr => ∃ k : Nat, k ≤ L.length ∧ vk = .int .i64 k ∧ Hid (Lst wr p2 L) ∧ Hid (Lst wr p L) ∧ Hid (Below w.heap.size w wr)) (fun vk _ => L.length - (intOf vk).toNat)
    case atStart => exact ⟨0, Nat.zero_le _, rfl, hl2, hl3, hb5⟩
    case round =>
      obtain ⟨k, hk, rfl, r2, r3, rb⟩ := hrel
      clear hl2 hl3 hb5
      by_cases hlt : k < L.length
      · obtain ⟨g, rfl, hc1⟩ := r3.out k hlt
        obtain ⟨g2, rfl, hc2⟩ := r2.out k hlt
        obtain ⟨E, hE⟩ : ∃ E, L[k] = E := ⟨_, rfl⟩
        rw [hE] at hc1 hc2
        clear hE
        have hEE : (E != E) = false := by simp
        go_wp2_with fail
        go_quiet (fail)
        have r2' := Lib.hid (r2.out.drew nq)
        have r3' := Lib.hid (r3.out.drew nq)
        have rb' := Lib.hid (dN rb.out nq)
        go_wp2_with fail
        exact ⟨⟨k + 1, by omega, by go_num, r2', r3', rb'⟩, by simp [intOf]; omega⟩
      · go_wp2_with fail
        go_ret
        exact ⟨rfl, rb.out⟩

set_option maxRecDepth 100000 in
theorem contract (H : Type) (enc : TypeId × Value → H) (W : World) (base : Nat) (args : Array Value) (ds gs : List (DataW H)) (before : List MemPlace)
    (hval : ∀ (j : Nat) t v, Tryz.f9.params[j]? = some t → args[j]? = some v → Value.okWide Tryz.prog W .any base t v)
    (hW : DataW.Whole enc Tryz.prog Tryz.f9.params.toList Rows.nextJoinsSpec.vars false W args.toList ds gs before) (hL : laidMetH Tryz.prog Rows.nextJoinsRow.laid W) (hS : W.ShapedOpen Tryz.prog) :
    Calls Tryz.prog 9 args W fun e W' => ∃ v, e = .returned v ∧ Rows.nextJoinsSpec.post enc Tryz.prog Tryz.f9 false true false false W args v W' := by
  have hW' := hW
  obtain ⟨p, q, hA0, hV, rfl, hfz, hnd⟩ := hW
  have hA : DataW.TrodAll enc Tryz.prog W 0 (fun _ => true) true Tryz.f9.params.toList args.toList ds p := hA0
  rw [Tryz.params9] at hA hval
  obtain ⟨v0, vs0, d0, ds0, p0, q0, hargs, rfl, rfl, h0, r0⟩ := trodAll_cons hA
  obtain ⟨v1, vs1, d1, ds1, p1, q1, rfl, rfl, rfl, h1, r1⟩ := trodAll_cons r0
  obtain ⟨v2, vs2, d2, ds2, p2, q2, rfl, rfl, rfl, h2, r2⟩ := trodAll_cons r1
  obtain ⟨v3, vs3, d3, ds3, p3, q3, rfl, rfl, rfl, h3, r3⟩ := trodAll_cons r2
  obtain ⟨rfl, rfl, rfl⟩ := trodAll_nil r3
  obtain rfl : args = #[v0, v1, v2, v3] := by clear hL hS hW' hval; cases args; simp_all
  obtain ⟨rfl, rfl⟩ := trodVars_none hV
  obtain ⟨a0, rfl, rfl, rfl, w0⟩ := open_spec (hval 0 24 v0 rfl rfl) h0
  obtain ⟨a1, rfl, rfl, rfl, w1⟩ := open_int Tryz.underlying3 (hval 1 3 v1 rfl rfl) h1
  obtain ⟨a2, rfl, rfl, rfl, w2⟩ := open_int Tryz.underlying3 (hval 2 3 v2 rfl rfl) h2
  obtain ⟨a3, rfl, rfl, rfl, w3⟩ := open_int Tryz.underlying3 (hval 3 3 v3 rfl rfl) h3
  clear hA0
  simp only [List.append_nil] at hW'
  refine (walk a0 w0 a1 w1 a2 w2 a3 w3 W (table hL hS) (tables hL hS)).mono fun e W' ⟨he, hg⟩ => ?_
  subst he
  exact ⟨_, rfl, _, _, _, [], [], [], hW', trodAll_cons_mk (shut_bool Tryz.underlying4 _) trodAll_mk0, trodAll_cons_mk (shut_spec w0) (trodAll_cons_mk (shut_int Tryz.underlying3 w1) (trodAll_cons_mk (shut_int Tryz.underlying3 w2) (trodAll_cons_mk (shut_int Tryz.underlying3 w3) trodAll_mk0))), rfl, hg.frame _, fun h => by cases h⟩

theorem reads (os : Os) {H : Type} (enc : TypeId × Value → H) : ∃ places, DataW.whole enc Tryz.prog ((laidWorld os).forCall (fun _ _ => 0) ⟨#[], #[.agg #[.int .u64 0, .int .u64 0, .int .u64 0, .int .u64 0, .int .u64 0, .bool false, .bool false, .int .i64 0], .int .i64 0, .int .i64 0, .int .i64 0], []⟩).memory Tryz.f9.params.toList Rows.nextJoinsSpec.vars false (#[.agg #[.int .u64 0, .int .u64 0, .int .u64 0, .int .u64 0, .int .u64 0, .bool false, .bool false, .int .i64 0], .int .i64 0, .int .i64 0, .int .i64 0] : Array Value).toList 8 = some ([.agg [.lit (.int .u64 0), .lit (.int .u64 0), .lit (.int .u64 0), .lit (.int .u64 0), .lit (.int .u64 0), .lit (.bool false), .lit (.bool false), .lit (.int .i64 0)], .lit (.int .i64 0), .lit (.int .i64 0), .lit (.int .i64 0)], [], places) :=
  ⟨[], by kernel_rfl⟩

set_option maxRecDepth 100000 in
theorem lifted (os : Os) (started : os.Started) (H : Type) (enc : TypeId × Value → H) (F : Stop.Interp) :
    ReturnsInHanded {} Tryz.checked os 9 .any ((OpenSpec.ofChange Rows.nextJoinsSpec).preRow enc Tryz.prog Tryz.f9 Rows.nextJoinsRow.domain false Rows.nextJoinsRow.laid) (((OpenSpec.ofChange Rows.nextJoinsSpec).at F).post enc Tryz.prog Tryz.f9 false true false false) := by
  obtain ⟨places, hx⟩ := reads os enc
  refine returnsInHanded_of_row (C := Tryz.checked) (s := OpenSpec.ofChange Rows.nextJoinsSpec) own started (by kernel_rfl) Tryz.func9
    (witness_row_at (enc := enc) (C := Tryz.checked) false (laidWorld os) #[.agg #[.int .u64 0, .int .u64 0, .int .u64 0, .int .u64 0, .int .u64 0, .bool false, .bool false, .int .i64 0], .int .i64 0, .int .i64 0, .int .i64 0] (World.laidAll_os _ _ _) (by kernel_rfl) (by kernel_rfl) (by kernel_rfl)
      (OpenSpec.preRow_of_cond 8 hx (by kernel_rfl) (fun k hk => by cases hk) (by kernel_rfl) (laid_met os _))) ?_
  intro W base args ds gs before hval hW _ _ _ hL hS _
  exact contract H enc W base args ds gs before hval hW hL hS

theorem said : Rows.NextJoinsSaid :=
  OpenClaim.holds_of_cond 9 Tryz.f9 rfl rfl rfl rfl rfl rfl rfl ⟨rfl, rfl, rfl, rfl, rfl⟩ rfl rfl rfl rfl rfl (by kernel_rfl) Tryz.func9 (by kernel_rfl)
    (of_decide_eq_true (by kernel_rfl)) (by unfold Func.isWrapper; first | (rw [if_pos (by decide +kernel)]; kernel_rfl) | (rw [if_neg (by decide +kernel)]; exact ⟨rfl, rfl⟩))
    (fun os started H enc _ F => by rw [OpenClaim.pre_eq_preRow]; exact lifted os started H enc F)

theorem plain (f : FuncId) (fn : Func) (hf : Tryz.pinned.checked.prog.funcNamed "tompion/tompionlaw05.NextJoins" = some f) (hfn : Tryz.pinned.checked.prog.funcs[f]? = some fn) :
    false = Tryz.pinned.checked.prog.looks [] ∧ ∀ (j : Nat) t, fn.params[j]? = some t → Tryz.pinned.checked.prog.wantsStandIn t = false := by
  obtain rfl : f = 9 := Option.some.inj ((show Tryz.prog.funcNamed "tompion/tompionlaw05.NextJoins" = some 9 by kernel_rfl).symm.trans hf) |>.symm
  obtain rfl : fn = Tryz.f9 := (Option.some.inj (Tryz.func9.symm.trans hfn)).symm
  refine ⟨by kernel_rfl, fun j t ht => ?_⟩
  rw [Tryz.params9] at ht
  have hm := Array.mem_of_getElem? ht
  simp at hm
  rcases hm with rfl | rfl
  · exact (show Tryz.prog.wantsStandIn 24 = false by kernel_rfl)
  · exact (show Tryz.prog.wantsStandIn 3 = false by kernel_rfl)

/-- The statement: the card, its tables tied to the program's text. -/
theorem proved : Rows.NextJoinsCardSaid :=
  Claim7.holds_tied_plain_at .later [] _ _ _ _ said (fun _ h => by cases h) (by kernel_rfl) (fun _ h => by cases h) nextJoins_row_tie rfl ⟨rfl, rfl⟩ (by kernel_rfl) rfl plain (by kernel_rfl)
#print axioms proved
end Go.Proofs.YtohogchnjeddeaaGreatDoor.nextJoins
