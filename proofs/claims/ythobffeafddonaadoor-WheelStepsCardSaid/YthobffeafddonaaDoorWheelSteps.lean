/-
  WheelSteps: time that goes on in two steps brings the same due as in one. No condition but what the card lists.
-/
import Derived.Test.YthobffeafddonaaDoorLift
import Derived.Test.YthobffeafddonaaDoorWTwo
set_option linter.unusedVariables false
namespace Go.Proofs.YthobffeafddonaaDoor.wheelSteps
open Go.ChangeShapes Go.WideShapes Go.ChangeAt Go.RowKit Whl
open Go.ChangeMaps (open_string shut_string)

set_option maxRecDepth 100000 in
set_option maxHeartbeats 4000000 in
theorem walk (now : Int) (h1 : (Lit.int .i64 now).wf = true) (sa : Option Addr) (n cap : Nat) (f : Nat → Int) (a : Int) (h2 : (Lit.int .i64 a).wf = true) (c : Int) (h3 : (Lit.int .i64 c).wf = true) (w : World) (tb : Bru w) (hf : Ints .i64 w sa n f) :
    Calls Tryd.prog 5 #[.int .i64 now, .slice sa n cap, .int .i64 a, .int .i64 c] w fun e w' => e = .returned (.bool true) ∧ Below w.heap.size w w' := by
  obtain ⟨U1, hU1⟩ : ∃ U : Nat, IntKind.u64.wrap now = (U : Int) := ⟨(IntKind.u64.wrap now).toNat, by rw [IntKind.wrap_u64]; omega⟩
  obtain ⟨U2, hU2⟩ : ∃ U : Nat, IntKind.u64.wrap a = (U : Int) := ⟨(IntKind.u64.wrap a).toNat, by rw [IntKind.wrap_u64]; omega⟩
  obtain ⟨U3, hU3⟩ : ∃ U : Nat, IntKind.u64.wrap c = (U : Int) := ⟨(IntKind.u64.wrap c).toNat, by rw [IntKind.wrap_u64]; omega⟩
  obtain ⟨N, hN⟩ : ∃ N : Nat, (U1 : Int) % 1073741824 = (N : Int) := ⟨U1 % 1073741824, by omega⟩
  obtain ⟨A, hA⟩ : ∃ A : Nat, (U2 : Int) % 1048576 = (A : Int) := ⟨U2 % 1048576, by omega⟩
  obtain ⟨C, hC⟩ : ∃ C : Nat, (U3 : Int) % 1048576 = (C : Int) := ⟨U3 % 1048576, by omega⟩
  have hN8 : (N : Int) < 1073741824 := by omega
  have hA8 : (A : Int) < 1048576 := by omega
  have hC8 : (C : Int) < 1048576 := by omega
  have hpos : 0 < w.heap.size := Nat.lt_of_le_of_lt (Nat.zero_le _) (World.block_lt_of_cell? w _ (tb 0 (by omega)))
  have cw := Lib.hid (fun W (t : Bru W) => awake_any W t)
  have cN := Lib.hid (fun W (hb : w.heap.size ≤ W.heap.size) (t : Bru W) => new_any w.heap.size W (N : Int) N (by omega) hb hpos t)
  have cS := Lib.hid (fun W b l O (id x : Nat) (h : WT w.heap.size W b N l O) hn hid ha hl => set_new w.heap.size W b N l O id x h hn hid ha hl)
  have cA := Lib.hid (fun W b nw l O k h => advance_any w.heap.size W b nw l O k h)
  have cD := Lib.hid (fun W b nw l O k h => due_any w.heap.size W b nw l O k h)
  have cM := Lib.hid (fun b1 b2 v1 v2 l1 l2 W h1 h2 hl1 hl2 r hr => same_any b1 b2 v1 v2 l1 l2 W h1 h2 hl1 hl2 r hr)
  have cW := Lib.hid (fun W b nw l O h => now_any w.heap.size W b nw l O h)
  have hbr : Hid (∀ W, Below w.heap.size w W → Bru W) := fun W k => tb.kp (Kp.ofBelow (O := fun _ => False) k) (fun x hx => hx.elim)
  replace hf := Lib.hid hf
  replace hpos := Lib.hid hpos
  have ca0 := Lib.hid (cw.out w tb)
  clear h1 h2 h3 tb
  by_cases hn : (n : Int) ≤ 200
  · go_enter Tryd.func5, Tryd.ntmps5
    go_wp2_with (first | simp only [hU1, hU2, hU3])
    clear hU1 hU2 hU3 hN hA hC
    replace hN8 := Lib.hid hN8
    have hd : decide ((200 : Int) < (n : Int)) = false := decide_eq_false (by omega)
    replace hn := Lib.hid hn
    replace hA8 := Lib.hid hA8
    replace hC8 := Lib.hid hC8
    refine ca0.out.mono ?_
    rintro e w1 ⟨rfl, k1⟩
    have cn1 := Lib.hid (cN.out w1 k1.size (hbr.out w1 k1))
    replace k1 := Lib.hid k1
    clear ca0 cw
    go_wp2_with fail
    clear hd
    refine cn1.out.mono ?_
    rintro e w2 ⟨rfl, wt1, g2⟩
    have k2 := Lib.hid (k1.out.trans (g2.mono k1.out.size))
    have cn2 := Lib.hid (cN.out w2 k2.out.size (hbr.out w2 k2.out))
    replace g2 := Lib.hid g2
    replace wt1 := Lib.hid wt1
    clear cn1 cN hbr
    go_wp2_with fail
    refine cn2.out.mono ?_
    rintro e w3 ⟨rfl, wt2, g3⟩
    have k3 := Lib.hid (k2.out.trans (g3.mono k2.out.size))
    have T0 : Hid (Two w.heap.size w3 w1.heap.size w2.heap.size N N [] [] (fun k => k = w1.heap.size) (fun k => k = w2.heap.size)) := ⟨wt1.out.below g3, wt2, fun k hk => by have := g2.out.size; have := g3.size; have h5 := wt1.out.ex; obtain ⟨m, V, F, L, t, hS, _⟩ := h5; have := hS.wh.lt; omega, fun k hk => by obtain ⟨m, V, F, L, t, hS, _⟩ := wt2.ex; have := hS.wh.lt; omega, fun k h1 h2 => by obtain ⟨m, V, F, L, t, hS, _⟩ := wt1.out.ex; have := hS.wh.lt; omega⟩
    clear wt1 wt2 g2 g3 cn2 k2 k1
    generalize w1.heap.size = b1 at *
    generalize w2.heap.size = b2 at *
    go_wp2_with fail
    go_loopw [41] (fun v wr => ∃ (k : Nat) (l : List ItemN) (O1 O2 : Nat → Prop), v = .int .i64 k ∧ (k : Int) ≤ n ∧ Hid (l.length = k ∧ ∀ p, p ∈ l → p.2 < k) ∧ Hid (Two w.heap.size wr b1 b2 N N l l O1 O2) ∧ Hid (Below w.heap.size w wr)) (fun v _ => ((n : Int) - intOf v).toNat)
    case atStart => exact ⟨0, [], _, _, rfl, by omega, ⟨rfl, fun p hp => by simp at hp⟩, T0, k3⟩
    case round =>
      obtain ⟨k, l, O1, O2, rfl, hk, hl, T, kb⟩ := hrel
      clear T0 k3
      by_cases hkn : (k : Int) < n
      · obtain ⟨tb2, to2, rfl, hc0, hz⟩ := hf.out k (by omega)
        have hc : wr.cell? ⟨tb2, to2 + k, none⟩ = some (.int .i64 (f k)) := (kb.out.cell (p := ⟨tb2, to2 + k, none⟩) (World.block_lt_of_cell? w _ hc0)).trans hc0
        clear hc0 hz
        obtain ⟨U, hU⟩ : ∃ U : Nat, IntKind.u64.wrap (f k) = (U : Int) := ⟨(IntKind.u64.wrap (f k)).toNat, by rw [IntKind.wrap_u64]; omega⟩
        obtain ⟨X, hX⟩ : ∃ X : Nat, (U : Int) % 2147483648 = (X : Int) := ⟨U % 2147483648, by omega⟩
        have hX8 : (X : Int) < 2147483648 := by omega
        generalize f k = fk at *
        have hnew : Hid (∀ p, p ∈ l → p.2 ≠ k) := fun p hp e => by have := hl.out.2 p hp; omega
        have c1 := Lib.hid (cS.out wr b1 l O1 k X T.out.one hnew.out (by have := hn.out; omega) (by omega) (by have := hl.out.1; have := hn.out; omega))
        have hl2 : Hid ((ins (X, k) l).length = k + 1 ∧ ∀ p, p ∈ ins (X, k) l → p.2 < k + 1) := by
          refine ⟨by rw [ins_len, hl.out.1], fun p hp => ?_⟩
          rcases mem_ins.1 hp with e | e
          · rw [e]; show k < k + 1; omega
          · have := hl.out.2 p e; omega
        have hlen : Hid (l.length < 1000) := by have := hl.out.1; have := hn.out; unfold Hid; omega
        have hk2 : Hid (k ≤ 1048576) := by have := hn.out; unfold Hid; omega
        have hX2 : Hid (X ≤ 1099511627776) := by unfold Hid; omega
        go_upto_region 9 with (first | simp only [hX])
        clear hX8 hX hU hc
        go_wp2_with fail
        refine c1.out.mono ?_
        rintro e w4 ⟨rfl, O3, A3⟩
        have kb4 := Lib.hid (kb.out.trans (A3.below T.out.one kb.out.size))
        obtain ⟨O4, T4, _⟩ := T.out.step A3
        have c2 := Lib.hid (cS.out w4 b2 l O2 k X T4.two hnew.out hk2.out hX2.out hlen.out)
        replace T4 := Lib.hid T4
        clear c1 A3
        go_wp2_with fail
        refine c2.out.mono ?_
        rintro e w5 ⟨rfl, O5, A5⟩
        have kb5 := Lib.hid (kb4.out.trans (A5.below T4.out.two kb4.out.size))
        obtain ⟨O6, T6, _⟩ := T4.out.swap.step A5
        have T7 := Lib.hid T6.swap
        clear c2 A5 T6 T4 kb4
        have hw1 : IntKind.i64.wrap ((k : Int) + 1) = (k : Int) + 1 := by rw [IntKind.wrap_i64]; have := hn.out; omega
        go_wp2_with fail
        exact ⟨⟨k + 1, _, _, _, by go_num, by omega, hl2, T7, kb5⟩, by simp [intOf]; omega⟩
      · obtain ⟨M, hM⟩ : ∃ M : Nat, (N : Int) + (A : Int) = (M : Int) := ⟨N + A, by omega⟩
        obtain ⟨Q, hQ⟩ : ∃ Q : Nat, (M : Int) + (C : Int) = (Q : Int) := ⟨M + C, by omega⟩
        have hM8 : Hid (N ≤ M ∧ M ≤ Q ∧ Q ≤ 1099511627776) := by have := hN8.out; have := hA8.out; have := hC8.out; unfold Hid; omega
        have hw1 : IntKind.i64.wrap (M : Int) = (M : Int) := by rw [IntKind.wrap_i64]; have := hM8.out; omega
        have hw2 : IntKind.i64.wrap (Q : Int) = (Q : Int) := by rw [IntKind.wrap_i64]; have := hM8.out; omega
        have mx1 : Hid (max N (min (Q : Int) 1099511627776).toNat = Q) := by have := hM8.out; unfold Hid; omega
        have mx2 : Hid (max N (min (M : Int) 1099511627776).toNat = M) := by have := hM8.out; unfold Hid; omega
        have mx3 : Hid (max M (min (Q : Int) 1099511627776).toNat = Q) := by have := hM8.out; unfold Hid; omega
        obtain ⟨hup, hll⟩ := T.out.one.up
        have hjoin : Hid (comeBy l N Q = comeBy l N M ++ comeBy l M Q) := comeBy_join hup hM8.out.1 hM8.out.2.1
        have hcl : Hid (∀ x y, (comeBy l x y).length ≤ 50000) := fun x y => Nat.le_trans (List.length_filter_le _ _) hll
        have hdl : Hid (((dueBy l Q).take (1000 : Int).toNat).length ≤ 1000000) := by
          unfold Hid
          rw [List.length_take]
          omega
        have c1 := Lib.hid (cA.out wr b1 N l O1 (Q : Int) T.out.one)
        rw [mx1.out] at c1
        clear hup hll hl hk
        go_wp2_with fail
        refine c1.out.mono ?_
        rintro e w4 ⟨v1, O3, rfl, A3, R1, n1⟩
        obtain ⟨O4, T4, _⟩ := T.out.step A3
        have kb4 := Lib.hid (kb.out.trans (A3.below T.out.one kb.out.size))
        have hR1 : Hid (∀ x, v1.ownBlock = some x → ¬ O2 x) := fun x hx hO => by
          have h1 := (World.ownsRow.lt R1 x hx).1
          have h2 := T.out.lt2 x hO
          omega
        have c2 := Lib.hid (cA.out w4 b2 N l O2 (M : Int) T4.two)
        rw [mx2.out] at c2
        replace T4 := Lib.hid T4
        replace R1 := Lib.hid R1
        clear c1 A3 n1 T kb
        go_wp2_with fail
        refine c2.out.mono ?_
        rintro e w5 ⟨v2, O5, rfl, A5, R2, n2⟩
        have h45 : Hid (w4.heap.size ≤ w5.heap.size) := A5.kp.size
        obtain ⟨O6, T6, h6⟩ := T4.out.swap.step A5
        have kb5 := Lib.hid (kb4.out.trans (A5.below T4.out.two kb4.out.size))
        obtain ⟨R15, q15⟩ := R1.out.after A5 hR1.out
        have n26 : Hid (∀ x, v2.ownBlock = some x → ¬ O6 x) := fun x hx hO => n2 x hx (h6 x hO)
        have n16 : Hid (∀ x, v1.ownBlock = some x → ¬ O6 x) := fun x hx hO => q15 x hx (h6 x hO)
        have v12 : Hid (∀ x y, v1.ownBlock = some x → v2.ownBlock = some y → x < y) := fun x y hx hy => by
          have h1 := (World.ownsRow.lt R1.out x hx).2
          have h2 := (World.ownsRow.lt R2 y hy).1
          omega
        have v2lo : Hid (∀ y, v2.ownBlock = some y → ¬ O4 y ∧ w.heap.size ≤ y) := fun y hy => by
          have h2 := (World.ownsRow.lt R2 y hy).1
          refine ⟨fun hO => ?_, ?_⟩
          · have := T4.out.lt1 y hO; omega
          · have := kb4.out.size; omega
        have c3 := Lib.hid (cA.out w5 b2 M l O6 (Q : Int) T6.one)
        rw [mx3.out] at c3
        replace T6 := Lib.hid T6
        replace R15 := Lib.hid R15
        replace R2 := Lib.hid R2
        clear c2 A5 n2 q15 T4 kb4 R1 hR1 h6
        go_wp2_with fail
        refine c3.out.mono ?_
        rintro e w6 ⟨v3, O7, rfl, A7, R3, n3⟩
        obtain ⟨O8, T8, h8⟩ := T6.out.step A7
        have kb6 := Lib.hid (kb5.out.trans (A7.below T6.out.one kb5.out.size))
        obtain ⟨R16, q16⟩ := R15.out.after A7 n16.out
        obtain ⟨R26, q26⟩ := R2.out.after A7 n26.out
        obtain ⟨v4, w7, hrun, R4, G4⟩ := append_rows w4.heap.size w5.heap.size v2 v3 _ _ w6 R26 R3 (by have := A7.kp.size; have := h45.out; omega) (by have := hcl.out N M; omega) (by have := hcl.out M Q; omega)
        rw [← hjoin.out] at R4
        have kp7 : Kp (fun x => v2.ownBlock = some x) w6 w7 := ⟨G4.os, G4.tape, G4.output, G4.size, fun x hx hn => G4.block x hx (fun e => hn e.symm)⟩
        have T9 := Lib.hid (T8.kept kp7 (fun x hx => ⟨fun hO => q26 x hx (h8 x hO), (v2lo.out x hx).1, by have := (v2lo.out x hx).2; have := hpos.out; omega⟩))
        have R17 := R16.kp kp7 (fun x hx e => by have := v12.out x x hx e; omega)
        have kb7 := Lib.hid (kb6.out.trans (kp7.below (B := w.heap.size) (fun x hx => (v2lo.out x hx).2) kb6.out.size))
        have c4 := Lib.hid (cM.out _ _ v1 v4 _ _ w7 R17 R4 (by have := hcl.out N Q; omega) (by have := hcl.out N Q; omega) true (by simp))
        clear c3 A7 R16 R26 R3 n3 q16 q26 R4 G4 R17 kp7 T8 h8 v2lo v12 T6 R15 R2 n16 n26 kb5 kb6
        go_wp2_with (at_builtin; refine Lib.wpList_append_run _ rfl _ _ _ _ rfl _ _ rfl rfl _ _ hrun ?_)
        refine c4.out.mono ?_
        rintro e w8 ⟨rfl, g⟩
        have T10 := Lib.hid (T9.out.below g)
        have kb8 := Lib.hid (kb7.out.trans (g.mono kb7.out.size))
        have c5 := Lib.hid (cD.out w8 b1 Q l O4 1000 T10.out.two)
        clear c4 hrun g T9 kb7
        go_wp2_with fail
        refine c5.out.mono ?_
        rintro e w9 ⟨v5, rfl, R5, g⟩
        have T11 := Lib.hid (T10.out.below g)
        have kb9 := Lib.hid (kb8.out.trans (g.mono kb8.out.size))
        have c6 := Lib.hid (cD.out w9 b2 Q l _ 1000 T11.out.one)
        replace R5 := Lib.hid R5
        clear c5 g T10 kb8
        go_wp2_with fail
        refine c6.out.mono ?_
        rintro e w10 ⟨v6, rfl, R6, g⟩
        have T12 := Lib.hid (T11.out.below g)
        have kb10 := Lib.hid (kb9.out.trans (g.mono kb9.out.size))
        have c7 := Lib.hid (cM.out _ _ v5 v6 _ _ w10 (R5.out.below g) R6 hdl.out hdl.out true (by simp))
        clear c6 g T11 kb9 R5 R6
        go_wp2_with fail
        refine c7.out.mono ?_
        rintro e w11 ⟨rfl, g⟩
        have T13 := Lib.hid (T12.out.below g)
        have kb11 := Lib.hid (kb10.out.trans (g.mono kb10.out.size))
        have c8 := Lib.hid (cW.out w11 b1 Q l _ T13.out.two)
        have c9 := Lib.hid (cW.out w11 b2 Q l _ T13.out.one)
        clear c7 g T12 kb10
        go_wp2_with fail
        refine c8.out.mono ?_
        rintro e w12 ⟨rfl, rfl⟩
        go_wp2_with fail
        refine c9.out.mono ?_
        rintro e w12 ⟨rfl, rfl⟩
        go_wp2_with fail
        go_ret
        exact ⟨by simp, kb11.out⟩
  · go_enter Tryd.func5, Tryd.ntmps5
    go_wp2_with (first | simp only [hU1, hU2, hU3])
    refine ca0.out.mono ?_
    rintro e w1 ⟨rfl, k1⟩
    have c2 := Lib.hid (cw.out w1 (hbr.out w1 k1))
    replace k1 := Lib.hid k1
    go_wp2_with fail
    refine c2.out.mono ?_
    rintro e w2 ⟨rfl, k2⟩
    go_wp2_with fail
    go_ret
    exact ⟨rfl, k1.out.trans (k2.mono k1.out.size)⟩


set_option maxRecDepth 100000 in
theorem contract (H : Type) (enc : TypeId × Value → H) (W : World) (base : Nat) (args : Array Value) (ds gs : List (DataW H)) (before : List MemPlace)
    (hval : ∀ (j : Nat) t v, Tryd.f5.params[j]? = some t → args[j]? = some v → Value.okWide Tryd.prog W .any base t v)
    (hW : DataW.Whole enc Tryd.prog Tryd.f5.params.toList Rows.wheelStepsSpec.vars false W args.toList ds gs before) (hL : laidMetH Tryd.prog Rows.wheelStepsRow.laid W) (hS : W.ShapedOpen Tryd.prog) :
    Calls Tryd.prog 5 args W fun e W' => ∃ v, e = .returned v ∧ Rows.wheelStepsSpec.post enc Tryd.prog Tryd.f5 false true false false W args v W' := by
  have hW' := hW
  obtain ⟨p, q, hA0, hV, rfl, hfz, hnd⟩ := hW
  have hA : DataW.TrodAll enc Tryd.prog W 0 (fun _ => true) true Tryd.f5.params.toList args.toList ds p := hA0
  rw [Tryd.params5] at hA hval
  obtain ⟨v0, vs0, d0, ds0, p0, q0, hargs, rfl, rfl, h0, r0⟩ := trodAll_cons hA
  obtain ⟨v1, vs1, d1, ds1, p1, q1, rfl, rfl, rfl, h1, r1⟩ := trodAll_cons r0
  obtain ⟨v2, vs2, d2, ds2, p2, q2, rfl, rfl, rfl, h2, r2⟩ := trodAll_cons r1
  obtain ⟨v3, vs3, d3, ds3, p3, q3, rfl, rfl, rfl, h3, r3⟩ := trodAll_cons r2
  obtain ⟨rfl, rfl, rfl⟩ := trodAll_nil r3
  obtain rfl : args = #[v0, v1, v2, v3] := by clear hL hS hW' hval; cases args; simp_all
  obtain ⟨rfl, rfl⟩ := trodVars_none hV
  obtain ⟨a0, rfl, rfl, rfl, w0⟩ := open_int Tryd.underlying3 (hval 0 3 v0 rfl rfl) h0
  obtain ⟨b1, len1, cap1, rfl⟩ := okWide_slice Tryd.underlying48 (hval 1 48 v1 rfl rfl)
  have k1 := h1
  have lt1 : ∀ x ∈ p1, x.block < W.heap.size := by obtain ⟨m, hm⟩ := k1; exact DataW.trod_lt m _ _ _ hm
  obtain ⟨f1, tx1⟩ : ∃ f, Ints .i64 W b1 len1 f := by
    obtain ⟨fuel, hf⟩ := h1
    exact ints_of Tryd.underlying48 Tryd.underlying3 (by kernel_rfl) hf
  obtain ⟨a2, rfl, rfl, rfl, w2⟩ := open_int Tryd.underlying3 (hval 2 3 v2 rfl rfl) h2
  obtain ⟨a3, rfl, rfl, rfl, w3⟩ := open_int Tryd.underlying3 (hval 3 3 v3 rfl rfl) h3
  clear hA0
  simp only [List.append_nil] at hW'
  refine (walk a0 w0 b1 len1 cap1 f1 a2 w2 a3 w3 W (table hL) tx1).mono fun e W' ⟨he, hg⟩ => ?_
  subst he
  exact ⟨_, rfl, _, _, _, [], _, [], hW', trodAll_cons_mk (shut_bool Tryd.underlying4 _) trodAll_mk0, trodAll_cons_mk (shut_int Tryd.underlying3 w0) (trodAll_cons_mk (Below.trod laidOut (by kernel_rfl) (of_decide_eq_true (by kernel_rfl)) k1 hg lt1) (trodAll_cons_mk (shut_int Tryd.underlying3 w2) (trodAll_cons_mk (shut_int Tryd.underlying3 w3) trodAll_mk0))), rfl, hg.frame _, fun h => by cases h⟩

theorem reads (os : Os) {H : Type} (enc : TypeId × Value → H) : ∃ places, DataW.whole enc Tryd.prog ((laidWorld os).forCall (fun _ _ => 0) ⟨#[], #[.int .i64 0, .slice none 0 0, .int .i64 0, .int .i64 0], []⟩).memory Tryd.f5.params.toList Rows.wheelStepsSpec.vars false (#[.int .i64 0, .slice none 0 0, .int .i64 0, .int .i64 0] : Array Value).toList 8 = some ([.lit (.int .i64 0), .nil, .lit (.int .i64 0), .lit (.int .i64 0)], [], places) :=
  ⟨[], by kernel_rfl⟩

set_option maxRecDepth 100000 in
theorem lifted (os : Os) (started : os.Started) (H : Type) (enc : TypeId × Value → H) (F : Stop.Interp) :
    ReturnsInHanded {} Tryd.checked os 5 .any ((OpenSpec.ofChange Rows.wheelStepsSpec).preRow enc Tryd.prog Tryd.f5 Rows.wheelStepsRow.domain false Rows.wheelStepsRow.laid) (((OpenSpec.ofChange Rows.wheelStepsSpec).at F).post enc Tryd.prog Tryd.f5 false true false false) := by
  obtain ⟨places, hx⟩ := reads os enc
  refine returnsInHanded_of_row (C := Tryd.checked) (s := OpenSpec.ofChange Rows.wheelStepsSpec) own started (by kernel_rfl) Tryd.func5
    (witness_row_at (enc := enc) (C := Tryd.checked) false (laidWorld os) #[.int .i64 0, .slice none 0 0, .int .i64 0, .int .i64 0] (World.laidAll_os _ _ _) (by kernel_rfl) (by kernel_rfl) (by kernel_rfl)
      (OpenSpec.preRow_of_cond 8 hx (by kernel_rfl) (fun k hk => by cases hk) (by kernel_rfl) (laid_met os _))) ?_
  intro W base args ds gs before hval hW _ _ _ hL hS _
  exact contract H enc W base args ds gs before hval hW hL hS

theorem said : Rows.WheelStepsSaid :=
  OpenClaim.holds_of_cond 5 Tryd.f5 rfl rfl rfl rfl rfl rfl rfl ⟨rfl, rfl, rfl, rfl, rfl⟩ rfl rfl rfl rfl rfl (by kernel_rfl) Tryd.func5 (by kernel_rfl)
    (of_decide_eq_true (by kernel_rfl)) (by unfold Func.isWrapper; first | (rw [if_pos (by decide +kernel)]; kernel_rfl) | (rw [if_neg (by decide +kernel)]; exact ⟨rfl, rfl⟩))
    (fun os started H enc _ F => by rw [OpenClaim.pre_eq_preRow]; exact lifted os started H enc F)

theorem plain (f : FuncId) (fn : Func) (hf : Tryd.pinned.checked.prog.funcNamed "tompion/tompionlaw06.WheelSteps" = some f) (hfn : Tryd.pinned.checked.prog.funcs[f]? = some fn) :
    false = Tryd.pinned.checked.prog.looks [] ∧ ∀ (j : Nat) t, fn.params[j]? = some t → Tryd.pinned.checked.prog.wantsStandIn t = false := by
  obtain rfl : f = 5 := Option.some.inj ((show Tryd.prog.funcNamed "tompion/tompionlaw06.WheelSteps" = some 5 by kernel_rfl).symm.trans hf) |>.symm
  obtain rfl : fn = Tryd.f5 := (Option.some.inj (Tryd.func5.symm.trans hfn)).symm
  refine ⟨by kernel_rfl, fun j t ht => ?_⟩
  rw [Tryd.params5] at ht
  have hm := Array.mem_of_getElem? ht
  simp at hm
  replace hm : t = 3 ∨ t = 48 := by first | (rcases hm with e | e | e <;> simp [e]) | (rcases hm with e | e <;> simp [e])
  rcases hm with rfl | rfl
  · exact (show Tryd.prog.wantsStandIn 3 = false by kernel_rfl)
  · exact (show Tryd.prog.wantsStandIn 48 = false by kernel_rfl)

/-- The statement: the card, its tables tied to the program's text. -/
theorem proved : Rows.WheelStepsCardSaid :=
  Claim7.holds_tied_plain_at .later [] _ _ _ _ said (fun _ h => by cases h) (by kernel_rfl) (fun _ h => by cases h) wheelSteps_row_tie rfl ⟨rfl, rfl⟩ (by kernel_rfl) rfl plain (by kernel_rfl)
#print axioms proved
end Go.Proofs.YthobffeafddonaaDoor.wheelSteps
