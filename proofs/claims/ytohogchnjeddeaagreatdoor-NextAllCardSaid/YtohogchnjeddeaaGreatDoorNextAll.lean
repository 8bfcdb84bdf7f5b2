/-
  NextAll: the times between two seconds are just those minutes at which the spec is: none is left out, none invented, none twice. No condition but what the card lists.
-/
import Derived.Test.YtohogchnjeddeaaGreatDoorLift
set_option linter.unusedVariables false
namespace Go.Proofs.YtohogchnjeddeaaGreatDoor.nextAll
open Go.ChangeShapes Go.WideShapes Go.ChangeAt Go.RowKit Crn Nxt Civ
open Go.ChangeMaps (open_string shut_string)

/-- A slice of numbers as it is read. -/
def Lst (W : World) (p : Option Addr) (L : List Int) : Prop := ∀ i (hi : i < L.length), ∃ g, p = some ⟨g, 0, none⟩ ∧ W.cell? ⟨g, i, none⟩ = some (.int .i64 L[i])
theorem Lst.step {W W2 : World} {p : Option Addr} {L : List Int} (h : Lst W p L) (k : Below W.heap.size W W2) : Lst W2 p L := fun i hi => by
  obtain ⟨g, hg, hc⟩ := h i hi
  exact ⟨g, hg, (k.cell (p := ⟨g, i, none⟩) (show g < W.heap.size from World.block_lt_of_cell? W _ hc)).trans hc⟩
theorem pre_yes {x : SpecN} {f s : Int} (h : At x s) (hf : f ≤ s) : allN x f (s + 59) = allN x f (s - 1) ++ [s] := by
  have hm := at_minute h
  rw [allN_split x (a := f) (m := s - 1) (b := s + 59) (by omega) (by omega), show s - 1 + 1 = s by omega, allN_split x (a := s) (m := s) (b := s + 59) (by omega) (by omega), allN_one h, allN_none (a := s + 1) (b := s + 59) (fun t t1 t2 t3 => by have := at_minute t3; omega)]
  rfl
theorem pre_no {x : SpecN} {f s : Int} (h : ¬ At x s) (hm : s % 60 = 0) (hf : f ≤ s) : allN x f (s + 59) = allN x f (s - 1) := by
  rw [allN_split x (a := f) (m := s - 1) (b := s + 59) (by omega) (by omega), show s - 1 + 1 = s by omega, allN_none (a := s) (b := s + 59) (fun t t1 t2 t3 => by
    have := at_minute t3
    have e : t = s := by omega
    rw [e] at t3
    exact h t3), List.append_nil]
theorem at_place {x : SpecN} {f s b : Int} (h : At x s) (hf : f ≤ s) (hb : s ≤ b) : ∃ hk : (allN x f (s - 1)).length < (allN x f b).length, (allN x f b)[(allN x f (s - 1)).length] = s := by
  have e : allN x f b = allN x f (s - 1) ++ (s :: allN x (s + 1) b) := by
    rw [allN_split x (a := f) (m := s - 1) (b := b) (by omega) (by omega), show s - 1 + 1 = s by omega, allN_split x (a := s) (m := s) (b := b) (by omega) (by omega), allN_one h]
    rfl
  refine ⟨by rw [e]; simp, ?_⟩
  simp only [e]
  rw [List.getElem_append_right (by omega)]
  simp
theorem all_end (x : SpecN) {f b : Int} (hf : f ≤ b + 1) (hm : b % 60 = 0) : allN x f (b + 59) = allN x f b := by
  rw [allN_split x (a := f) (m := b) (b := b + 59) (by omega) (by omega), allN_none (a := b + 1) (b := b + 59) (fun t t1 t2 t3 => by have := at_minute t3; omega), List.append_nil]

set_option maxRecDepth 100000 in
set_option maxHeartbeats 2000000 in
theorem walk (x : SpecN) (hx : Fits x) (fr : Int) (hw : (Lit.int .i64 fr).wf = true) (ho : Int) (hw2 : (Lit.int .i64 ho).wf = true) (w : World) (tb : Tab w) (nt : NTab w) :
    Calls Tryz.prog 5 #[specV x, .int .i64 fr, .int .i64 ho] w fun e w' => e = .returned (.bool true) ∧ Below w.heap.size w w' := by
  obtain ⟨U1, hU1⟩ : ∃ U : Nat, IntKind.u64.wrap fr = (U : Int) := ⟨(IntKind.u64.wrap fr).toNat, by rw [IntKind.wrap_u64]; omega⟩
  obtain ⟨U2, hU2⟩ : ∃ U : Nat, IntKind.u64.wrap ho = (U : Int) := ⟨(IntKind.u64.wrap ho).toNat, by rw [IntKind.wrap_u64]; omega⟩
  obtain ⟨M, hM⟩ : ∃ M : Nat, (U1 : Int) % 100000 = (M : Int) := ⟨U1 % 100000, by omega⟩
  obtain ⟨H, hH⟩ : ∃ H : Nat, (U2 : Int) % 50 = (H : Int) := ⟨U2 % 50, by omega⟩
  have hM8 : (M : Int) < 100000 := by omega
  have hH8 : (H : Int) < 50 := by omega
  obtain ⟨F, hF⟩ : ∃ F : Nat, (M : Int) * 3600 = (F : Int) := ⟨M * 3600, by omega⟩
  obtain ⟨T, hT⟩ : ∃ T : Nat, (F : Int) + 3600 * (H : Int) = (T : Int) := ⟨F + 3600 * H, by omega⟩
  have hF8 : (F : Int) ≤ 360000000 := by omega
  have hT8 : (T : Int) ≤ (F : Int) + 176400 := by omega
  have hFT : (F : Int) ≤ T := by omega
  have hF60 : Hid ((F : Int) % 60 = 0) := by unfold Hid; omega
  have hT60 : Hid ((T : Int) % 60 = 0) := by unfold Hid; omega
  have Cw := Lib.hid (fun W h1 h2 => awake_any W h1 h2)
  have Cb := Lib.hid (fun (k : Int) W (k1 : -10 ≤ k) (k2 : k ≤ 10000) h1 h2 => between_any x hx F T k (by omega) (by omega) (by omega) (by omega) k1 k2 W h1 h2)
  have Ci := Lib.hid (fun (s : Int) (s1 : 0 ≤ s) (s2 : s ≤ 400000000) W => refIs_any x hx s (by omega) (by omega) W)
  have hcount : Hid ((allN x F T).length ≤ 3000) := by
    have := allN_count x F T
    unfold Hid
    omega
  have Hy : Hid (∀ s : Int, isAt x s = true → (F : Int) ≤ s → allN x F (s + 59) = allN x F (s - 1) ++ [s]) := fun s h1 h2 => pre_yes (isAt_true.1 h1) h2
  have Hn : Hid (∀ s : Int, isAt x s = false → s % 60 = 0 → (F : Int) ≤ s → allN x F (s + 59) = allN x F (s - 1)) := fun s h1 h2 h3 => pre_no (isAt_false.1 h1) h2 h3
  have Hp : Hid (∀ s : Int, isAt x s = true → (F : Int) ≤ s → s ≤ T → ∃ hk : (allN x F (s - 1)).length < (allN x F T).length, (allN x F T)[(allN x F (s - 1)).length] = s) := fun s h1 h2 h3 => at_place (isAt_true.1 h1) h2 h3
  have He : Hid (allN x F (T + 59) = allN x F T) := all_end x (by omega) hT60.out
  have H0 : Hid (allN x F ((F : Int) - 1) = []) := allN_empty x (by omega)
  have Hmono : Hid (∀ s : Int, (F : Int) ≤ s + 1 → s ≤ T + 59 → (allN x F s).length ≤ (allN x F T).length) := fun s h1 h2 => by
    rw [← He.out, allN_split x (a := F) (m := s) (b := T + 59) h1 h2, List.length_append]
    omega
  generalize isAt x = IA at *
  generalize allN x (F : Int) = AL at *
  clear hw hw2
  obtain ⟨x0, x1, x2, x3, x4, x5, x6, x7⟩ := x
  simp only [specV, cellsN] at *
  have t1 := Lib.hid (tb.alloc (.cells #[.int .u64 x0, .int .u64 x1, .int .u64 x2, .int .u64 x3, .int .u64 x4, .bool x5, .bool x6, .int .i64 x7] 24))
  have n1 := Lib.hid (nt.alloc (.cells #[.int .u64 x0, .int .u64 x1, .int .u64 x2, .int .u64 x3, .int .u64 x4, .bool x5, .bool x6, .int .i64 x7] 24))
  have B1 := Lib.hid (Box.start w x0 x1 x2 x3 x4 x5 x6 x7)
  have b1 := Lib.hid ((Below.refl w.heap.size w).alloc (Nat.le_refl _) (.cells #[.int .u64 x0, .int .u64 x1, .int .u64 x2, .int .u64 x3, .int .u64 x4, .bool x5, .bool x6, .int .i64 x7] 24))
  clear tb nt hx
  go_enter Tryz.func5, Tryz.ntmps5
  go_wp2_with fail
  clear hU1 hU2 hM hH hF hT
  have cb := Lib.hid (Cb.out 10000 _ (by omega) (by omega) t1.out n1.out)
  refine cb.out.mono ?_
  rintro e w2 ⟨⟨v, rfl, hi⟩, g⟩
  have t2 := Lib.hid (t1.out.below g)
  have n2 := Lib.hid (n1.out.below g)
  have B2 := Lib.hid (B1.out.step g)
  have b2 := Lib.hid (b1.out.trans (g.mono b1.out.size))
  clear g t1 n1 B1 b1 cb
  rw [show ((10000 : Int).toNat) = 10000 by rfl, List.take_of_length_le (by have := hcount.out; omega)] at hi
  obtain ⟨p, cap, rfl, hl⟩ := ints_any hi
  have L2 : Hid (Lst w2 p (AL T)) := hl
  clear hi hl
  go_wp2_with fail
  refine (Cw.out _ t2.out n2.out).mono ?_
  rintro e w3 ⟨rfl, g⟩
  have t3 := Lib.hid (t2.out.below g)
  have n3 := Lib.hid (n2.out.below g)
  have B3 := Lib.hid (B2.out.step g)
  have b3 := Lib.hid (b2.out.trans (g.mono b2.out.size))
  have L3 := Lib.hid (L2.out.step g)
  clear L2 g t2 n2 B2 b2
  have hc3 : ((AL T).length : Int) ≤ 3000 := by have := hcount.out; omega
  go_wp2_with fail
  go_loopw [9, 10] (fun vk vs wr => ∃ (k : Nat) (s : Int), vk = .int .i64 k ∧ vs = .int .i64 s ∧ (F : Int) ≤ s ∧ s ≤ (T : Int) + 60 ∧ (k : Int) ≤ 3000 ∧ Hid (s % 60 = 0) ∧ Hid (k = (AL (s - 1)).length) ∧ Hid (Lst wr p (AL T)) ∧ Hid (Tab wr) ∧ Hid (NTab wr) ∧ Hid (Box w.heap.size wr x0 x1 x2 x3 x4 x5 x6 x7) ∧ Hid (Below w.heap.size w wr)) (fun _ vs _ => ((T : Int) + 61 - intOf vs).toNat)
  case atStart => exact ⟨0, F, rfl, rfl, by omega, by omega, by omega, hF60, by rw [H0.out]; rfl, L3, t3, n3, B3, b3⟩
  case round =>
    obtain ⟨k, s, rfl, rfl, z1, z2, z3, hs60, hk, hL, ht, hn, hB, hb⟩ := hrel
    clear L3 t3 n3 B3 b3
    obtain ⟨q0, q1, q2, q3, q4, q5, q6, q7⟩ := hB.out.all
    by_cases hst : s ≤ T
    · have ci := Lib.hid (Ci.out s (by omega) (by omega) wr)
      go_wp2_with fail
      refine ci.out.mono ?_
      rintro e w4 ⟨rfl, g⟩
      have t4 := Lib.hid (ht.out.below g)
      have n4 := Lib.hid (hn.out.below g)
      have B4 := Lib.hid (hB.out.step g)
      have b4 := Lib.hid (hb.out.trans (g.mono hb.out.size))
      have L4 := Lib.hid (hL.out.step g)
      clear g ci ht hn hB hb hL q0 q1 q2 q3 q4 q5 q6 q7
      have hmod : Hid ((s + 60) % 60 = 0) := by have := hs60.out; unfold Hid; omega
      cases hq : IA s with
      | true =>
        obtain ⟨hk1, hk2⟩ := Hp.out s hq z1 hst
        have hnx := Lib.hid (Hy.out s hq z1)
        clear hq
        obtain ⟨g, rfl, hc⟩ := L4.out (AL (s - 1)).length hk1
        rw [hk2, ← hk.out] at hc
        rw [← hk.out] at hk1
        have hk3 : (k : Int) < (AL T).length := by omega
        have hkn : Hid (k + 1 = (AL (s + 60 - 1)).length) := by
          rw [show s + 60 - 1 = s + 59 by omega, hnx.out, List.length_append, ← hk.out]
          rfl
        clear hk2 hnx
        have hge : decide ((AL (T : Int)).length ≤ k) = false := decide_eq_false (by omega)
        have hge2 : decide (((AL (T : Int)).length : Int) ≤ (k : Int)) = false := decide_eq_false (by omega)
        go_wp2_with fail
        exact ⟨⟨k + 1, s + 60, by go_num, rfl, by omega, by omega, by omega, hmod, hkn, L4, t4, n4, B4, b4⟩, by simp [intOf]; omega⟩
      | false =>
        have hnx := Lib.hid (Hn.out s hq hs60.out z1)
        clear hq
        have hkn : Hid (k = (AL (s + 60 - 1)).length) := by
          rw [show s + 60 - 1 = s + 59 by omega, hnx.out, ← hk.out]
          rfl
        go_wp2_with fail
        exact ⟨⟨k, s + 60, rfl, rfl, by omega, by omega, by omega, hmod, hkn, L4, t4, n4, B4, b4⟩, by simp [intOf]; omega⟩
    · have hs2 : s = (T : Int) + 60 := by have := hs60.out; have := hT60.out; omega
      have hkT : k = (AL T).length := by
        rw [hk.out, hs2, show (T : Int) + 60 - 1 = (T : Int) + 59 by omega, He.out]
      have ekl : ((k : Int) == ((AL T).length : Int)) = true := by rw [hkT]; simp
      have cb := Lib.hid (Cb.out ((k / 2 : Nat) : Int) _ (by omega) (by omega) ht.out hn.out)
      rw [show ((k / 2 : Nat) : Int) = (k : Int) / 2 by omega] at cb
      have hlen : ((AL T).take ((k : Int) / 2).toNat).length = k / 2 := by
        rw [List.length_take]
        omega
      generalize (AL T).take ((k : Int) / 2).toNat = S1 at *
      replace hkT := Lib.hid hkT
      replace hs2 := Lib.hid hs2
      replace hlen := Lib.hid hlen
      go_wp2_with fail
      refine cb.out.mono ?_
      rintro e w4 ⟨⟨v, rfl, hi⟩, g⟩
      have t4 := Lib.hid (ht.out.below g)
      have n4 := Lib.hid (hn.out.below g)
      have B4 := Lib.hid (hB.out.step g)
      have b4 := Lib.hid (hb.out.trans (g.mono hb.out.size))
      obtain ⟨p4, cap4, rfl, _⟩ := ints_any hi
      clear g cb ht hn hB hb hL q0 q1 q2 q3 q4 q5 q6 q7 hi
      obtain ⟨q0, q1, q2, q3, q4, q5, q6, q7⟩ := B4.out.all
      have cz := Lib.hid (Cb.out (-1) _ (by omega) (by omega) t4.out n4.out)
      have e2 : ((S1.length : Int) == (k : Int) / 2) = true := by rw [hlen.out]; simp
      go_wp2_with fail
      refine cz.out.mono ?_
      rintro e w5 ⟨⟨v, rfl, hi⟩, g⟩
      have b5 := Lib.hid (b4.out.trans (g.mono b4.out.size))
      have e3 : (AL T).take ((-1 : Int).toNat) = [] := rfl
      rw [e3] at hi
      obtain ⟨p5, cap5, rfl, _⟩ := ints_any hi
      clear g hi cz e3
      go_wp2_with fail
      go_ret
      exact ⟨by simp, b5.out⟩

set_option maxRecDepth 100000 in
theorem contract (H : Type) (enc : TypeId × Value → H) (W : World) (base : Nat) (args : Array Value) (ds gs : List (DataW H)) (before : List MemPlace)
    (hval : ∀ (j : Nat) t v, Tryz.f5.params[j]? = some t → args[j]? = some v → Value.okWide Tryz.prog W .any base t v)
    (hW : DataW.Whole enc Tryz.prog Tryz.f5.params.toList Rows.nextAllSpec.vars false W args.toList ds gs before) (hL : laidMetH Tryz.prog Rows.nextAllRow.laid W) (hS : W.ShapedOpen Tryz.prog) :
    Calls Tryz.prog 5 args W fun e W' => ∃ v, e = .returned v ∧ Rows.nextAllSpec.post enc Tryz.prog Tryz.f5 false true false false W args v W' := by
  have hW' := hW
  obtain ⟨p, q, hA0, hV, rfl, hfz, hnd⟩ := hW
  have hA : DataW.TrodAll enc Tryz.prog W 0 (fun _ => true) true Tryz.f5.params.toList args.toList ds p := hA0
  rw [Tryz.params5] at hA hval
  obtain ⟨v0, vs0, d0, ds0, p0, q0, hargs, rfl, rfl, h0, r0⟩ := trodAll_cons hA
  obtain ⟨v1, vs1, d1, ds1, p1, q1, rfl, rfl, rfl, h1, r1⟩ := trodAll_cons r0
  obtain ⟨v2, vs2, d2, ds2, p2, q2, rfl, rfl, rfl, h2, r2⟩ := trodAll_cons r1
  obtain ⟨rfl, rfl, rfl⟩ := trodAll_nil r2
  obtain rfl : args = #[v0, v1, v2] := by clear hL hS hW' hval; cases args; simp_all
  obtain ⟨rfl, rfl⟩ := trodVars_none hV
  obtain ⟨a0, rfl, rfl, rfl, w0⟩ := open_spec (hval 0 24 v0 rfl rfl) h0
  obtain ⟨a1, rfl, rfl, rfl, w1⟩ := open_int Tryz.underlying3 (hval 1 3 v1 rfl rfl) h1
  obtain ⟨a2, rfl, rfl, rfl, w2⟩ := open_int Tryz.underlying3 (hval 2 3 v2 rfl rfl) h2
  clear hA0
  simp only [List.append_nil] at hW'
  refine (walk a0 w0 a1 w1 a2 w2 W (table hL hS) (tables hL hS)).mono fun e W' ⟨he, hg⟩ => ?_
  subst he
  exact ⟨_, rfl, _, _, _, [], [], [], hW', trodAll_cons_mk (shut_bool Tryz.underlying4 _) trodAll_mk0, trodAll_cons_mk (shut_spec w0) (trodAll_cons_mk (shut_int Tryz.underlying3 w1) (trodAll_cons_mk (shut_int Tryz.underlying3 w2) trodAll_mk0)), rfl, hg.frame _, fun h => by cases h⟩

theorem reads (os : Os) {H : Type} (enc : TypeId × Value → H) : ∃ places, DataW.whole enc Tryz.prog ((laidWorld os).forCall (fun _ _ => 0) ⟨#[], #[.agg #[.int .u64 0, .int .u64 0, .int .u64 0, .int .u64 0, .int .u64 0, .bool false, .bool false, .int .i64 0], .int .i64 0, .int .i64 0], []⟩).memory Tryz.f5.params.toList Rows.nextAllSpec.vars false (#[.agg #[.int .u64 0, .int .u64 0, .int .u64 0, .int .u64 0, .int .u64 0, .bool false, .bool false, .int .i64 0], .int .i64 0, .int .i64 0] : Array Value).toList 8 = some ([.agg [.lit (.int .u64 0), .lit (.int .u64 0), .lit (.int .u64 0), .lit (.int .u64 0), .lit (.int .u64 0), .lit (.bool false), .lit (.bool false), .lit (.int .i64 0)], .lit (.int .i64 0), .lit (.int .i64 0)], [], places) :=
  ⟨[], by kernel_rfl⟩

set_option maxRecDepth 100000 in
theorem lifted (os : Os) (started : os.Started) (H : Type) (enc : TypeId × Value → H) (F : Stop.Interp) :
    ReturnsInHanded {} Tryz.checked os 5 .any ((OpenSpec.ofChange Rows.nextAllSpec).preRow enc Tryz.prog Tryz.f5 Rows.nextAllRow.domain false Rows.nextAllRow.laid) (((OpenSpec.ofChange Rows.nextAllSpec).at F).post enc Tryz.prog Tryz.f5 false true false false) := by
  obtain ⟨places, hx⟩ := reads os enc
  refine returnsInHanded_of_row (C := Tryz.checked) (s := OpenSpec.ofChange Rows.nextAllSpec) own started (by kernel_rfl) Tryz.func5
    (witness_row_at (enc := enc) (C := Tryz.checked) false (laidWorld os) #[.agg #[.int .u64 0, .int .u64 0, .int .u64 0, .int .u64 0, .int .u64 0, .bool false, .bool false, .int .i64 0], .int .i64 0, .int .i64 0] (World.laidAll_os _ _ _) (by kernel_rfl) (by kernel_rfl) (by kernel_rfl)
      (OpenSpec.preRow_of_cond 8 hx (by kernel_rfl) (fun k hk => by cases hk) (by kernel_rfl) (laid_met os _))) ?_
  intro W base args ds gs before hval hW _ _ _ hL hS _
  exact contract H enc W base args ds gs before hval hW hL hS

theorem said : Rows.NextAllSaid :=
  OpenClaim.holds_of_cond 5 Tryz.f5 rfl rfl rfl rfl rfl rfl rfl ⟨rfl, rfl, rfl, rfl, rfl⟩ rfl rfl rfl rfl rfl (by kernel_rfl) Tryz.func5 (by kernel_rfl)
    (of_decide_eq_true (by kernel_rfl)) (by unfold Func.isWrapper; first | (rw [if_pos (by decide +kernel)]; kernel_rfl) | (rw [if_neg (by decide +kernel)]; exact ⟨rfl, rfl⟩))
    (fun os started H enc _ F => by rw [OpenClaim.pre_eq_preRow]; exact lifted os started H enc F)

theorem plain (f : FuncId) (fn : Func) (hf : Tryz.pinned.checked.prog.funcNamed "tompion/tompionlaw05.NextAll" = some f) (hfn : Tryz.pinned.checked.prog.funcs[f]? = some fn) :
    false = Tryz.pinned.checked.prog.looks [] ∧ ∀ (j : Nat) t, fn.params[j]? = some t → Tryz.pinned.checked.prog.wantsStandIn t = false := by
  obtain rfl : f = 5 := Option.some.inj ((show Tryz.prog.funcNamed "tompion/tompionlaw05.NextAll" = some 5 by kernel_rfl).symm.trans hf) |>.symm
  obtain rfl : fn = Tryz.f5 := (Option.some.inj (Tryz.func5.symm.trans hfn)).symm
  refine ⟨by kernel_rfl, fun j t ht => ?_⟩
  rw [Tryz.params5] at ht
  have hm := Array.mem_of_getElem? ht
  simp at hm
  rcases hm with rfl | rfl
  · exact (show Tryz.prog.wantsStandIn 24 = false by kernel_rfl)
  · exact (show Tryz.prog.wantsStandIn 3 = false by kernel_rfl)

/-- The statement: the card, its tables tied to the program's text. -/
theorem proved : Rows.NextAllCardSaid :=
  Claim7.holds_tied_plain_at .later [] _ _ _ _ said (fun _ h => by cases h) (by kernel_rfl) (fun _ h => by cases h) nextAll_row_tie rfl ⟨rfl, rfl⟩ (by kernel_rfl) rfl plain (by kernel_rfl)
#print axioms proved
end Go.Proofs.YtohogchnjeddeaaGreatDoor.nextAll
