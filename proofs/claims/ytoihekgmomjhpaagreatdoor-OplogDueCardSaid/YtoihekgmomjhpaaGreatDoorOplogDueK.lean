/-
  OplogDue: what is due is due: each fire that is told does something, if it is appended; then nothing of that is due any more at that time. No condition but what the card lists.
-/
import Derived.Test.YtoihekgmomjhpaaGreatDoorKN5
import Derived.Test.YtoihekgmomjhpaaGreatDoorKT1
import Derived.Test.YtoihekgmomjhpaaGreatDoorKT2
import Derived.Test.YtoihekgmomjhpaaGreatDoorKO9
set_option linter.unusedVariables false
namespace Go.Proofs.YtoihekgmomjhpaaGreatDoor.oplogDue
open Go.ChangeShapes Go.WideShapes Go.ChangeAt Go.RowKit Go.MapKept Crn Nxt Ste
open Go.ChangeMaps (open_string shut_string)

set_option linter.unusedSimpArgs false
/-- What stays from round to round: of the first row. -/
structure SJ (w2 wr : World) (b wb lb k : Nat) : Prop where
  ex : ∃ m s c l x g, Lx w2 wr b s c wb 0 l x g [] (fun _ => True) ∧ Inv m s c l g ∧ x.lb = lb ∧ m ≤ k
/-- .. of the second. -/
structure SD (w2 wr : World) (b wb lb m N : Nat) (T0 : List Tm) (D : List Whl.ItemN) (now : Int) (p : Option Addr) (cap k : Nat) : Prop where
  ex : ∃ s c l x g, Lx w2 wr b s c wb N l x g (rowOf p ++ []) (fun V => ORow w2.heap.size V p cap (D.map (dueOp T0 now)) ∧ True) ∧ Inv (m + k) s c l g ∧ x.lb = lb ∧ DI T0 D now k s.T
set_option maxRecDepth 100000 in
set_option maxHeartbeats 16000000 in
theorem walk (timers : Int) (ht : i64 timers) (a : Option Addr) (n cap : Nat) (f : Nat → OpN) (now : Int) (hnow : i64 now) (w : World) (tb : Tab w) (nt : NTab w) (hf : Ops w a n f) (hn : n ≤ 9223372036854775807) :
    Calls Tryz.prog 6 #[.int .i64 timers, .slice a n cap, .int .i64 now] w fun e w' => e = .returned (.bool true) ∧ Below w.heap.size w w' := by
  have hpos : topTab < w.heap.size := by
    have h1 := tb.size
    have h2 := nt.size
    unfold topTab
    omega
  have cw := Lib.hid (fun W (h : Below w.heap.size w W) => awake_any W (tb.below h) (nt.below h))
  have cf := Lib.hid (fun W (h : Below w.heap.size w W) => few_any W a n cap f (hf.keep h) hn)
  replace tb := Lib.hid tb
  replace nt := Lib.hid nt
  replace hf := Lib.hid hf
  replace hpos := Lib.hid hpos
  clear hn
  go_enter Tryz.func6, Tryz.ntmps6
  go_wp2_with fail
  refine (cw.out _ (Below.refl _ _)).mono ?_
  rintro e w1 ⟨rfl, k1⟩
  replace k1 := Lib.hid k1
  go_wp2_with fail
  refine (cf.out _ k1.out).mono ?_
  rintro e w2 ⟨⟨r, rfl, hr⟩, hw2⟩
  subst hw2
  by_cases hgo : r = true ∧ n ≤ 60
  · obtain ⟨rfl, hn60⟩ := hgo
    have hF := Lib.hid (hr rfl)
    have hgt : decide ((60 : Int) < (n : Int)) = false := by simp; omega
    clear hr cf cw
    have tb2 := Lib.hid (tb.out.below k1.out)
    have nt2 := Lib.hid (nt.out.below k1.out)
    have cN := Lib.hid (newLog_any timers ht w2 (Nat.lt_of_lt_of_le hpos.out k1.out.size) nt2.out.bru)
    have hf2 := Lib.hid (hf.out.keep k1.out)
    clear tb nt hf
    obtain ⟨N, hN, hN2⟩ : ∃ N : Nat, wrap64 ((IntKind.u64.wrap now).tmod 274877906944) = (N : Int) ∧ N < 274877906944 := by
      have hU : 0 ≤ IntKind.u64.wrap now := by simp [IntKind.wrap, IntKind.signed, IntKind.bits]; omega
      generalize IntKind.u64.wrap now = U at hU
      rw [Int.tmod_eq_emod_of_nonneg hU]
      refine ⟨(U % 274877906944).toNat, ?_, by omega⟩
      have h1 : wrap64 (U % 274877906944) = U % 274877906944 := by unfold wrap64; omega
      rw [h1]
      omega
    go_wp2_with fail
    simp only [hN]
    generalize (IntKind.u64.wrap now).tmod 274877906944 = U at *
    generalize IntKind.u64.wrap now = U2 at *
    clear hN
    refine cN.out.mono ?_
    rintro e w3 ⟨b, wb, x, rfl, h3⟩
    generalize hlb : x.lb = lb at *
    have I3 := Lib.hid (SJ.mk (k := 0) (lb := lb) ⟨0, newN timers, 0, [], x, g0, h3, inv_new timers, hlb, Nat.le_refl 0⟩)
    clear h3 cN hlb x
    go_wp2_with fail
    go_loopw [39] (fun v39 wr => ∃ k : Nat, v39 = .int .i64 k ∧ (k : Int) ≤ n ∧ Hid (SJ w2 wr b wb lb k)) (fun v39 _ => ((n : Int) - intOf v39).toNat)
    case atStart => exact ⟨0, rfl, by omega, I3⟩
    case round =>
      obtain ⟨k, rfl, hk, hI⟩ := hrel
      obtain ⟨m, s, c, l, x, g, X, I, hlb, hmk⟩ := hI.out.ex
      clear I3 hI
      by_cases hlt : (k : Int) < n
      · obtain ⟨bo, off, rfl, z, c0, c1, c2, c3, c4, c5, c6, c7, c8, c9⟩ := (hf2.out.keep X.lw.bel).at k (by omega)
        have hok := Lib.hid (hF.out.ok (i := k) (by omega) z)
        have hwk : IntKind.i64.wrap ((k : Int) + 1) = (k : Int) + 1 := IntWalk.i64_in _ (by omega)
        clear z
        generalize f k = o at *
        have X1 := X.alloc (opO o)
        obtain ⟨p0, p1, p2, p3, p4, p5, p6, p7, p8, p9⟩ := op_cells (Go.heap_alloc_new wr (opO o))
        by_cases hcr : o.cron.size ≤ 256
        · have cA := X1.push I tb2.out nt2.out (by omega) o hok.out hcr
          rw [hlb] at cA
          replace cA := Lib.hid cA
          clear X X1 I
          go_wp2_with fail
          refine cA.out.mono ?_
          rintro e w4 ⟨rfl, x4, l4, hlb4, X4, I4⟩
          have I5 := Lib.hid (SJ.mk (k := k + 1) ⟨m + 1, _, c + 1, l4, x4, _, X4, I4, hlb4, by omega⟩)
          clear cA X4 I4 p0 p1 p2 p3 p4 p5 p6 p7 p8 p9 c0 c1 c2 c3 c4 c5 c6 c7 c8 c9
          go_wp2_with fail
          exact ⟨⟨k + 1, by go_num, by omega, I5⟩, by simp [intOf]; omega⟩
        · have cA := Lib.hid (appendLong_any X1.lp o (by rw [I.ops]; omega) (by omega))
          rw [hlb] at cA
          go_wp2_with fail
          refine cA.out.mono ?_
          rintro e w4 ⟨rfl, k4⟩
          have I5 := Lib.hid (SJ.mk (k := k + 1) ⟨m, s, c, l, x, g, X1.below k4, I, hlb, by omega⟩)
          clear cA X1 X I p0 p1 p2 p3 p4 p5 p6 p7 p8 p9 c0 c1 c2 c3 c4 c5 c6 c7 c8 c9
          go_wp2_with fail
          exact ⟨⟨k + 1, by go_num, by omega, I5⟩, by simp [intOf]; omega⟩
      · have hT16 : s.T.length ≤ 16 := by have := X.lw.ok.full; have := X.lw.ok.room1; omega
        have hNN : max 0 (min (N : Int) 1099511627776).toNat = N := by omega
        have hD := dok_of I.win hT16 (N := N) (now := (N : Int)) rfl
        have hI0 := di_start X.lw.ok I.win (N := N) (now := (N : Int)) rfl
        have hll := I.win.len
        have cD := due_any X (win_small X.lw.ok I.due I.win) (by omega) (N : Int) 100 (by constructor <;> omega)
        rw [hNN, due_all hD, hlb] at cD
        have hoo := Lib.hid (fun p hp => due_ok X.lw.ok (by omega) hD (p := p) hp)
        have hm60 : m ≤ 60 := by omega
        replace cD := Lib.hid cD
        go_wp2_with fail
        refine cD.out.mono ?_
        rintro e w4 ⟨p, cq, rfl, -, X4⟩
        have hlen := hD.len
        have X5 : Hid (SD w2 w4 b wb lb m N s.T (W.dueBy l N) (N : Int) p cq 0) := ⟨s, c, l, x, g, X4, I, hlb, hI0⟩
        have hap := Lib.hid hD.each
        replace hD := Lib.hid hD
        clear cD X X4 I hI0 hll hlb hT16 hNN
        generalize W.dueBy l N = D at *
        go_wp2_with fail
        go_loopw [52] (fun v52 wr => ∃ k : Nat, v52 = .int .i64 k ∧ (k : Int) ≤ D.length ∧ Hid (SD w2 wr b wb lb m N s.T D (N : Int) p cq k)) (fun v52 _ => ((D.length : Int) - intOf v52).toNat)
        case atStart => exact ⟨0, rfl, by omega, X5⟩
        case round =>
          obtain ⟨k, rfl, hk, hI⟩ := hrel
          obtain ⟨s1, c1, l1, x1, g1, X, I1, hlb1, hdi⟩ := hI.out.ex
          clear X5 hI
          have hokS := X.lw.ok
          by_cases hkd : (k : Int) < D.length
          · have hkl : k < D.length := by omega
            obtain ⟨gp, rfl, hat⟩ := X.pp.1.at (fun _ => rfl) k (by simpa using hkl)
            simp only [List.getElem_map] at hat
            have hds := Lib.hid (fun ok1 => di_step hokS hD.out hdi hkl ok1)
            have ho := hoo.out _ (List.getElem_mem hkl)
            have hle := hap.out _ (List.getElem_mem hkl)
            generalize D[k] = q at *
            obtain ⟨qa, qi⟩ := q
            have hy : dueOp s.T (N : Int) (qa, qi) = ⟨3, 0, 0, (qi : Int), (valT s.T (qi : Int)).gen, (qa : Int), 0, (N : Int), 0, ⟨#[]⟩⟩ := rfl
            simp only [hy] at hat ho hds
            clear hy
            simp only at hle hds
            generalize (valT s.T (qi : Int)).gen = ge at *
            have d0 := hat 0 _ rfl
            have d1 := hat 1 _ rfl
            have d2 := hat 2 _ rfl
            have d3 := hat 3 _ rfl
            have d4 := hat 4 _ rfl
            have d5 := hat 5 _ rfl
            have d6 := hat 6 _ rfl
            have d7 := hat 7 _ rfl
            have d8 := hat 8 _ rfl
            have d9 := hat 9 _ rfl
            rw [Nat.add_zero] at d0
            have X1 := X.tmp (opO ⟨3, 0, 0, (qi : Int), ge, (qa : Int), 0, (N : Int), 0, ⟨#[]⟩⟩)
            have cA := X1.push I1 tb2.out nt2.out (by omega) ⟨3, 0, 0, (qi : Int), ge, (qa : Int), 0, (N : Int), 0, ⟨#[]⟩⟩ ho (Nat.zero_le _)
            rw [hlb1] at cA
            replace cA := Lib.hid cA
            have hfu := Lib.hid I1.fup
            have hst0 : Hid (Stab (rowOf (some ⟨gp, 0, none⟩) ++ []) (fun V => ORow w2.heap.size V (some ⟨gp, 0, none⟩) cq (D.map (dueOp s.T (N : Int))) ∧ True)) := X.st
            have hfl := I1.fir
            have hgo := I1.ops
            clear X X1 I1 hat ho hdi
            obtain ⟨p0, p1, p2, p3, p4, p5, p6, p7, p8, p9⟩ := op_cells (Go.heap_alloc_new wr (opO ⟨3, 0, 0, (qi : Int), ge, (qa : Int), 0, (N : Int), 0, ⟨#[]⟩⟩))
            simp only [] at p0 p1 p2 p3 p4 p5 p6 p7 p8 p9
            go_wp2_with fail
            refine cA.out.mono ?_
            rintro e w5 ⟨rfl, x4, l4, hlb4, X4, I4⟩
            obtain ⟨hr, hdi4⟩ := hds.out X4.lw.ok
            have hff := appG_fires g1 s1 ⟨3, 0, 0, (qi : Int), ge, (qa : Int), 0, (N : Int), 0, ⟨#[]⟩⟩
            rw [hr] at hff ⊢
            unfold fireOf at hff
            rw [if_pos ⟨rfl, rfl⟩, hgo] at hff
            simp only at hff
            generalize (valT s1.T (qi : Int)).client = cl at *
            generalize appG g1 s1 _ = g4 at *
            generalize (applyN s1 _).1 = s4 at *
            have X5 := X4.tmp (.cells (rpC ⟨0, ge, (qa : Int)⟩) 34)
            have cF := fireLast_any X5.lp g1.fires _ hff (fun f hf => by have := hfu.out f hf; show f.1 < ((m + k + 1 : Nat) : Int); omega) (by omega)
            have em : ((m + k + 1 : Nat) : Int) = (m : Int) + k + 1 := by omega
            simp only [em] at cF
            rw [hlb4] at cF
            replace cF := Lib.hid cF
            replace X5 := Lib.hid X5
            replace I4 := Lib.hid I4
            replace hdi4 := Lib.hid hdi4
            clear cA X4 d0 d1 d2 d3 d4 d5 d6 d7 d8 d9 p0 p1 p2 p3 p4 p5 p6 p7 p8 p9 hff hr hds
            unfold rpV
            go_wp2_with fail
            refine cF.out.mono ?_
            rintro e w6 ⟨rfl, k6⟩
            have X7 := (X5.out.below k6).alloc (.cells (fireC (((m + k + 1 : Nat) : Int), cl, (qi : Int), ge, (qa : Int), (N : Int))) 71)
            have t0 := cell_in X7.pp.1 0
            have t5 := cell_in X7.pp.2.1 5
            have t7 := cell_in X7.pp.2.1 7
            have u4 := cell_in (Go.heap_alloc_new w6 (.cells (fireC (((m + k + 1 : Nat) : Int), cl, (qi : Int), ge, (qa : Int), (N : Int))) 71)) 4
            have X8 := (X7.pop (stab_cons _ _ hst0.out)).pop hst0.out
            simp only [em] at t0 t5 t7 u4 X8
            have X9 := Lib.hid (SD.mk (k := k + 1) ⟨s4, c1 + 1, l4, x4, g4, X8, I4.out, hlb4, hdi4.out⟩)
            have hle1 : (qa : Int) ≤ (N : Int) := hle.2.1
            have hle2 : decide ((N : Int) < (qa : Int)) = false := decide_eq_false (by omega)
            clear X7 X8 X5 cF k6 I4 hdi4 hfu hst0 hle hokS
            go_wp2_with fail
            exact ⟨⟨k + 1, by go_num, by omega, X9⟩, by simp [intOf]; omega⟩
          · obtain rfl : k = D.length := by omega
            have hde := di_end (N := N) rfl hdi I1.win 100
            have hNN : max N (min (N : Int) 1099511627776).toNat = N := by omega
            have hll := I1.win.len
            have hT16 : s1.T.length ≤ 16 := by have := hokS.full; have := hokS.room1; omega
            have cD := due_any X (win_small hokS I1.due I1.win) (by omega) (N : Int) 100 (by constructor <;> omega)
            rw [hNN, hde, hlb1] at cD
            replace cD := Lib.hid cD
            have hl16 : (D.length : Int) ≤ 16 := by omega
            clear X I1 hdi hde hll hT16 hokS hNN
            go_wp2_with fail
            refine cD.out.mono ?_
            rintro e w5 ⟨p5, q5, rfl, -, X5⟩
            replace X5 := Lib.hid X5
            clear cD
            go_wp2_with fail
            go_ret
            exact ⟨rfl, k1.out.trans (X5.out.lw.bel.mono k1.out.size)⟩
  · clear cf
    cases r with
    | false =>
      go_wp2_with fail
      refine (cw.out _ k1.out).mono ?_
      rintro e w3 ⟨rfl, k3⟩
      go_wp2_with fail
      go_ret
      exact ⟨rfl, k1.out.trans (k3.mono k1.out.size)⟩
    | true =>
      have hn60 : (60 : Int) < (n : Int) := by
        have : ¬ n ≤ 60 := fun e => hgo ⟨rfl, e⟩
        omega
      clear hr
      go_wp2_with fail
      refine (cw.out _ k1.out).mono ?_
      rintro e w3 ⟨rfl, k3⟩
      go_wp2_with fail
      go_ret
      exact ⟨rfl, k1.out.trans (k3.mono k1.out.size)⟩


set_option maxRecDepth 100000 in
theorem contract (H : Type) (enc : TypeId × Value → H) (W : World) (base : Nat) (args : Array Value) (ds gs : List (DataW H)) (before : List MemPlace)
    (hval : ∀ (j : Nat) t v, Tryz.f6.params[j]? = some t → args[j]? = some v → Value.okWide Tryz.prog W .any base t v)
    (hW : DataW.Whole enc Tryz.prog Tryz.f6.params.toList Rows.oplogDueSpec.vars false W args.toList ds gs before) (hL : laidMetH Tryz.prog Rows.oplogDueRow.laid W) (hS : W.ShapedOpen Tryz.prog) :
    Calls Tryz.prog 6 args W fun e W' => ∃ v, e = .returned v ∧ Rows.oplogDueSpec.post enc Tryz.prog Tryz.f6 false true false false W args v W' := by
  have hW' := hW
  obtain ⟨p, q, hA0, hV, rfl, hfz, hnd⟩ := hW
  have hA : DataW.TrodAll enc Tryz.prog W 0 (fun _ => true) true Tryz.f6.params.toList args.toList ds p := hA0
  rw [Tryz.params6] at hA hval
  obtain ⟨v0, vs0, d0, ds0, p0, q0, hargs, rfl, rfl, h0, r0⟩ := trodAll_cons hA
  obtain ⟨v1, vs1, d1, ds1, p1, q1, rfl, rfl, rfl, h1, r1⟩ := trodAll_cons r0
  obtain ⟨v2, vs2, d2, ds2, p2, q2, rfl, rfl, rfl, h2, r2⟩ := trodAll_cons r1
  obtain ⟨rfl, rfl, rfl⟩ := trodAll_nil r2
  obtain rfl : args = #[v0, v1, v2] := by clear hL hS hW' hval; cases args; simp_all
  obtain ⟨rfl, rfl⟩ := trodVars_none hV
  obtain ⟨a0, rfl, rfl, rfl, w0⟩ := open_int Tryz.underlying3 (hval 0 3 v0 rfl rfl) h0
  obtain ⟨b1, len1, cap1, rfl⟩ := okWide_slice Tryz.underlying22 (hval 1 22 v1 rfl rfl)
  have k1 := h1
  have lt1 : ∀ x ∈ p1, x.block < W.heap.size := by obtain ⟨m, hm⟩ := k1; exact DataW.trod_lt m _ _ _ hm
  obtain ⟨f1, tx1, ln1⟩ : ∃ f, Ops W b1 len1 f ∧ len1 ≤ 9223372036854775807 := by
    obtain ⟨fuel, hf⟩ := h1
    exact ops_of hf
  obtain ⟨a2, rfl, rfl, rfl, w2⟩ := open_int Tryz.underlying3 (hval 2 3 v2 rfl rfl) h2
  clear hA0
  simp only [List.append_nil] at hW'
  refine (walk a0 (wf_i64 w0) b1 len1 cap1 f1 a2 (wf_i64 w2) W (table hL hS) (tables hL hS) tx1 ln1).mono fun e W' ⟨he, hg⟩ => ?_
  subst he
  exact ⟨_, rfl, _, _, _, [], _, [], hW', trodAll_cons_mk (shut_bool Tryz.underlying4 _) trodAll_mk0, trodAll_cons_mk (shut_int Tryz.underlying3 w0) (trodAll_cons_mk (Below.trod laidOut8 (by kernel_rfl) (of_decide_eq_true (by kernel_rfl)) k1 hg lt1) (trodAll_cons_mk (shut_int Tryz.underlying3 w2) trodAll_mk0)), rfl, hg.frame _, fun h => by cases h⟩

theorem reads (os : Os) {H : Type} (enc : TypeId × Value → H) : ∃ places, DataW.whole enc Tryz.prog ((laidWorld os).forCall (fun _ _ => 0) ⟨#[], #[.int .i64 0, .slice none 0 0, .int .i64 0], []⟩).memory Tryz.f6.params.toList Rows.oplogDueSpec.vars false (#[.int .i64 0, .slice none 0 0, .int .i64 0] : Array Value).toList 8 = some ([.lit (.int .i64 0), .nil, .lit (.int .i64 0)], [], places) :=
  ⟨[], by kernel_rfl⟩

set_option maxRecDepth 100000 in
theorem lifted (os : Os) (started : os.Started) (H : Type) (enc : TypeId × Value → H) (F : Stop.Interp) :
    ReturnsInHanded {} Tryz.checked os 6 .any ((OpenSpec.ofChange Rows.oplogDueSpec).preRow enc Tryz.prog Tryz.f6 Rows.oplogDueRow.domain false Rows.oplogDueRow.laid) (((OpenSpec.ofChange Rows.oplogDueSpec).at F).post enc Tryz.prog Tryz.f6 false true false false) := by
  obtain ⟨places, hx⟩ := reads os enc
  refine returnsInHanded_of_row (C := Tryz.checked) (s := OpenSpec.ofChange Rows.oplogDueSpec) ownKb started (by kernel_rfl) Tryz.func6
    (witness_row_at (enc := enc) (C := Tryz.checked) false (laidWorld os) #[.int .i64 0, .slice none 0 0, .int .i64 0] (World.laidAll_os _ _ _) (by kernel_rfl) (by kernel_rfl) (by kernel_rfl)
      (OpenSpec.preRow_of_cond 8 hx (by kernel_rfl) (fun k hk => by cases hk) (by kernel_rfl) (laid_met os _))) ?_
  intro W base args ds gs before hval hW _ _ _ hL hS _
  exact contract H enc W base args ds gs before hval hW hL hS

theorem said : Rows.OplogDueSaid :=
  OpenClaim.holds_of_cond 6 Tryz.f6 rfl rfl rfl rfl rfl rfl rfl ⟨rfl, rfl, rfl, rfl, rfl⟩ rfl rfl rfl rfl rfl (by kernel_rfl) Tryz.func6 (by kernel_rfl)
    (of_decide_eq_true (by kernel_rfl)) (by unfold Func.isWrapper; first | (rw [if_pos (by decide +kernel)]; kernel_rfl) | (rw [if_neg (by decide +kernel)]; exact ⟨rfl, rfl⟩))
    (fun os started H enc _ F => by rw [OpenClaim.pre_eq_preRow]; exact lifted os started H enc F)

theorem plain (f : FuncId) (fn : Func) (hf : Tryz.pinned.checked.prog.funcNamed "tompion/tompionlaw09.OplogDue" = some f) (hfn : Tryz.pinned.checked.prog.funcs[f]? = some fn) :
    false = Tryz.pinned.checked.prog.looks [] ∧ ∀ (j : Nat) t, fn.params[j]? = some t → Tryz.pinned.checked.prog.wantsStandIn t = false := by
  obtain rfl : f = 6 := Option.some.inj ((show Tryz.prog.funcNamed "tompion/tompionlaw09.OplogDue" = some 6 by kernel_rfl).symm.trans hf) |>.symm
  obtain rfl : fn = Tryz.f6 := (Option.some.inj (Tryz.func6.symm.trans hfn)).symm
  refine ⟨by kernel_rfl, fun j t ht => ?_⟩
  rw [Tryz.params6] at ht
  have hm := Array.mem_of_getElem? ht
  simp at hm
  replace hm : t = 3 ∨ t = 22 := by first | (rcases hm with e | e | e <;> simp [e]) | (rcases hm with e | e <;> simp [e])
  rcases hm with rfl | rfl
  · exact (show Tryz.prog.wantsStandIn 3 = false by kernel_rfl)
  · exact (show Tryz.prog.wantsStandIn 22 = false by kernel_rfl)

/-- The statement: the card, its tables tied to the program's text. -/
theorem proved : Rows.OplogDueCardSaid :=
  Claim7.holds_tied_plain_at .later [] _ _ _ _ said (fun _ h => by cases h) (by kernel_rfl) (fun _ h => by cases h) oplogDue_row_tie rfl ⟨rfl, rfl⟩ (by kernel_rfl) rfl plain (by kernel_rfl)
#print axioms proved
end Go.Proofs.YtoihekgmomjhpaaGreatDoor.oplogDue
