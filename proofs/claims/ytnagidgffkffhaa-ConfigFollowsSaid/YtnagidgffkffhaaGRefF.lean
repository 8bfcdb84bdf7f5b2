/-
  Layer 11: which chain may come behind which: the document's Follows. Condition: chains of at most 2^62 seats.
-/
import Derived.Test.YtnagidgffkffhaaGRef3
import Derived.Test.YtnagidgffkffhaaGPlain4
set_option linter.unusedVariables false
set_option linter.unusedSimpArgs false
namespace Go.Proofs.Ytnagidgffkffhaa.G
open Go.RowKit Cfg
set_option maxRecDepth 100000
abbrev oF_0 : Oper := { dst := some 37, op := Go.Op.load 24 (Go.Operand.tmp 2), type := 24, pos := "ref.go:218", after := #[], guard := none }
abbrev oF_1 : Oper := { dst := some 38, op := Go.Op.fieldAddr 24 (Go.Operand.tmp 2) 1, type := 0, pos := "ref.go:218", after := #[], guard := none }
abbrev oF_2 : Oper := { dst := some 39, op := Go.Op.load 22 (Go.Operand.tmp 38), type := 22, pos := "ref.go:218", after := #[{ on := 1, ground := Go.Ground.data }], guard := none }
abbrev oF_3 : Oper := { dst := some 40, op := Go.Op.move (Go.Operand.tmp 5), type := 3, pos := "ref.go:218", after := #[], guard := none }
abbrev oF_4 : Oper := { dst := some 41, op := Go.Op.indexAddr 22 (Go.Operand.tmp 39) (Go.Operand.tmp 40), type := 0, pos := "ref.go:218", after := #[{ on := 2, ground := Go.Ground.data }, { on := 3, ground := Go.Ground.data }], guard := none }
abbrev oF_5 : Oper := { dst := some 42, op := Go.Op.fieldAddr 70 (Go.Operand.tmp 41) 0, type := 0, pos := "ref.go:218", after := #[{ on := 4, ground := Go.Ground.data }], guard := none }
abbrev oF_6 : Oper := { dst := some 43, op := Go.Op.load 26 (Go.Operand.tmp 42), type := 26, pos := "ref.go:218", after := #[{ on := 5, ground := Go.Ground.data }], guard := none }
abbrev oF_7 : Oper := { dst := some 44, op := Go.Op.call { callee := Go.Callee.value (Go.Operand.func 30), args := #[Go.Operand.tmp 37, Go.Operand.tmp 43], argTypes := #[24, 26] }, type := 44, pos := "ref.go:218", after := #[{ on := 0, ground := Go.Ground.data }, { on := 6, ground := Go.Ground.data }], guard := none }
abbrev oF_8 : Oper := { dst := some 36, op := Go.Op.move (Go.Operand.tmp 44), type := 44, pos := "ref.go:218", after := #[{ on := 7, ground := Go.Ground.data }], guard := none }
abbrev oF_9 : Oper := { dst := some 45, op := Go.Op.extract (Go.Operand.tmp 36) 0, type := 24, pos := "ref.go:218", after := #[{ on := 8, ground := Go.Ground.data }], guard := none }
abbrev oF_10 : Oper := { dst := some 46, op := Go.Op.extract (Go.Operand.tmp 36) 1, type := 3, pos := "ref.go:218", after := #[{ on := 8, ground := Go.Ground.data }, { on := 12, ground := Go.Ground.gcOnly Go.Departure.lateStores }], guard := none }
abbrev oF_11 : Oper := { dst := some 6, op := Go.Op.alloc 24, type := 0, pos := "ref.go:218", after := #[], guard := none }
abbrev oF_12 : Oper := { dst := none, op := Go.Op.store 24 (Go.Operand.tmp 6) (Go.Operand.tmp 45), type := 0, pos := "ref.go:218", after := #[{ on := 11, ground := Go.Ground.data }, { on := 9, ground := Go.Ground.data }, { on := 7, ground := Go.Ground.chain }, { on := 0, ground := Go.Ground.phase }, { on := 1, ground := Go.Ground.phase }, { on := 2, ground := Go.Ground.phase }, { on := 3, ground := Go.Ground.phase }, { on := 4, ground := Go.Ground.phase }, { on := 5, ground := Go.Ground.phase }, { on := 6, ground := Go.Ground.phase }, { on := 7, ground := Go.Ground.phase }, { on := 8, ground := Go.Ground.phase }, { on := 9, ground := Go.Ground.phase }, { on := 10, ground := Go.Ground.textOnly Go.Departure.lateStores }, { on := 11, ground := Go.Ground.phase }], guard := none }
abbrev oF_13 : Oper := { dst := some 7, op := Go.Op.assign (Go.Operand.tmp 46), type := 3, pos := "ref.go:218", after := #[{ on := 10, ground := Go.Ground.data }, { on := 12, ground := Go.Ground.chain }, { on := 0, ground := Go.Ground.phase }, { on := 1, ground := Go.Ground.phase }, { on := 2, ground := Go.Ground.phase }, { on := 3, ground := Go.Ground.phase }, { on := 4, ground := Go.Ground.phase }, { on := 5, ground := Go.Ground.phase }, { on := 6, ground := Go.Ground.phase }, { on := 7, ground := Go.Ground.phase }, { on := 8, ground := Go.Ground.phase }, { on := 9, ground := Go.Ground.phase }, { on := 10, ground := Go.Ground.phase }, { on := 11, ground := Go.Ground.phase }, { on := 12, ground := Go.Ground.phase }], guard := none }
section
variable {w w3 w4 : World} {va vb : Value} {e0 e1 : Int}
theorem Bw.alloc (h : Bw w va vb e0 e1 w3) (o : Obj) : Bw w va vb e0 e1 (w3.alloc o) := h.below ((Below.refl _ _).alloc (Nat.le_refl _) _)
theorem Bw.setf (h : Bw w va vb e0 e1 w3) {q i : Nat} {v : Value} (hq : w.heap.size + 1 < q) : Bw w va vb e0 e1 (w3.setCell ⟨q, i, none⟩ v) := ⟨h.k.setf (by omega), h.z.setf (by omega), bset h.b (by omega)⟩
end
theorem sync_le' (c : CfN) (m : MbN) : (syncN c m).1.l.length ≤ c.l.length := by
  unfold syncN zeroN
  split
  · simp
  split
  · simp
  split
  · simp
  · simp [setN]
theorem join_le' (c : CfN) (m : MbN) : (joinN c m).1.l.length ≤ c.l.length + 1 := join_le c m
set_option maxHeartbeats 8000000 in
theorem refFollows_any (a b : CfN) (p q : Option Addr) (pc qc : Nat) (w : World) (t : Chn w p a.l) (u : Chn w q b.l) (hpc : a.l.length ≤ pc) (hqc : b.l.length ≤ qc) (ha : a.l.length ≤ 4611686018427387904) (hb : b.l.length ≤ 4611686018427387904) :
    Calls Try.prog 32 #[cfV a p pc, cfV b q qc] w fun e w' => e = .returned (.bool (followsN a b)) ∧ Below w.heap.size w w' := by
  have x := Lib.hid (Bw.new w (.slice p a.l.length pc) (.slice q b.l.length qc) a.epoch b.epoch)
  have hRa : Hid (∀ W, Chn W p a.l → Calls Try.prog 22 #[.agg #[.int .i64 a.epoch, .slice p a.l.length pc]] W fun e w' => e = .returned (.bool (rightN a)) ∧ Below W.heap.size W w') := fun W tW => refRight_any a p pc W tW hpc ha
  have hRb : Hid (∀ W, Chn W q b.l → Calls Try.prog 22 #[.agg #[.int .i64 b.epoch, .slice q b.l.length qc]] W fun e w' => e = .returned (.bool (rightN b)) ∧ Below W.heap.size W w') := fun W tW => refRight_any b q qc W tW hqc hb
  have hsm : Hid (∀ W, Chn W p a.l → Chn W q b.l → Calls Try.prog 13 #[.agg #[.int .i64 a.epoch, .slice p a.l.length pc], .agg #[.int .i64 b.epoch, .slice q b.l.length qc]] W fun e w' => e = .returned (.bool (decide (a = b))) ∧ Below W.heap.size W w') := fun W h1 h2 => same_any a b p q pc qc W h1 h2 ha hb
  have hsd : Hid (∀ d p8 n8 W, Chn W p8 d.l → Chn W q b.l → d.l.length ≤ 4611686018427387904 → Calls Try.prog 13 #[.agg #[.int .i64 d.epoch, .slice p8 d.l.length n8], .agg #[.int .i64 b.epoch, .slice q b.l.length qc]] W fun e w' => e = .returned (.bool (decide (d = b))) ∧ Below W.heap.size W w') := fun d p8 n8 W h1 h2 h3 => same_any d b p8 q n8 qc W h1 h2 h3 hb
  obtain ⟨J, hJ⟩ : ∃ J, followsN a b = J := ⟨_, rfl⟩
  rw [hJ]
  have hJ0 : Hid (rightN a = false → J = false) := fun h => by rw [← hJ]; unfold followsN; rw [h]; rfl
  have hJ1 : Hid (rightN b = false → J = false) := fun h => by rw [← hJ]; unfold followsN; rw [h, Bool.false_and, Bool.and_false]
  have hra : Hid (rightN a = true → RightP a) := fun h => right_iff.1 h
  have hrb : Hid (rightN b = true → RightP b) := fun h => right_iff.1 h
  generalize rightN a = ra at *
  generalize rightN b = rb at *
  replace t := Lib.hid t
  replace u := Lib.hid u
  obtain ⟨e0, l⟩ := a
  obtain ⟨e1, m⟩ := b
  replace hpc := Lib.hid hpc
  replace hqc := Lib.hid hqc
  replace ha := Lib.hid ha
  replace hb := Lib.hid hb
  replace hJ := Lib.hid hJ
  have y0 := x.out.k.cell 0
  have y1 := x.out.k.cell 1
  try dsimp only at y0 y1
  go_enter Try.func32, Try.ntmps32
  go_wp2_with fail
  refine (hRa.out _ (t.out.below x.out.b)).mono ?_
  rintro e w2 ⟨rfl, b2⟩
  replace x := Lib.hid (x.out.below b2)
  clear b2 y0 y1
  cases ra with
  | false =>
    have hj := Lib.hid (hJ0.out rfl)
    go_wp2_with fail
    go_ret
    exact ⟨by rw [hj.out]; rfl, x.out.b⟩
  | true =>
  have z0 := x.out.z.cell 0
  have z1 := x.out.z.cell 1
  try dsimp only at z0 z1
  go_wp2_with fail
  refine (hRb.out _ (u.out.below x.out.b)).mono ?_
  rintro e w3 ⟨rfl, b3⟩
  replace x := Lib.hid (x.out.below b3)
  clear b3 z0 z1
  cases rb with
  | false =>
    have hj := Lib.hid (hJ1.out rfl)
    go_wp2_with fail
    go_ret
    exact ⟨by rw [hj.out]; rfl, x.out.b⟩
  | true =>
  have pa := Lib.hid (hra.out (by first | rfl | trivial))
  have pb := Lib.hid (hrb.out (by first | rfl | trivial))
  have hl8 : l.length ≤ 8 := pa.out.n2
  have hm8 : m.length ≤ 8 := pb.out.n2
  have hm1 : 1 ≤ m.length := pb.out.n1
  have ea1 : 1 ≤ e0 := pa.out.e1
  have ea2 : e0 ≤ 1099511627776 := pa.out.e2
  have hlI : (l.length : Int) ≤ 8 := by omega
  have hmI : (m.length : Int) ≤ 8 := by omega
  clear hra hrb hJ0 hJ1 hRa hRb
  have y0 := x.out.k.cell 0
  have y1 := x.out.k.cell 1
  have z0 := x.out.z.cell 0
  have z1 := x.out.z.cell 1
  try dsimp only at y0 y1 z0 z1
  go_wp2_with fail
  refine (hsm.out _ (t.out.below x.out.b) (u.out.below x.out.b)).mono ?_
  rintro e w4 ⟨rfl, b4⟩
  replace x := Lib.hid (x.out.below b4)
  clear b4 y0 y1 z0 z1 hsm
  by_cases hab : (⟨e0, l⟩ : CfN) = ⟨e1, m⟩
  · rw [decide_eq_true hab]
    have hj : Hid (J = true) := by rw [← hJ.out]; exact (foll_same pa.out pb.out (by rw [hab])).2 (.inl hab)
    replace hab := Lib.hid hab
    go_wp2_with fail
    go_ret
    exact ⟨by rw [hj.out]; rfl, x.out.b⟩
  rw [decide_eq_false hab]
  replace hab := Lib.hid hab
  have y0 := x.out.k.cell 0
  have z0 := x.out.z.cell 0
  try dsimp only at y0 z0
  by_cases h0 : e0 = e1
  · have hq0 : (e0 == e1) = true := by rw [beq_iff_eq]; exact h0
    have hjf : Hid ((∀ j (hj : j < l.length), syncN ⟨e0, l⟩ l[j].m ≠ (⟨e1, m⟩, 0)) → J = false) := fun h => by
      rw [← hJ.out]
      refine Bool.eq_false_iff.2 fun e => ?_
      rcases (foll_same pa.out pb.out h0.symm).1 e with h1 | ⟨i, hi, h1⟩
      · exact hab.out h1
      · exact h i hi h1
    have hjt : Hid (∀ j (hj : j < l.length), syncN ⟨e0, l⟩ l[j].m = (⟨e1, m⟩, 0) → J = true) := fun j hj h => by
      rw [← hJ.out]
      exact (foll_same pa.out pb.out h0.symm).2 (.inr ⟨j, hj, h⟩)
    replace h0 := Lib.hid h0
    go_wp2_with fail
    clear y0 z0 hq0
    go_loopw [5] (fun v wr => ∃ i : Nat, v = .int .i64 i ∧ (i : Int) ≤ l.length ∧ Hid (∀ j (hj : j < l.length), j < i → syncN ⟨e0, l⟩ l[j].m ≠ (⟨e1, m⟩, 0)) ∧ Hid (Bw w (.slice p l.length pc) (.slice q m.length qc) e0 e1 wr)) (fun v _ => ((l.length : Int) - intOf v).toNat)
    case atStart => exact ⟨0, rfl, by omega, Lib.hid fun j hj h => by omega, x⟩
    case round =>
      obtain ⟨i, rfl, hi, hno, x5⟩ := hrel
      clear x
      have y1 := x5.out.k.cell 1
      try dsimp only at y1
      by_cases hlt : (i : Int) < l.length
      · have hil : i < l.length := by omega
        obtain ⟨b0, off, hpo, -, -, -⟩ := t.out i hil
        subst hpo
        have hcl : Hid (∀ W, Below w.heap.size w W → W.cell? ⟨b0, off + i * 3, none⟩ = some (.int .i64 l[i].m.node) ∧ W.cell? ⟨b0, off + i * 3 + 1, none⟩ = some (.int .i64 l[i].m.life)) := fun W hb => by
          obtain ⟨b', off', eb, d0, d1, d2⟩ := (t.out.below hb) i hil
          injection eb with eb
          injection eb with eb1 eb2
          subst eb1 eb2
          exact ⟨d0, d1⟩
        have hjt2 := Lib.hid (hjt.out i hil)
        have hno2 : Hid (syncN ⟨e0, l⟩ l[i].m ≠ (⟨e1, m⟩, 0) → ∀ j (hj : j < l.length), j < i + 1 → syncN ⟨e0, l⟩ l[j].m ≠ (⟨e1, m⟩, 0)) := fun e j hj h => by
          rcases Nat.lt_or_ge j i with h1 | h1
          · exact hno.out j hj h1
          · obtain rfl : j = i := by omega
            exact e
        generalize l[i].m = s at *
        obtain ⟨s0, s1⟩ := s
        dsimp only at hcl
        obtain ⟨d, er, hde⟩ : ∃ d er, syncN ⟨e0, l⟩ ⟨s0, s1⟩ = (d, er) := ⟨_, _, rfl⟩
        have hdl : d.l.length ≤ 4611686018427387904 := by have h := sync_le' ⟨e0, l⟩ ⟨s0, s1⟩; rw [hde] at h; dsimp only at h; omega
        have hsy : Hid (∀ W, Chn W (some ⟨b0, off, none⟩) l → Calls Try.prog 30 #[.agg #[.int .i64 e0, .slice (some ⟨b0, off, none⟩) l.length pc], .agg #[.int .i64 s0, .int .i64 s1]] W fun e w' => AnsC (d, er) W e w') := fun W tW => by
          have h := refSynced_any ⟨e0, l⟩ (some ⟨b0, off, none⟩) pc ⟨s0, s1⟩ W tW hpc.out (by dsimp only; omega)
          rw [hde] at h
          exact h
        rw [hde] at hjt2 hno2
        replace hde := Lib.hid hde
        go_upto_region 9 with fail
        clear y1
        have x := Lib.hid (x5.out.below (Below.refl _ _).drew)
        clear x5
        have hS : Hid (∀ W, Bw w (.slice (some ⟨b0, off, none⟩) l.length pc) (.slice q m.length qc) e0 e1 W → W.cell? ⟨w.heap.size, 0, none⟩ = some (.int .i64 e0) ∧ W.cell? ⟨w.heap.size, 1, none⟩ = some (.slice (some ⟨b0, off, none⟩) l.length pc) ∧ W.cell? ⟨b0, off + i * 3, none⟩ = some (.int .i64 s0) ∧ W.cell? ⟨b0, off + i * 3 + 1, none⟩ = some (.int .i64 s1)) := fun W h => ⟨h.k.cell 0, h.k.cell 1, hcl.out W h.b⟩
        refine wp_region_noPanic ?_
        refine wp_region_held_drew (S := (fun W => W.cell? ⟨w.heap.size, 0, none⟩ = some (.int .i64 e0) ∧ W.cell? ⟨w.heap.size, 1, none⟩ = some (.slice (some ⟨b0, off, none⟩) l.length pc) ∧ W.cell? ⟨b0, off + i * 3, none⟩ = some (.int .i64 s0) ∧ W.cell? ⟨b0, off + i * 3 + 1, none⟩ = some (.int .i64 s1))) (by kernel_rfl) ?hSoF_0 (fun hHeld => ?_)
        case hSoF_0 => ((try dsimp only); exact (hS.out _ x.out))
        generalize wr.drew = wD at *
        refine wpAnyH_take (i := 0) (oi := oF_0) (v := ?voF_1) rfl (by kernel_rfl) (by kernel_rfl) (by kernel_rfl) (fun _ _ _ h => h) (Or.inl ⟨by rfl, ?yoF_1⟩) (by assumption) ?roF_1
        case yoF_1 => (intro w hSw; (try dsimp only at hSw); unfold oF_0; go_simp; try with_reducible rfl)
        simp only [oF_0, Act.put, List.setIfInBounds_toArray, List.set_cons_zero, List.set_cons_succ]
        refine wpAnyH_take (i := 1) (oi := oF_1) (v := ?voF_2) rfl (by kernel_rfl) (by kernel_rfl) (by kernel_rfl) (fun _ _ _ h => h) (Or.inl ⟨by rfl, ?yoF_2⟩) (by assumption) ?roF_2
        case yoF_2 => (intro w hSw; (try dsimp only at hSw); unfold oF_1; go_simp; try with_reducible rfl)
        simp only [oF_1, Act.put, List.setIfInBounds_toArray, List.set_cons_zero, List.set_cons_succ]
        refine wpAnyH_take (i := 3) (oi := oF_3) (v := ?voF_3) rfl (by kernel_rfl) (by kernel_rfl) (by kernel_rfl) (fun _ _ _ h => h) (Or.inl ⟨by rfl, ?yoF_3⟩) (by assumption) ?roF_3
        case yoF_3 => (intro w hSw; (try dsimp only at hSw); unfold oF_3; go_simp; try with_reducible rfl)
        simp only [oF_3, Act.put, List.setIfInBounds_toArray, List.set_cons_zero, List.set_cons_succ]
        refine wpAnyH_take (i := 2) (oi := oF_2) (v := ?voF_4) rfl (by kernel_rfl) (by kernel_rfl) (by kernel_rfl) (fun _ _ _ h => h) (Or.inl ⟨by rfl, ?yoF_4⟩) (by assumption) ?roF_4
        case yoF_4 => (intro w hSw; (try dsimp only at hSw); unfold oF_2; go_simp; try with_reducible rfl)
        simp only [oF_2, Act.put, List.setIfInBounds_toArray, List.set_cons_zero, List.set_cons_succ]
        refine wpAnyH_take (i := 4) (oi := oF_4) (v := ?voF_5) rfl (by kernel_rfl) (by kernel_rfl) (by kernel_rfl) (fun _ _ _ h => h) (Or.inl ⟨by rfl, ?yoF_5⟩) (by assumption) ?roF_5
        case yoF_5 => (intro w hSw; (try dsimp only at hSw); unfold oF_4; go_simp; try with_reducible rfl)
        simp only [oF_4, Act.put, List.setIfInBounds_toArray, List.set_cons_zero, List.set_cons_succ]
        refine wpAnyH_take (i := 5) (oi := oF_5) (v := ?voF_6) rfl (by kernel_rfl) (by kernel_rfl) (by kernel_rfl) (fun _ _ _ h => h) (Or.inl ⟨by rfl, ?yoF_6⟩) (by assumption) ?roF_6
        case yoF_6 => (intro w hSw; (try dsimp only at hSw); unfold oF_5; go_simp; try with_reducible rfl)
        simp only [oF_5, Act.put, List.setIfInBounds_toArray, List.set_cons_zero, List.set_cons_succ]
        refine wpAnyH_take (i := 6) (oi := oF_6) (v := ?voF_7) rfl (by kernel_rfl) (by kernel_rfl) (by kernel_rfl) (fun _ _ _ h => h) (Or.inl ⟨by rfl, ?yoF_7⟩) (by assumption) ?roF_7
        case yoF_7 => (intro w hSw; (try dsimp only at hSw); unfold oF_6; go_simp; try with_reducible rfl)
        simp only [oF_6, Act.put, List.setIfInBounds_toArray, List.set_cons_zero, List.set_cons_succ]
        refine wpAnyH_ready (rs := [7, 11]) (by kernel_rfl) (by simp) ?_
        refine AllReadyH.cons (o := oF_7) rfl (fun K hK => ?_) ?_
        · clear hHeld
          unfold oF_7
          go_simp
          go_at_call 30
          refine (hsy.out _ (t.out.below x.out.b)).mono ?_
          rintro e woF1 ⟨⟨p8, n8, rfl, t8, h8⟩, b8⟩
          replace t8 := Lib.hid t8
          replace x := Lib.hid (x.out.below b8)
          clear b8 h8
          dsimp only
          refine hK.out _ _ ?hSoF_8 (fun hHeld => ?_)
          case hSoF_8 => ((try dsimp only); exact (hS.out _ x.out))
          clear hK K
          try simp only [Act.put, List.setIfInBounds_toArray, List.set_cons_zero, List.set_cons_succ]
          refine wpAnyH_take (i := 8) (oi := oF_8) (v := ?voF_9) rfl (by kernel_rfl) (by kernel_rfl) (by kernel_rfl) (fun _ _ _ h => h) (Or.inl ⟨by rfl, ?yoF_9⟩) (by assumption) ?roF_9
          case yoF_9 => (intro w hSw; (try dsimp only at hSw); unfold oF_8; go_simp; try with_reducible rfl)
          simp only [oF_8, Act.put, List.setIfInBounds_toArray, List.set_cons_zero, List.set_cons_succ]
          refine wpAnyH_take (i := 9) (oi := oF_9) (v := ?voF_10) rfl (by kernel_rfl) (by kernel_rfl) (by kernel_rfl) (fun _ _ _ h => h) (Or.inl ⟨by rfl, ?yoF_10⟩) (by assumption) ?roF_10
          case yoF_10 => (intro w hSw; (try dsimp only at hSw); unfold oF_9; go_simp; try with_reducible rfl)
          simp only [oF_9, Act.put, List.setIfInBounds_toArray, List.set_cons_zero, List.set_cons_succ]
          refine wpAnyH_take (i := 10) (oi := oF_10) (v := ?voF_11) rfl (by kernel_rfl) (by kernel_rfl) (by kernel_rfl) (fun _ _ _ h => h) (Or.inl ⟨by rfl, ?yoF_11⟩) (by assumption) ?roF_11
          case yoF_11 => (intro w hSw; (try dsimp only at hSw); unfold oF_10; go_simp; try with_reducible rfl)
          simp only [oF_10, Act.put, List.setIfInBounds_toArray, List.set_cons_zero, List.set_cons_succ]
          refine wpAnyH_ready (rs := [11]) (by kernel_rfl) (by simp) ?_
          refine AllReadyH.cons (o := oF_11) rfl (fun K hK => ?_) ?_
          · clear hHeld
            unfold oF_11
            go_simp
            refine hK.out _ _ ?hSoF_12 (fun hHeld => ?_)
            case hSoF_12 => ((try dsimp only); exact (hS.out _ (x.out.alloc _)))
            clear hK K
            try simp only [Act.put, List.setIfInBounds_toArray, List.set_cons_zero, List.set_cons_succ]
            have hkc : Hid (w.heap.size + 1 < woF1.heap.size) := x.out.z.lt
            have kc := Lib.hid (Blk.new woF1 #[.int .i64 0, .slice none 0 0] 24)
            replace x := Lib.hid (x.out.alloc (.cells #[.int .i64 0, .slice none 0 0] 24))
            replace t8 := Lib.hid (t8.out.alloc (.cells #[.int .i64 0, .slice none 0 0] 24))
            generalize woF1.alloc _ = woF2 at *
            generalize woF1.heap.size = iwoF2 at *
            refine wpAnyH_ready (rs := [12]) (by kernel_rfl) (by simp) ?_
            refine AllReadyH.cons (o := oF_12) rfl (fun K hK => ?_) ?_
            · clear hHeld
              unfold oF_12
              have f0 := kc.out.fz 0
              have f1 := kc.out.fz 1
              have z0 := kc.out.cell 0
              have z1 := kc.out.cell 1
              go_simp
              refine hK.out _ _ ?hSoF_13 (fun hHeld => ?_)
              case hSoF_13 => ((try dsimp only); exact (hS.out _ ((x.out.setf hkc.out).setf hkc.out)))
              clear hK K
              try simp only [Act.put, List.setIfInBounds_toArray, List.set_cons_zero, List.set_cons_succ]
              replace x := Lib.hid ((x.out.setf (i := 0) (v := .int .i64 d.epoch) hkc.out).setf (i := 1) (v := .slice p8 d.l.length n8) hkc.out)
              replace t8 := Lib.hid ((t8.out.setz (i := 0) (v := .int .i64 d.epoch) kc.out (Nat.le_refl 2)).setz (i := 1) (v := .slice p8 d.l.length n8) kc.out.set (by simp))
              replace kc : Hid (Blk _ _ #[.int .i64 d.epoch, .slice p8 d.l.length n8] 24) := (kc.out.set (i := 0) (u := .int .i64 d.epoch)).set (i := 1) (u := .slice p8 d.l.length n8)
              clear f0 f1 z0 z1
              generalize ((woF2.setCell _ _).setCell _ _) = woF3 at *
              refine wpAnyH_take (i := 13) (oi := oF_13) (v := ?voF_14) rfl (by kernel_rfl) (by kernel_rfl) (by kernel_rfl) (fun _ _ _ h => h) (Or.inl ⟨by rfl, ?yoF_14⟩) (by assumption) ?roF_14
              case yoF_14 => (intro w hSw; (try dsimp only at hSw); unfold oF_13; go_simp; try with_reducible rfl)
              simp only [oF_13, Act.put, List.setIfInBounds_toArray, List.set_cons_zero, List.set_cons_succ]
              refine wpAnyH_done (by kernel_rfl) ?_ _
              refine NoPanic.normal ?_
              clear hHeld
              clear hS hsy hcl
              have c0 := kc.out.cell 0
              have c1 := kc.out.cell 1
              have z0 := x.out.z.cell 0
              have z1 := x.out.z.cell 1
              try dsimp only at c0 c1 z0 z1
              by_cases her : er = 0
              · subst her
                have hs := hsd.out d p8 n8 _ t8.out (u.out.below x.out.b) hdl
                try dsimp only at hs
                replace hs := Lib.hid hs
                go_wp2_with fail
                refine hs.out.mono ?_
                rintro e w7 ⟨rfl, b7⟩
                replace x := Lib.hid (x.out.below b7)
                clear b7 c0 c1 z0 z1 hs
                by_cases hdb : d = ⟨e1, m⟩
                · rw [decide_eq_true hdb]
                  have hj := Lib.hid (hjt2.out (by rw [hdb]))
                  replace hdb := Lib.hid hdb
                  go_wp2_with fail
                  go_ret
                  exact ⟨by rw [hj.out]; rfl, x.out.b⟩
                · rw [decide_eq_false hdb]
                  have hn3 := Lib.hid (hno2.out (fun e => hdb (by injection e)))
                  replace hdb := Lib.hid hdb
                  go_wp2_with fail
                  exact ⟨⟨i + 1, by go_num, by omega, hn3, x⟩, by simp [intOf]; omega⟩
              · have hne : (er == 0) = false := by rw [beq_eq_false_iff_ne]; exact her
                have hn3 := Lib.hid (hno2.out (fun e => her (by injection e)))
                replace her := Lib.hid her
                go_wp2_with fail
                exact ⟨⟨i + 1, by go_num, by omega, hn3, x⟩, by simp [intOf]; omega⟩
            exact AllReadyH.nil
          exact AllReadyH.nil
        refine AllReadyH.cons (o := oF_11) rfl (fun K hK => ?_) ?_
        · clear hHeld
          unfold oF_11
          go_simp
          refine hK.out _ _ ?hSoF_15 (fun hHeld => ?_)
          case hSoF_15 => ((try dsimp only); exact (hS.out _ (x.out.alloc _)))
          clear hK K
          try simp only [Act.put, List.setIfInBounds_toArray, List.set_cons_zero, List.set_cons_succ]
          have hkc : Hid (w.heap.size + 1 < wD.heap.size) := x.out.z.lt
          have kc := Lib.hid (Blk.new wD #[.int .i64 0, .slice none 0 0] 24)
          replace x := Lib.hid (x.out.alloc (.cells #[.int .i64 0, .slice none 0 0] 24))
          generalize wD.alloc _ = woF4 at *
          generalize wD.heap.size = iwoF4 at *
          refine wpAnyH_ready (rs := [7]) (by kernel_rfl) (by simp) ?_
          refine AllReadyH.cons (o := oF_7) rfl (fun K hK => ?_) ?_
          · clear hHeld
            unfold oF_7
            go_simp
            go_at_call 30
            refine (hsy.out _ (t.out.below x.out.b)).mono ?_
            rintro e woF5 ⟨⟨p8, n8, rfl, t8, h8⟩, b8⟩
            replace t8 := Lib.hid t8
            replace x := Lib.hid (x.out.below b8)
            replace kc := Lib.hid (kc.out.below b8)
            clear b8 h8
            dsimp only
            refine hK.out _ _ ?hSoF_16 (fun hHeld => ?_)
            case hSoF_16 => ((try dsimp only); exact (hS.out _ x.out))
            clear hK K
            try simp only [Act.put, List.setIfInBounds_toArray, List.set_cons_zero, List.set_cons_succ]
            refine wpAnyH_take (i := 8) (oi := oF_8) (v := ?voF_17) rfl (by kernel_rfl) (by kernel_rfl) (by kernel_rfl) (fun _ _ _ h => h) (Or.inl ⟨by rfl, ?yoF_17⟩) (by assumption) ?roF_17
            case yoF_17 => (intro w hSw; (try dsimp only at hSw); unfold oF_8; go_simp; try with_reducible rfl)
            simp only [oF_8, Act.put, List.setIfInBounds_toArray, List.set_cons_zero, List.set_cons_succ]
            refine wpAnyH_take (i := 9) (oi := oF_9) (v := ?voF_18) rfl (by kernel_rfl) (by kernel_rfl) (by kernel_rfl) (fun _ _ _ h => h) (Or.inl ⟨by rfl, ?yoF_18⟩) (by assumption) ?roF_18
            case yoF_18 => (intro w hSw; (try dsimp only at hSw); unfold oF_9; go_simp; try with_reducible rfl)
            simp only [oF_9, Act.put, List.setIfInBounds_toArray, List.set_cons_zero, List.set_cons_succ]
            refine wpAnyH_take (i := 10) (oi := oF_10) (v := ?voF_19) rfl (by kernel_rfl) (by kernel_rfl) (by kernel_rfl) (fun _ _ _ h => h) (Or.inl ⟨by rfl, ?yoF_19⟩) (by assumption) ?roF_19
            case yoF_19 => (intro w hSw; (try dsimp only at hSw); unfold oF_10; go_simp; try with_reducible rfl)
            simp only [oF_10, Act.put, List.setIfInBounds_toArray, List.set_cons_zero, List.set_cons_succ]
            refine wpAnyH_ready (rs := [12]) (by kernel_rfl) (by simp) ?_
            refine AllReadyH.cons (o := oF_12) rfl (fun K hK => ?_) ?_
            · clear hHeld
              unfold oF_12
              have f0 := kc.out.fz 0
              have f1 := kc.out.fz 1
              have z0 := kc.out.cell 0
              have z1 := kc.out.cell 1
              go_simp
              refine hK.out _ _ ?hSoF_20 (fun hHeld => ?_)
              case hSoF_20 => ((try dsimp only); exact (hS.out _ ((x.out.setf hkc.out).setf hkc.out)))
              clear hK K
              try simp only [Act.put, List.setIfInBounds_toArray, List.set_cons_zero, List.set_cons_succ]
              replace x := Lib.hid ((x.out.setf (i := 0) (v := .int .i64 d.epoch) hkc.out).setf (i := 1) (v := .slice p8 d.l.length n8) hkc.out)
              replace t8 := Lib.hid ((t8.out.setz (i := 0) (v := .int .i64 d.epoch) kc.out (Nat.le_refl 2)).setz (i := 1) (v := .slice p8 d.l.length n8) kc.out.set (by simp))
              replace kc : Hid (Blk _ _ #[.int .i64 d.epoch, .slice p8 d.l.length n8] 24) := (kc.out.set (i := 0) (u := .int .i64 d.epoch)).set (i := 1) (u := .slice p8 d.l.length n8)
              clear f0 f1 z0 z1
              generalize ((woF5.setCell _ _).setCell _ _) = woF6 at *
              refine wpAnyH_take (i := 13) (oi := oF_13) (v := ?voF_21) rfl (by kernel_rfl) (by kernel_rfl) (by kernel_rfl) (fun _ _ _ h => h) (Or.inl ⟨by rfl, ?yoF_21⟩) (by assumption) ?roF_21
              case yoF_21 => (intro w hSw; (try dsimp only at hSw); unfold oF_13; go_simp; try with_reducible rfl)
              simp only [oF_13, Act.put, List.setIfInBounds_toArray, List.set_cons_zero, List.set_cons_succ]
              refine wpAnyH_done (by kernel_rfl) ?_ _
              refine NoPanic.normal ?_
              clear hHeld
              clear hS hsy hcl
              have c0 := kc.out.cell 0
              have c1 := kc.out.cell 1
              have z0 := x.out.z.cell 0
              have z1 := x.out.z.cell 1
              try dsimp only at c0 c1 z0 z1
              by_cases her : er = 0
              · subst her
                have hs := hsd.out d p8 n8 _ t8.out (u.out.below x.out.b) hdl
                try dsimp only at hs
                replace hs := Lib.hid hs
                go_wp2_with fail
                refine hs.out.mono ?_
                rintro e w7 ⟨rfl, b7⟩
                replace x := Lib.hid (x.out.below b7)
                clear b7 c0 c1 z0 z1 hs
                by_cases hdb : d = ⟨e1, m⟩
                · rw [decide_eq_true hdb]
                  have hj := Lib.hid (hjt2.out (by rw [hdb]))
                  replace hdb := Lib.hid hdb
                  go_wp2_with fail
                  go_ret
                  exact ⟨by rw [hj.out]; rfl, x.out.b⟩
                · rw [decide_eq_false hdb]
                  have hn3 := Lib.hid (hno2.out (fun e => hdb (by injection e)))
                  replace hdb := Lib.hid hdb
                  go_wp2_with fail
                  exact ⟨⟨i + 1, by go_num, by omega, hn3, x⟩, by simp [intOf]; omega⟩
              · have hne : (er == 0) = false := by rw [beq_eq_false_iff_ne]; exact her
                have hn3 := Lib.hid (hno2.out (fun e => her (by injection e)))
                replace her := Lib.hid her
                go_wp2_with fail
                exact ⟨⟨i + 1, by go_num, by omega, hn3, x⟩, by simp [intOf]; omega⟩
            exact AllReadyH.nil
          exact AllReadyH.nil
        exact AllReadyH.nil
      · have hj := Lib.hid (hjf.out fun j hj => hno.out j hj (by omega))
        go_wp2_with fail
        go_ret
        exact ⟨by rw [hj.out]; rfl, x5.out.b⟩
  · have hq0 : (e0 == e1) = false := by rw [beq_eq_false_iff_ne]; exact h0
    have hw1 : IntKind.i64.wrap (e0 + 1) = e0 + 1 := IntWalk.i64_in _ (by omega)
    by_cases h1 : e1 = e0 + 1
    · have hq1 : (e1 != e0 + 1) = false := by rw [bne_eq_false_iff_eq]; exact h1
      have hJn := Lib.hid (foll_next pa.out pb.out h1)
      have hlast := last_eq pb.out
      try dsimp only at hJn hlast
      replace h0 := Lib.hid h0
      replace h1 := Lib.hid h1
      obtain ⟨g1, o1, hqo, -, -, -⟩ := u.out (m.length - 1) hlast
      subst hqo
      obtain ⟨g2, o2, eg, c0, c1, c2⟩ := (u.out.below x.out.b) (m.length - 1) hlast
      injection eg with eg
      injection eg with eg1 eg2
      subst eg1 eg2
      have hw2 : IntKind.i64.wrap ((m.length : Int) - 1) = ((m.length - 1 : Nat) : Int) := by rw [IntWalk.i64_in _ (by omega)]; omega
      have hk1 : ((m.length - 1 : Nat) : Int) < m.length := by omega
      generalize (m[m.length - 1]'hlast).m = s at *
      generalize hkk : m.length - 1 = kk at *
      obtain ⟨s0, s1⟩ := s
      dsimp only at c0 c1
      obtain ⟨d, er, hde⟩ : ∃ d er, joinN ⟨e0, l⟩ ⟨s0, s1⟩ = (d, er) := ⟨_, _, rfl⟩
      have hdl : d.l.length ≤ 4611686018427387904 := by have h := join_le' ⟨e0, l⟩ ⟨s0, s1⟩; rw [hde] at h; dsimp only at h; omega
      have hjo := refJoin_any ⟨e0, l⟩ p pc ⟨s0, s1⟩ (w4.alloc (.cells #[.int .i64 s0, .int .i64 s1] 26)) ((t.out.below x.out.b).alloc _) hpc.out (by dsimp only; omega)
      rw [hde] at hjo
      rw [hde, hJ.out] at hJn
      have kl := Lib.hid (Blk.new w4 #[.int .i64 s0, .int .i64 s1] 26)
      have y1 := x.out.k.cell 1
      have z1 := x.out.z.cell 1
      try dsimp only at y1 z1
      have x5 := Lib.hid (x.out.alloc (.cells #[.int .i64 s0, .int .i64 s1] 26))
      replace hde := Lib.hid hde
      replace hjo := Lib.hid hjo
      replace hkk := Lib.hid hkk
      go_upto_region 16 with fail
      clear c0 c1 c2 y0 z0 y1 z1 x hq0 hq1 hw1 hw2 hk1
      generalize w4.alloc _ = w5 at *
      generalize w4.heap.size = iq at *
      have y0 := x5.out.k.cell 0
      have y1 := x5.out.k.cell 1
      have l0 := kl.out.cell 0
      have l1 := kl.out.cell 1
      try dsimp only at y0 y1
      go_wp2_with fail
      refine hjo.out.mono ?_
      rintro e w6 ⟨⟨p8, n8, rfl, t8, h8⟩, b6⟩
      have ba := b6.alloc b6.size (.cells #[.int .i64 d.epoch, .slice p8 d.l.length n8] 24)
      have kc := Lib.hid (Blk.new w6 #[.int .i64 d.epoch, .slice p8 d.l.length n8] 24)
      have x7 := Lib.hid (x5.out.below ba)
      have t9 := Lib.hid (t8.alloc (.cells #[.int .i64 d.epoch, .slice p8 d.l.length n8] 24))
      clear ba b6 t8 y0 y1 l0 l1 kl x5 hjo
      go_upto_region 17 with fail
      generalize w6.alloc _ = w7 at *
      generalize w6.heap.size = ik at *
      have c0 := kc.out.cell 0
      have c1 := kc.out.cell 1
      have z0 := x7.out.z.cell 0
      have z1 := x7.out.z.cell 1
      try dsimp only at c0 c1 z0 z1
      clear c0 c1 z0 z1
      go_cut [81] (fun v wx => ∃ qb : Bool, v = .bool qb ∧ Hid (qb = true → J = true) ∧ Hid (qb = false → J = subN m l) ∧ Hid (Bw w (.slice p l.length pc) (.slice (some ⟨g1, o1, none⟩) m.length qc) e0 e1 wx))
      case first =>
        have c0 := kc.out.cell 0
        have c1 := kc.out.cell 1
        have z0 := x7.out.z.cell 0
        have z1 := x7.out.z.cell 1
        try dsimp only at c0 c1 z0 z1
        by_cases her : er = 0
        · subst her
          have hs := hsd.out d p8 n8 w7 t9.out (u.out.below x7.out.b) hdl
          try dsimp only at hs
          replace hs := Lib.hid hs
          have ht : Hid (decide (d = ⟨e1, m⟩) = true → J = true) := fun h => by rw [hJn.out, of_decide_eq_true h, decide_eq_true rfl]; rfl
          have hf : Hid (decide (d = ⟨e1, m⟩) = false → J = subN m l) := fun h => by rw [hJn.out, decide_eq_false (fun e => of_decide_eq_false h (by injection e))]; rfl
          generalize decide (d = ⟨e1, m⟩) = qb at *
          go_wp2_with fail
          refine hs.out.mono ?_
          rintro e w8 ⟨rfl, b8⟩
          replace x7 := Lib.hid (x7.out.below b8)
          clear b8 c0 c1 z0 z1 hs
          go_wp2_with fail
          go_meet
          exact ⟨qb, rfl, ht, hf, x7⟩
        · have hne : (er == 0) = false := by rw [beq_eq_false_iff_ne]; exact her
          have hf : Hid (J = subN m l) := by rw [hJn.out, decide_eq_false (fun e => her (by injection e))]; rfl
          replace her := Lib.hid her
          go_wp2_with fail
          go_meet
          exact ⟨false, rfl, Lib.hid (fun h => by cases h), Lib.hid (fun _ => hf.out), x7⟩
      case rest =>
        obtain ⟨qb, rfl, ht, hf, x8⟩ := hcut
        clear x7 kc t9 hJn
        cases qb with
        | true =>
          have hj := Lib.hid (ht.out rfl)
          go_wp2_with fail
          go_ret
          exact ⟨by rw [hj.out]; rfl, x8.out.b⟩
        | false =>
          have hj := Lib.hid (hf.out rfl)
          clear ht hf
          go_wp2_with fail
          go_loopw [11, 12] (fun vk vi wr => ∃ (i k : Nat), vi = .int .i64 i ∧ (i : Int) ≤ l.length ∧ vk = .int .i64 k ∧ (k : Int) ≤ m.length ∧ Hid (subN (m.drop k) (l.drop i) = J) ∧ Hid (Bw w (.slice p l.length pc) (.slice (some ⟨g1, o1, none⟩) m.length qc) e0 e1 wr)) (fun _ vi _ => ((l.length : Int) - intOf vi).toNat)
          case atStart => exact ⟨0, 0, rfl, by omega, rfl, by omega, by rw [List.drop_zero, List.drop_zero]; exact hj.out.symm, x8⟩
          case round =>
            obtain ⟨i, k, rfl, hi, rfl, hk, hs, x9⟩ := hrel
            clear x8
            have y1 := x9.out.k.cell 1
            have z1 := x9.out.z.cell 1
            try dsimp only at y1 z1
            by_cases hlt : (i : Int) < l.length
            · have hil : i < l.length := by omega
              obtain ⟨b0, off, hpo, c0, c1, c2⟩ := (t.out.below x9.out.b) i hil
              subst hpo
              by_cases hkt : (k : Int) < m.length
              · have hkm : k < m.length := by omega
                obtain ⟨b', off', eb, d0, d1, d2⟩ := (u.out.below x9.out.b) k hkm
                injection eb with eb
                injection eb with eb1 eb2
                subst eb1 eb2
                have hst : Hid (subN (m[k] :: m.drop (k + 1)) (l[i] :: l.drop (i + 1)) = J) := by rw [← List.drop_eq_getElem_cons hkm, ← List.drop_eq_getElem_cons hil]; exact hs
                have hst2 : Hid (m.drop k = m[k] :: m.drop (k + 1)) := List.drop_eq_getElem_cons hkm
                generalize l[i] = s at *
                generalize m[k] = r at *
                have hq := st_eq s r
                obtain ⟨⟨s0', s1'⟩, s2'⟩ := s
                obtain ⟨⟨r0, r1⟩, r2⟩ := r
                simp only at c0 c1 c2 d0 d1 d2
                by_cases he : (⟨⟨s0', s1'⟩, s2'⟩ : StN) = ⟨⟨r0, r1⟩, r2⟩
                · rw [decide_eq_true he] at hq
                  have hn : Hid (subN (m.drop (k + 1)) (l.drop (i + 1)) = J) := by
                    have h1 := hst.out
                    rw [show subN (⟨⟨r0, r1⟩, r2⟩ :: m.drop (k + 1)) (⟨⟨s0', s1'⟩, s2'⟩ :: l.drop (i + 1)) = (if (⟨⟨r0, r1⟩, r2⟩ : StN) = ⟨⟨s0', s1'⟩, s2'⟩ then _ else _) from rfl, if_pos he.symm] at h1
                    exact h1
                  replace he := Lib.hid he
                  go_wp2_with fail
                  go_quiet (fail)
                  go_wp2_with fail
                  exact ⟨⟨i + 1, k + 1, by go_num, by omega, by go_num, by omega, hn, Lib.hid (x9.out.below (belowN nq))⟩, by simp [intOf]; omega⟩
                · rw [decide_eq_false he] at hq
                  have hn : Hid (subN (m.drop k) (l.drop (i + 1)) = J) := by
                    have h1 := hst.out
                    rw [show subN (⟨⟨r0, r1⟩, r2⟩ :: m.drop (k + 1)) (⟨⟨s0', s1'⟩, s2'⟩ :: l.drop (i + 1)) = (if (⟨⟨r0, r1⟩, r2⟩ : StN) = ⟨⟨s0', s1'⟩, s2'⟩ then _ else _) from rfl, if_neg (fun e => he e.symm)] at h1
                    rw [hst2.out]
                    exact h1
                  replace he := Lib.hid he
                  go_wp2_with fail
                  go_quiet (fail)
                  go_wp2_with fail
                  exact ⟨⟨i + 1, k, by go_num, by omega, rfl, by omega, hn, Lib.hid (x9.out.below (belowN nq))⟩, by simp [intOf]; omega⟩
              · have hn : Hid (subN (m.drop k) (l.drop (i + 1)) = J) := by
                  have h1 := hs.out
                  rw [List.drop_eq_nil_of_le (show m.length ≤ k by omega), subN_nil] at h1 ⊢
                  exact h1
                have hkd : decide ((k : Int) < (m.length : Int)) = false := decide_eq_false hkt
                have hkn : decide (k < m.length) = false := decide_eq_false (by omega)
                go_wp2_with fail
                go_quiet (fail)
                go_wp2_with fail
                exact ⟨⟨i + 1, k, by go_num, by omega, rfl, by omega, hn, Lib.hid (x9.out.below (belowN nq))⟩, by simp [intOf]; omega⟩
            · have hJe : Hid (J = decide (k = m.length)) := by
                have h1 := hs.out
                rw [List.drop_eq_nil_of_le (show l.length ≤ i by omega)] at h1
                rw [← h1]
                show subN (m.drop k) [] = _
                by_cases hkm : k = m.length
                · rw [List.drop_eq_nil_of_le (by omega), decide_eq_true hkm]; rfl
                · rw [List.drop_eq_getElem_cons (show k < m.length by omega), decide_eq_false hkm]; rfl
              by_cases hkm : (k : Int) = m.length
              · have hq : ((k : Int) == (m.length : Int)) = true := by rw [beq_iff_eq]; exact hkm
                have hj2 : Hid (J = true) := by rw [hJe.out, decide_eq_true (by omega)]; rfl
                replace hkm := Lib.hid hkm
                go_wp2_with fail
                go_ret
                exact ⟨by rw [hj2.out]; rfl, x9.out.b⟩
              · have hq : ((k : Int) == (m.length : Int)) = false := by rw [beq_eq_false_iff_ne]; exact hkm
                have hj2 : Hid (J = false) := by rw [hJe.out, decide_eq_false (by omega)]; rfl
                replace hkm := Lib.hid hkm
                go_wp2_with fail
                go_ret
                exact ⟨by rw [hj2.out]; rfl, x9.out.b⟩
    · have hq1 : (e1 != e0 + 1) = true := by rw [bne_iff_ne]; exact h1
      have hj : Hid (J = false) := by rw [← hJ.out]; exact foll_else pa.out pb.out (fun e => h0 e.symm) h1
      replace h0 := Lib.hid h0
      replace h1 := Lib.hid h1
      go_wp2_with fail
      go_ret
      exact ⟨by rw [hj.out]; rfl, x.out.b⟩

end Go.Proofs.Ytnagidgffkffhaa.G
