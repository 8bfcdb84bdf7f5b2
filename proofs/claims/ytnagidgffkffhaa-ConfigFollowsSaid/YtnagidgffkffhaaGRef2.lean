/-
  Layer 11: what a chain becomes with one more, or with one that is synced: the document's Join and Synced. Condition: chains of at most 2^62 seats.
-/
import Derived.Test.YtnagidgffkffhaaGRef
set_option linter.unusedVariables false
set_option linter.unusedSimpArgs false
namespace Go.Proofs.Ytnagidgffkffhaa.G
open Go.RowKit Cfg
set_option maxRecDepth 100000
abbrev oY_0 : Oper := { dst := some 38, op := Go.Op.fieldAddr 24 (Go.Operand.tmp 6) 1, type := 0, pos := "ref.go:108", after := #[], guard := none }
abbrev oY_1 : Oper := { dst := some 39, op := Go.Op.load 22 (Go.Operand.tmp 38), type := 22, pos := "ref.go:108", after := #[{ on := 0, ground := Go.Ground.data }], guard := none }
abbrev oY_2 : Oper := { dst := some 40, op := Go.Op.fieldAddr 24 (Go.Operand.tmp 2) 1, type := 0, pos := "ref.go:108", after := #[], guard := none }
abbrev oY_3 : Oper := { dst := some 41, op := Go.Op.load 22 (Go.Operand.tmp 40), type := 22, pos := "ref.go:108", after := #[{ on := 2, ground := Go.Ground.data }], guard := none }
abbrev oY_4 : Oper := { dst := some 42, op := Go.Op.move (Go.Operand.tmp 7), type := 3, pos := "ref.go:108", after := #[], guard := none }
abbrev oY_5 : Oper := { dst := some 43, op := Go.Op.indexAddr 22 (Go.Operand.tmp 41) (Go.Operand.tmp 42), type := 0, pos := "ref.go:108", after := #[{ on := 3, ground := Go.Ground.data }, { on := 4, ground := Go.Ground.data }], guard := none }
abbrev oY_6 : Oper := { dst := some 44, op := Go.Op.load 70 (Go.Operand.tmp 43), type := 70, pos := "ref.go:108", after := #[{ on := 5, ground := Go.Ground.data }], guard := none }
abbrev oY_7 : Oper := { dst := some 45, op := Go.Op.buildSlice 22 1 #[(0, Go.Operand.tmp 44)], type := 22, pos := "ref.go:108", after := #[{ on := 6, ground := Go.Ground.data }], guard := none }
abbrev oY_8 : Oper := { dst := some 46, op := Go.Op.call { callee := Go.Callee.builtin Go.Builtin.append, args := #[Go.Operand.tmp 39, Go.Operand.tmp 45], argTypes := #[22, 22] }, type := 22, pos := "ref.go:108", after := #[{ on := 1, ground := Go.Ground.data }, { on := 7, ground := Go.Ground.data }], guard := none }
abbrev oY_9 : Oper := { dst := some 47, op := Go.Op.fieldAddr 24 (Go.Operand.tmp 6) 1, type := 0, pos := "ref.go:108", after := #[{ on := 0, ground := Go.Ground.phase }, { on := 1, ground := Go.Ground.phase }, { on := 2, ground := Go.Ground.phase }, { on := 3, ground := Go.Ground.phase }, { on := 4, ground := Go.Ground.phase }, { on := 5, ground := Go.Ground.phase }, { on := 6, ground := Go.Ground.phase }, { on := 7, ground := Go.Ground.phase }, { on := 8, ground := Go.Ground.phase }], guard := none }
abbrev oY_10 : Oper := { dst := none, op := Go.Op.store 22 (Go.Operand.tmp 47) (Go.Operand.tmp 46), type := 0, pos := "ref.go:108", after := #[{ on := 9, ground := Go.Ground.data }, { on := 8, ground := Go.Ground.data }, { on := 8, ground := Go.Ground.chain }, { on := 0, ground := Go.Ground.phase }, { on := 1, ground := Go.Ground.phase }, { on := 2, ground := Go.Ground.phase }, { on := 3, ground := Go.Ground.phase }, { on := 4, ground := Go.Ground.phase }, { on := 5, ground := Go.Ground.phase }, { on := 6, ground := Go.Ground.phase }, { on := 7, ground := Go.Ground.phase }, { on := 8, ground := Go.Ground.phase }], guard := none }
theorem sits_take {l : List StN} {n : Int} : sitsN l n = true ↔ ∃ k, ∃ h : k < l.length, l[k].m.node = n := by
  rw [sitsN_iff]
  constructor
  · rintro ⟨s, hs, e⟩
    obtain ⟨k, hk, rfl⟩ := List.getElem_of_mem hs
    exact ⟨k, hk, e⟩
  · rintro ⟨k, h, e⟩
    exact ⟨l[k], List.getElem_mem h, e⟩
set_option maxHeartbeats 8000000 in
theorem refJoin_any (c : CfN) (p : Option Addr) (cap : Nat) (m : MbN) (w : World) (t : Chn w p c.l) (hcap : c.l.length ≤ cap) (hl : c.l.length ≤ 4611686018427387904) :
    Calls Try.prog 28 #[cfV c p cap, mbV m] w fun e w' => AnsC (joinN c m) w e w' := by
  have x := Lib.hid (By.new w c.epoch p c.l.length cap m.node m.life)
  have hR := Lib.hid (refRight_any c p cap _ (t.below x.out.b) hcap hl)
  have hri : Hid (rightN c = true → RightP c) := fun h => right_iff.1 h
  obtain ⟨A, hA⟩ : ∃ A, joinN c m = A := ⟨_, rfl⟩
  rw [hA]
  have hA0 : Hid (rightN c = false → A = (zeroN, 3)) := fun h => by rw [← hA]; unfold joinN; rw [if_pos h]
  have hA1 : Hid (rightN c = true → mayN m = false → A = (zeroN, 1)) := fun h h1 => by rw [← hA]; unfold joinN; rw [if_neg (by rw [h]; decide), if_pos h1]
  have hA2 : Hid (rightN c = true → mayN m = true → sitsN c.l m.node = true → A = (zeroN, 11)) := fun h h1 h2 => by rw [← hA]; unfold joinN; rw [if_neg (by rw [h]; decide), if_neg (by rw [h1]; decide), if_pos h2]
  have hA3 : Hid (rightN c = true → mayN m = true → sitsN c.l m.node = false → A = laterN c.epoch (c.l ++ [⟨m, false⟩])) := fun h h1 h2 => by rw [← hA]; unfold joinN; rw [if_neg (by rw [h]; decide), if_neg (by rw [h1]; decide), if_neg (by rw [h2]; decide)]
  clear hA
  generalize rightN c = r at *
  obtain ⟨e0, l⟩ := c
  obtain ⟨m0, m1⟩ := m
  try dsimp only at hA1 hA2 hA3
  have y0 := x.out.c0
  have y1 := x.out.c1
  try dsimp only at y0 y1
  have hmb := fun W => Lib.hid (may_any ⟨m0, m1⟩ W)
  generalize mayN ⟨m0, m1⟩ = rm at *
  replace hmb := Lib.hid hmb
  replace t : Hid (Chn w p l) := t
  replace hl := Lib.hid hl
  replace hcap := Lib.hid hcap
  go_enter Try.func28, Try.ntmps28
  go_wp2_with fail
  refine hR.out.mono ?_
  rintro e w2 ⟨rfl, b2⟩
  have x2 := Lib.hid (x.out.below b2)
  try dsimp only at x2
  clear b2 x y0 y1 hR
  cases r with
  | false =>
    have hans := Lib.hid (hA0.out rfl)
    have z0 := x2.out.z.cell 0
    have z1 := x2.out.z.cell 1
    have f0 := x2.out.z.fz 0
    have f1 := x2.out.z.fz 1
    go_wp2_with fail
    refine bodyPost_ret (v := .tuple #[.agg #[.int .i64 0, .slice none 0 0], .int .i64 3]) ?_ rfl ?_
    · rw [results_cell_tmp rfl]
      go_simp
    · rw [hans.out]
      exact AnsC.zero (bset (bset x2.out.b (by omega)) (by omega))
  | true =>
    have hri2 := hri.out rfl
    have hn8 : l.length ≤ 8 := hri2.n2
    have he1 : 1 ≤ e0 := hri2.e1
    have he2 : e0 ≤ 1099511627776 := hri2.e2
    have hlI : (l.length : Int) ≤ 8 := by omega
    replace hri2 := Lib.hid hri2
    clear hri hA0
    have y2 := x2.out.d0
    have y3 := x2.out.d1
    have hmx := hmb.out w2
    go_wp2_with fail
    refine hmx.out.mono ?_
    rintro e w3 ⟨rfl, b3⟩
    have x3 := Lib.hid (x2.out.below b3)
    clear b3 hmx y2 y3 x2
    cases rm with
    | false =>
      have hans := Lib.hid (hA1.out (by first | rfl | trivial) (by first | rfl | trivial))
      have z0 := x3.out.z.cell 0
      have z1 := x3.out.z.cell 1
      have f0 := x3.out.z.fz 0
      have f1 := x3.out.z.fz 1
      go_wp2_with fail
      refine bodyPost_ret (v := .tuple #[.agg #[.int .i64 0, .slice none 0 0], .int .i64 1]) ?_ rfl ?_
      · rw [results_cell_tmp rfl]
        go_simp
      · rw [hans.out]
        exact AnsC.zero (bset (bset x3.out.b (by omega)) (by omega))
    | true =>
    have hw1 : IntKind.i64.wrap (e0 + 1) = e0 + 1 := IntWalk.i64_in _ (by omega)
    have y0 := x3.out.c0
    have ba := (Below.refl w3.heap.size w3).alloc (Nat.le_refl _) (.cells #[.int .i64 (e0 + 1), .slice none 0 0] 24)
    have xq : Hid (Bq w e0 (.slice p l.length cap) (w.heap.size + 1 + 1) w3.heap.size (e0 + 1) (.slice none 0 0) (.slice none 0 0) [] (w3.alloc (.cells #[.int .i64 (e0 + 1), .slice none 0 0] 24))) :=
      ⟨x3.out.k.below ba, x3.out.z.below ba, Blk.new _ _ _, World.ownsRow_nil _ _ _ _, x3.out.b.trans (ba.mono x3.out.b.size), by omega, x3.out.z.lt⟩
    have kdq : Hid (Blk (w3.alloc (.cells #[.int .i64 (e0 + 1), .slice none 0 0] 24)) (w.heap.size + 1) #[.int .i64 m0, .int .i64 m1] 26) := x3.out.d.below ba
    clear ba
    go_upto_region 6 with fail
    clear y0 x3 hw1
    generalize w3.alloc _ = w4 at *
    generalize w3.heap.size = q6 at *
    go_wp2_with fail
    go_loopw [7] (fun vi wr => ∃ (k : Nat) (v : Value), vi = .int .i64 k ∧ (k : Int) ≤ l.length ∧ Hid (∀ j (hj : j < l.length), j < k → l[j].m.node ≠ m0) ∧ Hid (Bq w e0 (.slice p l.length cap) (w.heap.size + 1 + 1) q6 (e0 + 1) v v (l.take k) wr) ∧ Hid (Blk wr (w.heap.size + 1) #[.int .i64 m0, .int .i64 m1] 26)) (fun vi _ => ((l.length : Int) - intOf vi).toNat)
    case atStart => exact ⟨0, _, rfl, by omega, Lib.hid fun j hj h => by omega, xq, kdq⟩
    case round =>
      obtain ⟨k, v, rfl, hk, hno, x, kd⟩ := hrel
      clear xq kdq
      have y1 := x.out.k.cell 1
      have u0 := kd.out.cell 0
      try dsimp only at y1
      by_cases hlt : (k : Int) < l.length
      · have hkl : k < l.length := by omega
        obtain ⟨b, off, hpo, -, -, -⟩ := t.out k hkl
        subst hpo
        have hL : Hid ((l.take k).length ≤ 1000) := by show _ ≤ _; rw [List.length_take]; omega
        have hcl : Hid (∀ W, Below w.heap.size w W → W.cell? ⟨b, off + k * 3, none⟩ = some (.int .i64 l[k].m.node) ∧ W.cell? ⟨b, off + k * 3 + 1, none⟩ = some (.int .i64 l[k].m.life) ∧ W.cell? ⟨b, off + k * 3 + 2, none⟩ = some (.bool l[k].syn)) := fun W hb => by
          obtain ⟨b', off', eb, d0, d1, d2⟩ := (t.out.below hb) k hkl
          injection eb with eb
          injection eb with eb1 eb2
          subst eb1 eb2
          exact ⟨d0, d1, d2⟩
        have htk : Hid (l.take (k + 1) = l.take k ++ [l[k]]) := List.take_succ_eq_append_getElem hkl
        have hsi : Hid (l[k].m.node = m0 → sitsN l m0 = true) := fun e => sits_take.2 ⟨k, hkl, e⟩
        have hno2 : Hid (l[k].m.node ≠ m0 → ∀ j (hj : j < l.length), j < k + 1 → l[j].m.node ≠ m0) := fun e j hj h => by
          rcases Nat.lt_or_ge j k with h1 | h1
          · exact hno.out j hj h1
          · obtain rfl : j = k := by omega
            exact e
        generalize l[k] = s at *
        obtain ⟨⟨s0, s1⟩, s2⟩ := s
        dsimp only at hcl hsi hno2
        generalize l.take k = L at *
        obtain ⟨d0, -, -⟩ := hcl.out _ x.out.b
        by_cases he : s0 = m0
        · have hans := Lib.hid (hA2.out (by first | rfl | trivial) (by first | rfl | trivial) (hsi.out he))
          have hq : (s0 == m0) = true := by rw [beq_iff_eq]; exact he
          have z0 := x.out.z.cell 0
          have z1 := x.out.z.cell 1
          have f0 := x.out.z.fz 0
          have f1 := x.out.z.fz 1
          replace he := Lib.hid he
          go_wp2_with fail
          go_quiet (fail)
          go_wp2_with fail
          refine bodyPost_ret (v := .tuple #[.agg #[.int .i64 0, .slice none 0 0], .int .i64 11]) ?_ rfl ?_
          · rw [results_cell_tmp rfl]
            go_simp
          · rw [hans.out]
            exact AnsC.zero (bset (bset (x.out.b.trans ((belowN nq).mono x.out.b.size)) (by omega)) (by omega))
        · have hq : (s0 == m0) = false := by rw [beq_eq_false_iff_ne]; exact he
          have hno3 := Lib.hid (hno2.out he)
          replace he := Lib.hid he
          go_wp2_with fail
          go_quiet (fail)
          replace x := Lib.hid (x.out.below (belowN nq))
          replace kd := Lib.hid (kd.out.below (belowN nq))
          clear d0 y1 u0 hq
          go_upto_region 11 with fail
          generalize wr.drewN nq = ws at *
          have hS : Hid (∀ (W : World) (u : Value) (v : Value) (L : List StN), Bq w e0 (.slice (some ⟨b, off, none⟩) l.length cap) (w.heap.size + 1 + 1) q6 (e0 + 1) u v L W → W.cell? ⟨w.heap.size, 1, none⟩ = some (.slice (some ⟨b, off, none⟩) l.length cap) ∧ W.cell? ⟨b, off + k * 3, none⟩ = some (.int .i64 s0) ∧ W.cell? ⟨b, off + k * 3 + 1, none⟩ = some (.int .i64 s1) ∧ W.cell? ⟨b, off + k * 3 + 2, none⟩ = some (.bool s2)) := fun W u v L h => ⟨h.k.cell 1, hcl.out W h.b⟩
          replace x := Lib.hid (x.out.below (Below.refl _ _).drew)
          replace kd := Lib.hid (kd.out.below (Below.refl _ _).drew)
          have hcur := hS.out _ _ _ _ x.out
          refine wp_region_noPanic ?_
          refine wp_region_held_drew (S := (fun W => W.cell? ⟨w.heap.size, 1, none⟩ = some (.slice (some ⟨b, off, none⟩) l.length cap) ∧ W.cell? ⟨b, off + k * 3, none⟩ = some (.int .i64 s0) ∧ W.cell? ⟨b, off + k * 3 + 1, none⟩ = some (.int .i64 s1) ∧ W.cell? ⟨b, off + k * 3 + 2, none⟩ = some (.bool s2))) (by kernel_rfl) ?hSoY_0 (fun hHeld => ?_)
          case hSoY_0 => ((try dsimp only); exact hcur)
          generalize ws.drew = wD at *
          refine wpAnyH_take (i := 0) (oi := oY_0) (v := ?voY_1) rfl (by kernel_rfl) (by kernel_rfl) (by kernel_rfl) (fun _ _ _ h => h) (Or.inl ⟨by rfl, ?yoY_1⟩) (by assumption) ?roY_1
          case yoY_1 => (intro w hSw; (try dsimp only at hSw); unfold oY_0; go_simp; try with_reducible rfl)
          simp only [oY_0, Act.put, List.setIfInBounds_toArray, List.set_cons_zero, List.set_cons_succ]
          refine wpAnyH_take (i := 2) (oi := oY_2) (v := ?voY_2) rfl (by kernel_rfl) (by kernel_rfl) (by kernel_rfl) (fun _ _ _ h => h) (Or.inl ⟨by rfl, ?yoY_2⟩) (by assumption) ?roY_2
          case yoY_2 => (intro w hSw; (try dsimp only at hSw); unfold oY_2; go_simp; try with_reducible rfl)
          simp only [oY_2, Act.put, List.setIfInBounds_toArray, List.set_cons_zero, List.set_cons_succ]
          refine wpAnyH_take (i := 4) (oi := oY_4) (v := ?voY_3) rfl (by kernel_rfl) (by kernel_rfl) (by kernel_rfl) (fun _ _ _ h => h) (Or.inl ⟨by rfl, ?yoY_3⟩) (by assumption) ?roY_3
          case yoY_3 => (intro w hSw; (try dsimp only at hSw); unfold oY_4; go_simp; try with_reducible rfl)
          simp only [oY_4, Act.put, List.setIfInBounds_toArray, List.set_cons_zero, List.set_cons_succ]
          refine wpAnyH_take (i := 3) (oi := oY_3) (v := ?voY_4) rfl (by kernel_rfl) (by kernel_rfl) (by kernel_rfl) (fun _ _ _ h => h) (Or.inl ⟨by rfl, ?yoY_4⟩) (by assumption) ?roY_4
          case yoY_4 => (intro w hSw; (try dsimp only at hSw); unfold oY_3; go_simp; try with_reducible rfl)
          simp only [oY_3, Act.put, List.setIfInBounds_toArray, List.set_cons_zero, List.set_cons_succ]
          refine wpAnyH_take (i := 5) (oi := oY_5) (v := ?voY_5) rfl (by kernel_rfl) (by kernel_rfl) (by kernel_rfl) (fun _ _ _ h => h) (Or.inl ⟨by rfl, ?yoY_5⟩) (by assumption) ?roY_5
          case yoY_5 => (intro w hSw; (try dsimp only at hSw); unfold oY_5; go_simp; try with_reducible rfl)
          simp only [oY_5, Act.put, List.setIfInBounds_toArray, List.set_cons_zero, List.set_cons_succ]
          refine wpAnyH_take (i := 6) (oi := oY_6) (v := ?voY_6) rfl (by kernel_rfl) (by kernel_rfl) (by kernel_rfl) (fun _ _ _ h => h) (Or.inl ⟨by rfl, ?yoY_6⟩) (by assumption) ?roY_6
          case yoY_6 => (intro w hSw; (try dsimp only at hSw); unfold oY_6; go_simp; try with_reducible rfl)
          simp only [oY_6, Act.put, List.setIfInBounds_toArray, List.set_cons_zero, List.set_cons_succ]
          refine wpAnyH_ready (rs := [1, 7]) (by kernel_rfl) (by simp) ?_
          refine AllReadyH.cons (o := oY_1) rfl (fun K hK => ?_) ?_
          · clear hHeld
            unfold oY_1
            have yf := x.out.o6.cell 1
            try dsimp only at yf
            go_simp
            refine hK.out _ _ ?hSoY_7 (fun hHeld => ?_)
            case hSoY_7 => ((try dsimp only); exact hcur)
            clear hK K
            try simp only [Act.put, List.setIfInBounds_toArray, List.set_cons_zero, List.set_cons_succ]
            clear yf
            refine wpAnyH_ready (rs := [7]) (by kernel_rfl) (by simp) ?_
            refine AllReadyH.cons (o := oY_7) rfl (fun K hK => ?_) ?_
            · clear hHeld
              unfold oY_7
              go_simp
              refine hK.out _ _ ?hSoY_8 (fun hHeld => ?_)
              case hSoY_8 => ((try dsimp only); exact (hS.out _ _ _ _ (x.out.alloc _)))
              clear hK K
              try simp only [Act.put, List.setIfInBounds_toArray, List.set_cons_zero, List.set_cons_succ]
              have kb := Lib.hid (Blk.new wD (stC ⟨⟨s0, s1⟩, s2⟩) 70)
              replace x := Lib.hid (x.out.alloc (.cells (stC ⟨⟨s0, s1⟩, s2⟩) 70))
              replace kd := Lib.hid (kd.out.alloc (.cells (stC ⟨⟨s0, s1⟩, s2⟩) 70))
              have hcur := hS.out _ _ _ _ x.out
              generalize wD.alloc _ = woY1 at *
              generalize wD.heap.size = iwoY1 at *
              refine wpAnyH_ready (rs := [8]) (by kernel_rfl) (by simp) ?_
              refine AllReadyH.cons (o := oY_8) rfl (fun K hK => ?_) ?_
              · clear hHeld
                unfold oY_8
                obtain ⟨vn, woY2, hrun, on, -, gn⟩ := push_seat x.out.own hL.out x.out.b.size ⟨⟨s0, s1⟩, s2⟩ kb.out
                replace kd := Lib.hid (kd.out.grown gn (own_apart x.out.own kd.out (by decide)))
                replace x := Lib.hid (x.out.grown gn on)
                clear gn on kb
                have hcur := hS.out _ _ _ _ x.out
                refine step_append_st (by rfl) _ _ 22 22 (by rfl) _ _ (by rfl) (by rfl) hrun ?_
                clear hrun
                refine hK.out _ _ ?hSoY_9 (fun hHeld => ?_)
                case hSoY_9 => ((try dsimp only); exact hcur)
                clear hK K
                try simp only [Act.put, List.setIfInBounds_toArray, List.set_cons_zero, List.set_cons_succ]
                refine wpAnyH_take (i := 9) (oi := oY_9) (v := ?voY_10) rfl (by kernel_rfl) (by kernel_rfl) (by kernel_rfl) (fun _ _ _ h => h) (Or.inl ⟨by rfl, ?yoY_10⟩) (by assumption) ?roY_10
                case yoY_10 => (intro w hSw; (try dsimp only at hSw); unfold oY_9; go_simp; try with_reducible rfl)
                simp only [oY_9, Act.put, List.setIfInBounds_toArray, List.set_cons_zero, List.set_cons_succ]
                refine wpAnyH_ready (rs := [10]) (by kernel_rfl) (by simp) ?_
                refine AllReadyH.cons (o := oY_10) rfl (fun K hK => ?_) ?_
                · clear hHeld
                  unfold oY_10
                  obtain ⟨pn, cn, hvn, -, -⟩ := x.out.own.chn
                  rw [show (L ++ [(⟨⟨s0, s1⟩, s2⟩ : StN)]).length = L.length + 1 by simp] at hvn
                  subst hvn
                  have ff := x.out.o6.fz 1
                  have yf := x.out.o6.cell 1
                  go_simp
                  refine hK.out _ _ ?hSoY_11 (fun hHeld => ?_)
                  case hSoY_11 => ((try dsimp only); exact (hS.out _ _ _ _ x.out.put))
                  clear hK K
                  try simp only [Act.put, List.setIfInBounds_toArray, List.set_cons_zero, List.set_cons_succ]
                  clear ff yf
                  have hl1 := x.out.hz
                  have hl2 := x.out.h6
                  replace kd := Lib.hid (kd.out.setf (i := 1) (v := .slice pn (L.length + 1) cn) (q' := q6) (by omega))
                  replace x := Lib.hid x.out.put
                  clear hl1 hl2
                  generalize woY2.setCell _ _ = woY3 at *
                  refine wpAnyH_done (by kernel_rfl) ?_ _
                  refine NoPanic.normal ?_
                  clear hHeld
                  rw [← htk.out] at x
                  clear hcur hS
                  go_wp2_with fail
                  exact ⟨⟨k + 1, _, by go_num, by omega, hno3, x, kd⟩, by simp [intOf]; omega⟩
                exact AllReadyH.nil
              exact AllReadyH.nil
            exact AllReadyH.nil
          refine AllReadyH.cons (o := oY_7) rfl (fun K hK => ?_) ?_
          · clear hHeld
            unfold oY_7
            go_simp
            refine hK.out _ _ ?hSoY_12 (fun hHeld => ?_)
            case hSoY_12 => ((try dsimp only); exact (hS.out _ _ _ _ (x.out.alloc _)))
            clear hK K
            try simp only [Act.put, List.setIfInBounds_toArray, List.set_cons_zero, List.set_cons_succ]
            have kb := Lib.hid (Blk.new wD (stC ⟨⟨s0, s1⟩, s2⟩) 70)
            replace x := Lib.hid (x.out.alloc (.cells (stC ⟨⟨s0, s1⟩, s2⟩) 70))
            replace kd := Lib.hid (kd.out.alloc (.cells (stC ⟨⟨s0, s1⟩, s2⟩) 70))
            have hcur := hS.out _ _ _ _ x.out
            generalize wD.alloc _ = woY4 at *
            generalize wD.heap.size = iwoY4 at *
            refine wpAnyH_ready (rs := [1]) (by kernel_rfl) (by simp) ?_
            refine AllReadyH.cons (o := oY_1) rfl (fun K hK => ?_) ?_
            · clear hHeld
              unfold oY_1
              have yf := x.out.o6.cell 1
              try dsimp only at yf
              go_simp
              refine hK.out _ _ ?hSoY_13 (fun hHeld => ?_)
              case hSoY_13 => ((try dsimp only); exact hcur)
              clear hK K
              try simp only [Act.put, List.setIfInBounds_toArray, List.set_cons_zero, List.set_cons_succ]
              clear yf
              refine wpAnyH_ready (rs := [8]) (by kernel_rfl) (by simp) ?_
              refine AllReadyH.cons (o := oY_8) rfl (fun K hK => ?_) ?_
              · clear hHeld
                unfold oY_8
                obtain ⟨vn, woY5, hrun, on, -, gn⟩ := push_seat x.out.own hL.out x.out.b.size ⟨⟨s0, s1⟩, s2⟩ kb.out
                replace kd := Lib.hid (kd.out.grown gn (own_apart x.out.own kd.out (by decide)))
                replace x := Lib.hid (x.out.grown gn on)
                clear gn on kb
                have hcur := hS.out _ _ _ _ x.out
                refine step_append_st (by rfl) _ _ 22 22 (by rfl) _ _ (by rfl) (by rfl) hrun ?_
                clear hrun
                refine hK.out _ _ ?hSoY_14 (fun hHeld => ?_)
                case hSoY_14 => ((try dsimp only); exact hcur)
                clear hK K
                try simp only [Act.put, List.setIfInBounds_toArray, List.set_cons_zero, List.set_cons_succ]
                refine wpAnyH_take (i := 9) (oi := oY_9) (v := ?voY_15) rfl (by kernel_rfl) (by kernel_rfl) (by kernel_rfl) (fun _ _ _ h => h) (Or.inl ⟨by rfl, ?yoY_15⟩) (by assumption) ?roY_15
                case yoY_15 => (intro w hSw; (try dsimp only at hSw); unfold oY_9; go_simp; try with_reducible rfl)
                simp only [oY_9, Act.put, List.setIfInBounds_toArray, List.set_cons_zero, List.set_cons_succ]
                refine wpAnyH_ready (rs := [10]) (by kernel_rfl) (by simp) ?_
                refine AllReadyH.cons (o := oY_10) rfl (fun K hK => ?_) ?_
                · clear hHeld
                  unfold oY_10
                  obtain ⟨pn, cn, hvn, -, -⟩ := x.out.own.chn
                  rw [show (L ++ [(⟨⟨s0, s1⟩, s2⟩ : StN)]).length = L.length + 1 by simp] at hvn
                  subst hvn
                  have ff := x.out.o6.fz 1
                  have yf := x.out.o6.cell 1
                  go_simp
                  refine hK.out _ _ ?hSoY_16 (fun hHeld => ?_)
                  case hSoY_16 => ((try dsimp only); exact (hS.out _ _ _ _ x.out.put))
                  clear hK K
                  try simp only [Act.put, List.setIfInBounds_toArray, List.set_cons_zero, List.set_cons_succ]
                  clear ff yf
                  have hl1 := x.out.hz
                  have hl2 := x.out.h6
                  replace kd := Lib.hid (kd.out.setf (i := 1) (v := .slice pn (L.length + 1) cn) (q' := q6) (by omega))
                  replace x := Lib.hid x.out.put
                  clear hl1 hl2
                  generalize woY5.setCell _ _ = woY6 at *
                  refine wpAnyH_done (by kernel_rfl) ?_ _
                  refine NoPanic.normal ?_
                  clear hHeld
                  rw [← htk.out] at x
                  clear hcur hS
                  go_wp2_with fail
                  exact ⟨⟨k + 1, _, by go_num, by omega, hno3, x, kd⟩, by simp [intOf]; omega⟩
                exact AllReadyH.nil
              exact AllReadyH.nil
            exact AllReadyH.nil
          exact AllReadyH.nil
      · have hke : k = l.length := by omega
        subst hke
        rw [List.take_length] at x
        have hns : sitsN l m0 = false := Bool.eq_false_iff.2 fun e => by
          obtain ⟨j, hj, e⟩ := sits_take.1 e
          exact hno.out j hj hj e
        have hans := Lib.hid (hA3.out (by first | rfl | trivial) (by first | rfl | trivial) hns)
        have q0 := x.out.o6.cell 0
        have z0 := x.out.z.cell 0
        have z1 := x.out.z.cell 1
        have f0 := x.out.z.fz 0
        have f1 := x.out.z.fz 1
        try dsimp only at q0 z0 z1
        have hq6 := x.out.h6
        have hnz : w.heap.size + 1 + 1 ≠ q6 := by omega
        replace hns := Lib.hid hns
        by_cases h3 : 1099511627776 < e0 + 1
        · have hlt2 : laterN e0 (l ++ [⟨⟨m0, m1⟩, false⟩]) = (zeroN, 5) := by unfold laterN; rw [if_pos (by omega)]
          replace hans := Lib.hid (hans.out.trans hlt2)
          go_wp2_with fail
          refine bodyPost_ret (v := .tuple #[.agg #[.int .i64 0, .slice none 0 0], .int .i64 5]) ?_ rfl ?_
          · rw [results_cell_tmp rfl]
            go_simp
          · rw [hans.out]
            exact AnsC.zero (bset (bset x.out.b (by omega)) (by omega))
        · have hlt2 : laterN e0 (l ++ [⟨⟨m0, m1⟩, false⟩]) = (⟨e0 + 1, l ++ [⟨⟨m0, m1⟩, false⟩]⟩, 0) := by unfold laterN; rw [if_neg (by omega)]
          replace hans := Lib.hid (hans.out.trans hlt2)
          have q1 := x.out.o6.cell 1
          have u1 := kd.out.cell 1
          try dsimp only at q1
          obtain ⟨i0, hi0, hz0, hzs, hzb⟩ := info_parts infoSt
          have ba := (Below.refl wr.heap.size wr).alloc (Nat.le_refl _) (.cells #[.int .i64 m0, .int .i64 m1, .bool false] 70)
          have kb := Lib.hid (Blk.new wr #[.int .i64 m0, .int .i64 m1, .bool false] 70)
          have xa := Lib.hid (x.out.below ba)
          have hsz : Hid (w.heap.size ≤ (wr.alloc (.cells #[.int .i64 m0, .int .i64 m1, .bool false] 70)).heap.size) := xa.out.b.size
          have hnew : Hid (∀ (j : Nat) (u : Value), (stC ⟨⟨m0, m1⟩, false⟩).toList[j]? = some u → (wr.alloc (.cells #[.int .i64 m0, .int .i64 m1, .bool false] 70)).cell? ((⟨wr.heap.size, 0, none⟩ : Addr).add j) = some u) := fun j u hu => by
            rw [Addr.add_lit, Nat.zero_add]
            rw [Array.getElem?_toList] at hu
            exact (kb.out.cell j).trans hu
          clear ba z0 z1 f0 f1
          go_wp2_with (at_builtin; refine wpList_append_own_at _ rfl _ _ 22 rfl w.heap.size 70 i0 _ 3 24 Try.underlying22 hi0 hz0 hzs hzb rfl (by decide) _ _ _ rfl xa.out.own ⟨wr.heap.size, 0, none⟩ 1 1 (stC ⟨⟨m0, m1⟩, false⟩).toList rfl (by simp) hnew.out (fun u hu => flatC_one [⟨⟨m0, m1⟩, false⟩] u (by simpa [flatC] using hu)) (by unfold maxLen; omega) (by omega) hsz.out ?_)
          intro v' w8 g8 gr8 _ _
          have o8 : SOwn w.heap.size v' (l ++ [⟨⟨m0, m1⟩, false⟩]) w8 := by
            show World.ownsRow _ _ _ _ _ _ _
            rw [List.length_append, ← flatC_snoc]
            exact g8
          have x8 := xa.out.grown gr8 o8
          obtain ⟨pv, cv, hvf, hcv, -⟩ := o8.chn
          have hll : (l ++ [(⟨⟨m0, m1⟩, false⟩ : StN)]).length = l.length + 1 := by simp
          subst hvf
          have ff := x8.o6.fz 1
          have q1' := x8.o6.cell 1
          try dsimp only at q1'
          have x9 := Lib.hid x8.put
          have hown := Lib.hid x9.out.own
          rw [hll] at x9
          clear g8 gr8 hnew kb xa x8 o8 q0 q1 u0 u1 y1 x kd
          go_upto_region 15 with fail
          clear ff q1'
          rw [hll] at hown
          generalize w8.setCell _ _ = w9 at *
          have q0 := x9.out.o6.cell 0
          have q1 := x9.out.o6.cell 1
          have z0 := x9.out.z.cell 0
          have z1 := x9.out.z.cell 1
          have f0 := x9.out.z.fz 0
          have f1 := x9.out.z.fz 1
          try dsimp only at q0 q1 z0 z1
          go_wp2_with fail
          refine bodyPost_ret (v := .tuple #[.agg #[.int .i64 (e0 + 1), .slice pv (l.length + 1) cv], .int .i64 0]) ?_ rfl ?_
          · rw [results_cell_tmp rfl]
            go_simp
          · rw [hans.out]
            refine ⟨⟨_, _, by rw [← hll], ?_, hcv⟩, bset (bset x9.out.b (by omega)) (by omega)⟩
            have hz := (hown.out.setz (i := 0) (u := .int .i64 (e0 + 1)) x9.out.z (by decide)).setz (i := 1) (u := .slice pv (l.length + 1) cv) x9.out.z.set (by decide)
            rw [← hll] at hz ⊢
            exact hz.chn2.1

end Go.Proofs.Ytnagidgffkffhaa.G
