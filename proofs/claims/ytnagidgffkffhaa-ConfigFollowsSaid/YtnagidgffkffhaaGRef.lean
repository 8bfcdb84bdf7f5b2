/-
  Layer 11: what a chain becomes without some: the document's Without. Condition: chains of at most 2^62 seats.
-/
import Derived.Test.YtnagidgffkffhaaGMbs
import Derived.Test.YtnagidgffkffhaaGFirst
set_option linter.unusedVariables false
set_option linter.unusedSimpArgs false
namespace Go.Proofs.Ytnagidgffkffhaa.G
open Go.RowKit Cfg
set_option maxRecDepth 100000
/-- A chain, a block for the answer, and the chain that grows. -/
structure Bq (w : World) (e0 : Int) (va : Value) (qz q6 : Nat) (e6 : Int) (u v : Value) (L : List StN) (w3 : World) : Prop where
  k : Blk w3 w.heap.size #[.int .i64 e0, va] 24
  z : Blk w3 qz #[.int .i64 0, .slice none 0 0] 24
  o6 : Blk w3 q6 #[.int .i64 e6, u] 24
  own : SOwn w.heap.size v L w3
  b : Below w.heap.size w w3
  hz : w.heap.size < qz
  h6 : qz < q6
section
variable {w w3 w4 : World} {e0 e6 : Int} {va u v : Value} {z q6 : Nat} {L : List StN}
theorem Bq.below (h : Bq w e0 va z q6 e6 u v L w3) (k : Below w3.heap.size w3 w4) : Bq w e0 va z q6 e6 u v L w4 := ⟨h.k.below k, h.z.below k, h.o6.below k, h.own.below k, h.b.trans (k.mono h.b.size), h.hz, h.h6⟩
theorem Bq.alloc (h : Bq w e0 va z q6 e6 u v L w3) (o : Obj) : Bq w e0 va z q6 e6 u v L (w3.alloc o) := h.below ((Below.refl _ _).alloc (Nat.le_refl _) _)
theorem Bq.grown {v' : Value} {L' : List StN} (h : Bq w e0 va z q6 e6 u v L w3) (g : w3.grownBy w4 v.ownBlock) (o : SOwn w.heap.size v' L' w4) : Bq w e0 va z q6 e6 u v' L' w4 :=
  ⟨h.k.grown g (own_apart h.own h.k (by decide)), h.z.grown g (own_apart h.own h.z (by decide)), h.o6.grown g (own_apart h.own h.o6 (by decide)), o, h.b.trans ((Below.refl w.heap.size w3).grown g h.b.size fun k hk => (World.ownsRow.lt h.own k hk).1), h.hz, h.h6⟩
theorem Bq.put (h : Bq w e0 va z q6 e6 u v L w3) : Bq w e0 va z q6 e6 v v L (w3.setCell ⟨q6, 1, none⟩ v) :=
  have h1 := h.hz
  have h2 := h.h6
  ⟨h.k.setf (by omega), h.z.setf (by omega), h.o6.set, h.own.setz h.o6 (by decide), bset h.b (by omega), h.hz, h.h6⟩
end
abbrev oX_0 : Oper := { dst := some 46, op := Go.Op.fieldAddr 24 (Go.Operand.tmp 6) 1, type := 0, pos := "ref.go:80", after := #[], guard := none }
abbrev oX_1 : Oper := { dst := some 47, op := Go.Op.load 22 (Go.Operand.tmp 46), type := 22, pos := "ref.go:80", after := #[{ on := 0, ground := Go.Ground.data }], guard := none }
abbrev oX_2 : Oper := { dst := some 48, op := Go.Op.fieldAddr 24 (Go.Operand.tmp 2) 1, type := 0, pos := "ref.go:80", after := #[], guard := none }
abbrev oX_3 : Oper := { dst := some 49, op := Go.Op.load 22 (Go.Operand.tmp 48), type := 22, pos := "ref.go:80", after := #[{ on := 2, ground := Go.Ground.data }], guard := none }
abbrev oX_4 : Oper := { dst := some 50, op := Go.Op.move (Go.Operand.tmp 7), type := 3, pos := "ref.go:80", after := #[], guard := none }
abbrev oX_5 : Oper := { dst := some 51, op := Go.Op.indexAddr 22 (Go.Operand.tmp 49) (Go.Operand.tmp 50), type := 0, pos := "ref.go:80", after := #[{ on := 3, ground := Go.Ground.data }, { on := 4, ground := Go.Ground.data }], guard := none }
abbrev oX_6 : Oper := { dst := some 52, op := Go.Op.load 70 (Go.Operand.tmp 51), type := 70, pos := "ref.go:80", after := #[{ on := 5, ground := Go.Ground.data }], guard := none }
abbrev oX_7 : Oper := { dst := some 53, op := Go.Op.buildSlice 22 1 #[(0, Go.Operand.tmp 52)], type := 22, pos := "ref.go:80", after := #[{ on := 6, ground := Go.Ground.data }], guard := none }
abbrev oX_8 : Oper := { dst := some 54, op := Go.Op.call { callee := Go.Callee.builtin Go.Builtin.append, args := #[Go.Operand.tmp 47, Go.Operand.tmp 53], argTypes := #[22, 22] }, type := 22, pos := "ref.go:80", after := #[{ on := 1, ground := Go.Ground.data }, { on := 7, ground := Go.Ground.data }], guard := none }
abbrev oX_9 : Oper := { dst := some 55, op := Go.Op.fieldAddr 24 (Go.Operand.tmp 6) 1, type := 0, pos := "ref.go:80", after := #[{ on := 0, ground := Go.Ground.phase }, { on := 1, ground := Go.Ground.phase }, { on := 2, ground := Go.Ground.phase }, { on := 3, ground := Go.Ground.phase }, { on := 4, ground := Go.Ground.phase }, { on := 5, ground := Go.Ground.phase }, { on := 6, ground := Go.Ground.phase }, { on := 7, ground := Go.Ground.phase }, { on := 8, ground := Go.Ground.phase }], guard := none }
abbrev oX_10 : Oper := { dst := none, op := Go.Op.store 22 (Go.Operand.tmp 55) (Go.Operand.tmp 54), type := 0, pos := "ref.go:80", after := #[{ on := 9, ground := Go.Ground.data }, { on := 8, ground := Go.Ground.data }, { on := 8, ground := Go.Ground.chain }, { on := 0, ground := Go.Ground.phase }, { on := 1, ground := Go.Ground.phase }, { on := 2, ground := Go.Ground.phase }, { on := 3, ground := Go.Ground.phase }, { on := 4, ground := Go.Ground.phase }, { on := 5, ground := Go.Ground.phase }, { on := 6, ground := Go.Ground.phase }, { on := 7, ground := Go.Ground.phase }, { on := 8, ground := Go.Ground.phase }], guard := none }
set_option maxHeartbeats 8000000 in
theorem refWithout_any (c : CfN) (p : Option Addr) (cap : Nat) (gone : List MbN) (q : Option Addr) (qc : Nat) (w : World) (t : Chn w p c.l) (hcap : c.l.length ≤ cap) (hl : c.l.length ≤ 4611686018427387904) (tg : Mbs w q gone) (hg : gone.length ≤ 1000) :
    Calls Try.prog 26 #[cfV c p cap, .slice q gone.length qc] w fun e w' => AnsC (withoutN c gone) w e w' := by
  have x := Lib.hid (Bz.new w c.epoch p c.l.length cap)
  have hR := Lib.hid (refRight_any c p cap _ (t.below x.out.b) hcap hl)
  have hri : Hid (rightN c = true → RightP c) := fun h => right_iff.1 h
  obtain ⟨A, hA⟩ : ∃ A, withoutN c gone = A := ⟨_, rfl⟩
  rw [hA]
  have hA0 : Hid (rightN c = false → A = (zeroN, 3)) := fun h => by rw [← hA]; unfold withoutN; rw [if_pos h]
  have hA1 : Hid (rightN c = true → (outN c.l gone).length = c.l.length → A = (zeroN, 10)) := fun h h1 => by rw [← hA]; unfold withoutN; rw [if_neg (by rw [h]; decide), if_pos h1]
  have hA2 : Hid (rightN c = true → (outN c.l gone).length ≠ c.l.length → ((outN c.l gone).length = 0 ∨ ((outN c.l gone).getD 0 default).syn = false) → A = (zeroN, 13)) := fun h h1 h2 => by rw [← hA]; unfold withoutN; rw [if_neg (by rw [h]; decide), if_neg h1, if_pos h2]
  have hA3 : Hid (rightN c = true → (outN c.l gone).length ≠ c.l.length → ¬ ((outN c.l gone).length = 0 ∨ ((outN c.l gone).getD 0 default).syn = false) → A = laterN c.epoch (outN c.l gone)) := fun h h1 h2 => by rw [← hA]; unfold withoutN; rw [if_neg (by rw [h]; decide), if_neg h1, if_neg h2]
  clear hA
  generalize rightN c = r at *
  obtain ⟨e0, l⟩ := c
  try dsimp only at hA1 hA2 hA3
  have y0 := x.out.c0
  have y1 := x.out.c1
  try dsimp only at y0 y1
  have hgI : (gone.length : Int) ≤ 1000 := by omega
  replace t : Hid (Chn w p l) := t
  replace tg := Lib.hid tg
  replace hl := Lib.hid hl
  replace hcap := Lib.hid hcap
  go_enter Try.func26, Try.ntmps26
  go_wp2_with fail
  refine hR.out.mono ?_
  rintro e w2 ⟨rfl, b2⟩
  have x2 := Lib.hid (x.out.below b2)
  try dsimp only at x2
  clear b2 x y0 y1 hR
  have z0 := x2.out.z.cell 0
  have z1 := x2.out.z.cell 1
  have f0 := x2.out.z.fz 0
  have f1 := x2.out.z.fz 1
  cases r with
  | false =>
    have hans := Lib.hid (hA0.out rfl)
    go_wp2_with fail
    refine bodyPost_ret (v := .tuple #[.agg #[.int .i64 0, .slice none 0 0], .int .i64 3]) ?_ rfl ?_
    · rw [results_cell_tmp rfl]
      go_simp
    · rw [hans.out]
      exact AnsC.zero (bset (bset x2.out.b (by omega)) (by omega))
  | true =>
    have hri2 := hri.out rfl
    have hn8 : l.length ≤ 8 := hri2.n2
    have he1 : 1 ≤ e0 := hri2.e1
    have he2 : e0 ≤ 1099511627776 := hri2.e2
    have hlI : (l.length : Int) ≤ 8 := by omega
    replace hri2 := Lib.hid hri2
    clear hri hA0 z0 z1 f0 f1
    have hw1 : IntKind.i64.wrap (e0 + 1) = e0 + 1 := IntWalk.i64_in _ (by omega)
    have y0 := x2.out.c0
    have y1 := x2.out.c1
    have hot := Lib.hid (fun k hk => @outN_take l gone k hk)
    have hol := Lib.hid (fun k => Nat.le_trans (outN_le (l.take k) gone) (List.length_take_le k l))
    have xq : Hid (Bq w e0 (.slice p l.length cap) (w.heap.size + 1) w2.heap.size (e0 + 1) (.slice none 0 0) (.slice none 0 0) [] (w2.alloc (.cells #[.int .i64 (e0 + 1), .slice none 0 0] 24))) :=
      have ba := (Below.refl w2.heap.size w2).alloc (Nat.le_refl _) (.cells #[.int .i64 (e0 + 1), .slice none 0 0] 24)
      ⟨x2.out.k.below ba, x2.out.z.below ba, Blk.new _ _ _, World.ownsRow_nil _ _ _ _, x2.out.b.trans (ba.mono x2.out.b.size), by omega, x2.out.z.lt⟩
    go_upto_region 4 with fail
    clear y0 y1 x2 hw1
    generalize w2.alloc _ = w3 at *
    generalize w2.heap.size = q6 at *
    go_wp2_with fail
    go_loopw [7] (fun vi wr => ∃ (k : Nat) (v : Value), vi = .int .i64 k ∧ (k : Int) ≤ l.length ∧ Hid (Bq w e0 (.slice p l.length cap) (w.heap.size + 1) q6 (e0 + 1) v v (outN (l.take k) gone) wr)) (fun vi _ => ((l.length : Int) - intOf vi).toNat)
    case atStart => exact ⟨0, _, rfl, by omega, xq⟩
    case round =>
      obtain ⟨k, v, rfl, hk, x⟩ := hrel
      clear xq
      have y1 := x.out.k.cell 1
      try dsimp only at y1
      by_cases hlt : (k : Int) < l.length
      · have hkl : k < l.length := by omega
        obtain ⟨b, off, hpo, -, -, -⟩ := t.out k hkl
        subst hpo
        have hot2 := Lib.hid (hot.out k hkl)
        have hL : Hid ((outN (l.take k) gone).length ≤ 1000) := by have := hol.out k; show _ ≤ _; omega
        have hcl : Hid (∀ W, Below w.heap.size w W → W.cell? ⟨b, off + k * 3, none⟩ = some (.int .i64 l[k].m.node) ∧ W.cell? ⟨b, off + k * 3 + 1, none⟩ = some (.int .i64 l[k].m.life) ∧ W.cell? ⟨b, off + k * 3 + 2, none⟩ = some (.bool l[k].syn)) := fun W hb => by
          obtain ⟨b', off', eb, d0, d1, d2⟩ := (t.out.below hb) k hkl
          injection eb with eb
          injection eb with eb1 eb2
          subst eb1 eb2
          exact ⟨d0, d1, d2⟩
        generalize l[k] = s at *
        obtain ⟨⟨s0, s1⟩, s2⟩ := s
        dsimp only at hot2 hcl
        generalize outN (l.take k) gone = L at *
        go_wp2_with fail
        clear y1
        go_loopw [8, 9] (fun vl vj wr => ∃ (j : Nat) (lf : Bool), vj = .int .i64 j ∧ (j : Int) ≤ gone.length ∧ vl = .bool lf ∧ Hid (lf = !goneN (gone.take j) ⟨s0, s1⟩) ∧ Hid (Bq w e0 (.slice (some ⟨b, off, none⟩) l.length cap) (w.heap.size + 1) q6 (e0 + 1) v v L wr)) (fun _ vj _ => ((gone.length : Int) - intOf vj).toNat)
        case atStart => exact ⟨0, true, rfl, by omega, rfl, rfl, x⟩
        case round =>
          obtain ⟨j, lf, rfl, hj, rfl, hlf, x5⟩ := hrel
          clear x
          by_cases hjt : (j : Int) < gone.length
          · have hjg : j < gone.length := by omega
            obtain ⟨gb, goff, hqo, g0, g1⟩ := (tg.out.below x5.out.b) j hjg
            subst hqo
            have hst : Hid (goneN (gone.take (j + 1)) ⟨s0, s1⟩ = (goneN (gone.take j) ⟨s0, s1⟩ || decide ((⟨s0, s1⟩ : MbN) = gone[j]))) := Lib.hid (show goneN (gone.take (j + 1)) ⟨s0, s1⟩ = _ by
              unfold goneN
              rw [List.take_succ_eq_append_getElem hjg, List.any_append]
              simp)
            generalize gone[j] = gm at *
            obtain ⟨r0, r1⟩ := gm
            simp only at g0 g1 hst
            obtain ⟨d0, d1, -⟩ := hcl.out _ x5.out.b
            have y1 := x5.out.k.cell 1
            try dsimp only at y1
            have hq := mb_eq ⟨r0, r1⟩ ⟨s0, s1⟩
            cases lf with
            | false =>
              have hn : Hid (false = !goneN (gone.take (j + 1)) ⟨s0, s1⟩) := by
                rw [hst.out]
                have := hlf.out
                cases hx : goneN (gone.take j) ⟨s0, s1⟩
                · rw [hx] at this; cases this
                · rfl
              clear hq
              go_wp2_with fail
              go_quiet (fail)
              go_wp2_with fail
              exact ⟨⟨j + 1, false, by go_num, by omega, rfl, hn, Lib.hid (x5.out.below (belowN nq))⟩, by simp [intOf]; omega⟩
            | true =>
              have hg0 : goneN (gone.take j) ⟨s0, s1⟩ = false := by
                have := hlf.out
                cases hx : goneN (gone.take j) ⟨s0, s1⟩
                · rfl
                · rw [hx] at this; cases this
              by_cases he : (⟨r0, r1⟩ : MbN) = ⟨s0, s1⟩
              · rw [decide_eq_true he] at hq
                have hn : Hid (false = !goneN (gone.take (j + 1)) ⟨s0, s1⟩) := by rw [hst.out, hg0, decide_eq_true he.symm]; rfl
                replace he := Lib.hid he
                replace hg0 := Lib.hid hg0
                go_wp2_with fail
                go_quiet (fail)
                go_wp2_with fail
                exact ⟨⟨j + 1, false, by go_num, by omega, rfl, hn, Lib.hid (x5.out.below (belowN nq))⟩, by simp [intOf]; omega⟩
              · rw [decide_eq_false he] at hq
                have hn : Hid (true = !goneN (gone.take (j + 1)) ⟨s0, s1⟩) := by rw [hst.out, hg0, decide_eq_false (fun e => he e.symm)]; rfl
                replace he := Lib.hid he
                replace hg0 := Lib.hid hg0
                go_wp2_with fail
                go_quiet (fail)
                go_wp2_with fail
                exact ⟨⟨j + 1, true, by go_num, by omega, rfl, hn, Lib.hid (x5.out.below (belowN nq))⟩, by simp [intOf]; omega⟩
          · have hje : j = gone.length := by omega
            have hlf2 : Hid (lf = !goneN gone ⟨s0, s1⟩) := by rw [hlf.out, hje, List.take_length]; rfl
            clear hlf
            cases lf with
            | false =>
              have e7 : Hid (outN (l.take (k + 1)) gone = L) := by
                have := hlf2.out
                rw [hot2.out]
                cases hx : goneN gone ⟨s0, s1⟩
                · rw [hx] at this; cases this
                · rw [if_pos rfl]; exact List.append_nil _
              rw [← e7.out] at x5
              go_wp2_with fail
              exact ⟨⟨k + 1, v, by go_num, by omega, x5⟩, by simp [intOf]; omega⟩
            | true =>
              have e7 : Hid (outN (l.take (k + 1)) gone = L ++ [⟨⟨s0, s1⟩, s2⟩]) := by
                have := hlf2.out
                rw [hot2.out]
                cases hx : goneN gone ⟨s0, s1⟩
                · rfl
                · rw [hx] at this; cases this
              go_upto_region 13 with fail
              have hS : Hid (∀ (W : World) (u : Value) (v : Value) (L : List StN), Bq w e0 (.slice (some ⟨b, off, none⟩) l.length cap) (w.heap.size + 1) q6 (e0 + 1) u v L W → W.cell? ⟨w.heap.size, 1, none⟩ = some (.slice (some ⟨b, off, none⟩) l.length cap) ∧ W.cell? ⟨b, off + k * 3, none⟩ = some (.int .i64 s0) ∧ W.cell? ⟨b, off + k * 3 + 1, none⟩ = some (.int .i64 s1) ∧ W.cell? ⟨b, off + k * 3 + 2, none⟩ = some (.bool s2)) := fun W u v L h => ⟨h.k.cell 1, hcl.out W h.b⟩
              have x := Lib.hid (x5.out.below (Below.refl _ _).drew)
              have hcur := hS.out _ _ _ _ x.out
              clear x5
              refine wp_region_noPanic ?_
              refine wp_region_held_drew (S := (fun W => W.cell? ⟨w.heap.size, 1, none⟩ = some (.slice (some ⟨b, off, none⟩) l.length cap) ∧ W.cell? ⟨b, off + k * 3, none⟩ = some (.int .i64 s0) ∧ W.cell? ⟨b, off + k * 3 + 1, none⟩ = some (.int .i64 s1) ∧ W.cell? ⟨b, off + k * 3 + 2, none⟩ = some (.bool s2))) (by kernel_rfl) ?hSoX_0 (fun hHeld => ?_)
              case hSoX_0 => ((try dsimp only); exact hcur)
              generalize wr.drew = wD at *
              refine wpAnyH_take (i := 0) (oi := oX_0) (v := ?voX_1) rfl (by kernel_rfl) (by kernel_rfl) (by kernel_rfl) (fun _ _ _ h => h) (Or.inl ⟨by rfl, ?yoX_1⟩) (by assumption) ?roX_1
              case yoX_1 => (intro w hSw; (try dsimp only at hSw); unfold oX_0; go_simp; try with_reducible rfl)
              simp only [oX_0, Act.put, List.setIfInBounds_toArray, List.set_cons_zero, List.set_cons_succ]
              refine wpAnyH_take (i := 2) (oi := oX_2) (v := ?voX_2) rfl (by kernel_rfl) (by kernel_rfl) (by kernel_rfl) (fun _ _ _ h => h) (Or.inl ⟨by rfl, ?yoX_2⟩) (by assumption) ?roX_2
              case yoX_2 => (intro w hSw; (try dsimp only at hSw); unfold oX_2; go_simp; try with_reducible rfl)
              simp only [oX_2, Act.put, List.setIfInBounds_toArray, List.set_cons_zero, List.set_cons_succ]
              refine wpAnyH_take (i := 4) (oi := oX_4) (v := ?voX_3) rfl (by kernel_rfl) (by kernel_rfl) (by kernel_rfl) (fun _ _ _ h => h) (Or.inl ⟨by rfl, ?yoX_3⟩) (by assumption) ?roX_3
              case yoX_3 => (intro w hSw; (try dsimp only at hSw); unfold oX_4; go_simp; try with_reducible rfl)
              simp only [oX_4, Act.put, List.setIfInBounds_toArray, List.set_cons_zero, List.set_cons_succ]
              refine wpAnyH_take (i := 3) (oi := oX_3) (v := ?voX_4) rfl (by kernel_rfl) (by kernel_rfl) (by kernel_rfl) (fun _ _ _ h => h) (Or.inl ⟨by rfl, ?yoX_4⟩) (by assumption) ?roX_4
              case yoX_4 => (intro w hSw; (try dsimp only at hSw); unfold oX_3; go_simp; try with_reducible rfl)
              simp only [oX_3, Act.put, List.setIfInBounds_toArray, List.set_cons_zero, List.set_cons_succ]
              refine wpAnyH_take (i := 5) (oi := oX_5) (v := ?voX_5) rfl (by kernel_rfl) (by kernel_rfl) (by kernel_rfl) (fun _ _ _ h => h) (Or.inl ⟨by rfl, ?yoX_5⟩) (by assumption) ?roX_5
              case yoX_5 => (intro w hSw; (try dsimp only at hSw); unfold oX_5; go_simp; try with_reducible rfl)
              simp only [oX_5, Act.put, List.setIfInBounds_toArray, List.set_cons_zero, List.set_cons_succ]
              refine wpAnyH_take (i := 6) (oi := oX_6) (v := ?voX_6) rfl (by kernel_rfl) (by kernel_rfl) (by kernel_rfl) (fun _ _ _ h => h) (Or.inl ⟨by rfl, ?yoX_6⟩) (by assumption) ?roX_6
              case yoX_6 => (intro w hSw; (try dsimp only at hSw); unfold oX_6; go_simp; try with_reducible rfl)
              simp only [oX_6, Act.put, List.setIfInBounds_toArray, List.set_cons_zero, List.set_cons_succ]
              refine wpAnyH_ready (rs := [1, 7]) (by kernel_rfl) (by simp) ?_
              refine AllReadyH.cons (o := oX_1) rfl (fun K hK => ?_) ?_
              · clear hHeld
                unfold oX_1
                have yf := x.out.o6.cell 1
                try dsimp only at yf
                go_simp
                refine hK.out _ _ ?hSoX_7 (fun hHeld => ?_)
                case hSoX_7 => ((try dsimp only); exact hcur)
                clear hK K
                try simp only [Act.put, List.setIfInBounds_toArray, List.set_cons_zero, List.set_cons_succ]
                clear yf
                refine wpAnyH_ready (rs := [7]) (by kernel_rfl) (by simp) ?_
                refine AllReadyH.cons (o := oX_7) rfl (fun K hK => ?_) ?_
                · clear hHeld
                  unfold oX_7
                  go_simp
                  refine hK.out _ _ ?hSoX_8 (fun hHeld => ?_)
                  case hSoX_8 => ((try dsimp only); exact (hS.out _ _ _ _ (x.out.alloc _)))
                  clear hK K
                  try simp only [Act.put, List.setIfInBounds_toArray, List.set_cons_zero, List.set_cons_succ]
                  have kb := Lib.hid (Blk.new wD (stC ⟨⟨s0, s1⟩, s2⟩) 70)
                  replace x := Lib.hid (x.out.alloc (.cells (stC ⟨⟨s0, s1⟩, s2⟩) 70))
                  have hcur := hS.out _ _ _ _ x.out
                  generalize wD.alloc _ = woX1 at *
                  generalize wD.heap.size = iwoX1 at *
                  refine wpAnyH_ready (rs := [8]) (by kernel_rfl) (by simp) ?_
                  refine AllReadyH.cons (o := oX_8) rfl (fun K hK => ?_) ?_
                  · clear hHeld
                    unfold oX_8
                    obtain ⟨vn, woX2, hrun, on, -, gn⟩ := push_seat x.out.own hL.out x.out.b.size ⟨⟨s0, s1⟩, s2⟩ kb.out
                    replace x := Lib.hid (x.out.grown gn on)
                    clear gn on kb
                    have hcur := hS.out _ _ _ _ x.out
                    refine step_append_st (by rfl) _ _ 22 22 (by rfl) _ _ (by rfl) (by rfl) hrun ?_
                    clear hrun
                    refine hK.out _ _ ?hSoX_9 (fun hHeld => ?_)
                    case hSoX_9 => ((try dsimp only); exact hcur)
                    clear hK K
                    try simp only [Act.put, List.setIfInBounds_toArray, List.set_cons_zero, List.set_cons_succ]
                    refine wpAnyH_take (i := 9) (oi := oX_9) (v := ?voX_10) rfl (by kernel_rfl) (by kernel_rfl) (by kernel_rfl) (fun _ _ _ h => h) (Or.inl ⟨by rfl, ?yoX_10⟩) (by assumption) ?roX_10
                    case yoX_10 => (intro w hSw; (try dsimp only at hSw); unfold oX_9; go_simp; try with_reducible rfl)
                    simp only [oX_9, Act.put, List.setIfInBounds_toArray, List.set_cons_zero, List.set_cons_succ]
                    refine wpAnyH_ready (rs := [10]) (by kernel_rfl) (by simp) ?_
                    refine AllReadyH.cons (o := oX_10) rfl (fun K hK => ?_) ?_
                    · clear hHeld
                      unfold oX_10
                      obtain ⟨pn, cn, hvn, -, -⟩ := x.out.own.chn
                      rw [show (L ++ [(⟨⟨s0, s1⟩, s2⟩ : StN)]).length = L.length + 1 by simp] at hvn
                      subst hvn
                      have ff := x.out.o6.fz 1
                      have yf := x.out.o6.cell 1
                      go_simp
                      refine hK.out _ _ ?hSoX_11 (fun hHeld => ?_)
                      case hSoX_11 => ((try dsimp only); exact (hS.out _ _ _ _ x.out.put))
                      clear hK K
                      try simp only [Act.put, List.setIfInBounds_toArray, List.set_cons_zero, List.set_cons_succ]
                      clear ff yf
                      have hl1 := x.out.hz
                      have hl2 := x.out.h6
                      replace x := Lib.hid x.out.put
                      clear hl1 hl2
                      generalize woX2.setCell _ _ = woX3 at *
                      refine wpAnyH_done (by kernel_rfl) ?_ _
                      refine NoPanic.normal ?_
                      clear hHeld
                      rw [← e7.out] at x
                      clear hcur hS
                      go_wp2_with fail
                      exact ⟨⟨k + 1, _, by go_num, by omega, x⟩, by simp [intOf]; omega⟩
                    exact AllReadyH.nil
                  exact AllReadyH.nil
                exact AllReadyH.nil
              refine AllReadyH.cons (o := oX_7) rfl (fun K hK => ?_) ?_
              · clear hHeld
                unfold oX_7
                go_simp
                refine hK.out _ _ ?hSoX_12 (fun hHeld => ?_)
                case hSoX_12 => ((try dsimp only); exact (hS.out _ _ _ _ (x.out.alloc _)))
                clear hK K
                try simp only [Act.put, List.setIfInBounds_toArray, List.set_cons_zero, List.set_cons_succ]
                have kb := Lib.hid (Blk.new wD (stC ⟨⟨s0, s1⟩, s2⟩) 70)
                replace x := Lib.hid (x.out.alloc (.cells (stC ⟨⟨s0, s1⟩, s2⟩) 70))
                have hcur := hS.out _ _ _ _ x.out
                generalize wD.alloc _ = woX4 at *
                generalize wD.heap.size = iwoX4 at *
                refine wpAnyH_ready (rs := [1]) (by kernel_rfl) (by simp) ?_
                refine AllReadyH.cons (o := oX_1) rfl (fun K hK => ?_) ?_
                · clear hHeld
                  unfold oX_1
                  have yf := x.out.o6.cell 1
                  try dsimp only at yf
                  go_simp
                  refine hK.out _ _ ?hSoX_13 (fun hHeld => ?_)
                  case hSoX_13 => ((try dsimp only); exact hcur)
                  clear hK K
                  try simp only [Act.put, List.setIfInBounds_toArray, List.set_cons_zero, List.set_cons_succ]
                  clear yf
                  refine wpAnyH_ready (rs := [8]) (by kernel_rfl) (by simp) ?_
                  refine AllReadyH.cons (o := oX_8) rfl (fun K hK => ?_) ?_
                  · clear hHeld
                    unfold oX_8
                    obtain ⟨vn, woX5, hrun, on, -, gn⟩ := push_seat x.out.own hL.out x.out.b.size ⟨⟨s0, s1⟩, s2⟩ kb.out
                    replace x := Lib.hid (x.out.grown gn on)
                    clear gn on kb
                    have hcur := hS.out _ _ _ _ x.out
                    refine step_append_st (by rfl) _ _ 22 22 (by rfl) _ _ (by rfl) (by rfl) hrun ?_
                    clear hrun
                    refine hK.out _ _ ?hSoX_14 (fun hHeld => ?_)
                    case hSoX_14 => ((try dsimp only); exact hcur)
                    clear hK K
                    try simp only [Act.put, List.setIfInBounds_toArray, List.set_cons_zero, List.set_cons_succ]
                    refine wpAnyH_take (i := 9) (oi := oX_9) (v := ?voX_15) rfl (by kernel_rfl) (by kernel_rfl) (by kernel_rfl) (fun _ _ _ h => h) (Or.inl ⟨by rfl, ?yoX_15⟩) (by assumption) ?roX_15
                    case yoX_15 => (intro w hSw; (try dsimp only at hSw); unfold oX_9; go_simp; try with_reducible rfl)
                    simp only [oX_9, Act.put, List.setIfInBounds_toArray, List.set_cons_zero, List.set_cons_succ]
                    refine wpAnyH_ready (rs := [10]) (by kernel_rfl) (by simp) ?_
                    refine AllReadyH.cons (o := oX_10) rfl (fun K hK => ?_) ?_
                    · clear hHeld
                      unfold oX_10
                      obtain ⟨pn, cn, hvn, -, -⟩ := x.out.own.chn
                      rw [show (L ++ [(⟨⟨s0, s1⟩, s2⟩ : StN)]).length = L.length + 1 by simp] at hvn
                      subst hvn
                      have ff := x.out.o6.fz 1
                      have yf := x.out.o6.cell 1
                      go_simp
                      refine hK.out _ _ ?hSoX_16 (fun hHeld => ?_)
                      case hSoX_16 => ((try dsimp only); exact (hS.out _ _ _ _ x.out.put))
                      clear hK K
                      try simp only [Act.put, List.setIfInBounds_toArray, List.set_cons_zero, List.set_cons_succ]
                      clear ff yf
                      have hl1 := x.out.hz
                      have hl2 := x.out.h6
                      replace x := Lib.hid x.out.put
                      clear hl1 hl2
                      generalize woX5.setCell _ _ = woX6 at *
                      refine wpAnyH_done (by kernel_rfl) ?_ _
                      refine NoPanic.normal ?_
                      clear hHeld
                      rw [← e7.out] at x
                      clear hcur hS
                      go_wp2_with fail
                      exact ⟨⟨k + 1, _, by go_num, by omega, x⟩, by simp [intOf]; omega⟩
                    exact AllReadyH.nil
                  exact AllReadyH.nil
                exact AllReadyH.nil
              exact AllReadyH.nil
      · have hke : k = l.length := by omega
        subst hke
        rw [List.take_length] at x
        have hle := outN_le l gone
        obtain ⟨pv, cv, hvf, hcv, tv⟩ := x.out.own.chn
        subst hvf
        have hown := Lib.hid x.out.own
        have u0 := x.out.o6.cell 0
        have u1 := x.out.o6.cell 1
        have z0 := x.out.z.cell 0
        have z1 := x.out.z.cell 1
        have f0 := x.out.z.fz 0
        have f1 := x.out.z.fz 1
        try dsimp only at u0 u1 z0 z1
        have hq6 := x.out.h6
        have hnz : w.heap.size + 1 ≠ q6 := by omega
        generalize outN l gone = L at *
        replace tv := Lib.hid tv
        by_cases h1 : (L.length : Int) = l.length
        · have hans := Lib.hid (hA1.out (by first | rfl | trivial) (by omega))
          have h1b : ((L.length : Int) == l.length) = true := by rw [beq_iff_eq]; exact h1
          replace h1 := Lib.hid h1
          go_wp2_with fail
          refine bodyPost_ret (v := .tuple #[.agg #[.int .i64 0, .slice none 0 0], .int .i64 10]) ?_ rfl ?_
          · rw [results_cell_tmp rfl]
            go_simp
          · rw [hans.out]
            exact AnsC.zero (bset (bset x.out.b (by omega)) (by omega))
        · have h1n : L.length ≠ l.length := by omega
          have h1b : ((L.length : Int) == l.length) = false := by rw [beq_eq_false_iff_ne]; exact h1
          replace h1 := Lib.hid h1
          by_cases h2 : (L.length : Int) = 0
          · have hans := Lib.hid (hA2.out (by first | rfl | trivial) h1n (.inl (by omega)))
            have h2b : ((L.length : Int) == 0) = true := by rw [beq_iff_eq]; exact h2
            replace h2 := Lib.hid h2
            replace h1n := Lib.hid h1n
            go_wp2_with fail
            refine bodyPost_ret (v := .tuple #[.agg #[.int .i64 0, .slice none 0 0], .int .i64 13]) ?_ rfl ?_
            · rw [results_cell_tmp rfl]
              go_simp
            · rw [hans.out]
              exact AnsC.zero (bset (bset x.out.b (by omega)) (by omega))
          · have h2b : ((L.length : Int) == 0) = false := by rw [beq_eq_false_iff_ne]; exact h2
            have h2g : 0 < (L.length : Int) := by omega
            have h20 : 0 < L.length := by omega
            obtain ⟨b, off, hpo, c0, c1, c2⟩ := tv.out 0 h20
            subst hpo
            simp only [Nat.zero_mul, Nat.add_zero] at c0 c1 c2
            replace h2 := Lib.hid h2
            cases hE : L[0].syn with
            | false =>
              have hans := Lib.hid (hA2.out (by first | rfl | trivial) h1n (.inr (by rw [getD_eq h20]; exact hE)))
              rw [hE] at c2
              clear hE c0 c1
              replace h1n := Lib.hid h1n
              go_wp2_with fail
              refine bodyPost_ret (v := .tuple #[.agg #[.int .i64 0, .slice none 0 0], .int .i64 13]) ?_ rfl ?_
              · rw [results_cell_tmp rfl]
                go_simp
              · rw [hans.out]
                exact AnsC.zero (bset (bset x.out.b (by omega)) (by omega))
            | true =>
              have hans := Lib.hid (hA3.out (by first | rfl | trivial) h1n (by rw [getD_eq h20, hE]; rintro (h | h); omega; cases h))
              rw [hE] at c2
              clear hE c0 c1
              replace h1n := Lib.hid h1n
              by_cases h3 : 1099511627776 < e0 + 1
              · have hlt2 : laterN e0 L = (zeroN, 5) := by unfold laterN; rw [if_pos (by omega)]
                replace hans := Lib.hid (hans.out.trans hlt2)
                go_wp2_with fail
                refine bodyPost_ret (v := .tuple #[.agg #[.int .i64 0, .slice none 0 0], .int .i64 5]) ?_ rfl ?_
                · rw [results_cell_tmp rfl]
                  go_simp
                · rw [hans.out]
                  exact AnsC.zero (bset (bset x.out.b (by omega)) (by omega))
              · have hlt2 : laterN e0 L = (⟨e0 + 1, L⟩, 0) := by unfold laterN; rw [if_neg (by omega)]
                replace hans := Lib.hid (hans.out.trans hlt2)
                go_wp2_with fail
                refine bodyPost_ret (v := .tuple #[.agg #[.int .i64 (e0 + 1), .slice (some ⟨b, off, none⟩) L.length cv], .int .i64 0]) ?_ rfl ?_
                · rw [results_cell_tmp rfl]
                  go_simp
                · rw [hans.out]
                  exact ⟨⟨_, _, rfl, ((hown.out.setz x.out.z (by decide)).setz x.out.z.set (by decide)).chn2.1, hcv⟩, bset (bset x.out.b (by omega)) (by omega)⟩

end Go.Proofs.Ytnagidgffkffhaa.G
