/-
  Layer 11: Take: the chain that comes next of a reader. Condition: at most 100000 bytes are left.
-/
import Derived.Test.YtnagidgffkffhaaGTakeM
import Derived.Test.YtnagidgffkffhaaGMbs
set_option linter.unusedVariables false
set_option linter.unusedSimpArgs false
namespace Go.Proofs.Ytnagidgffkffhaa.G
open Go.RowKit Cod Cfg
set_option maxRecDepth 100000
theorem results_cell1 {fn : Func} {p : Tmp} {ty : TypeId} (h : fn.results = #[.cell p ty]) (tmps : Array Value) (P : Program) (w : World) :
    (results fn tmps).run P w = ((asAddr (tmps.getD p undef)).run P w).andThen fun a w₁ => (loadVar ty a).run P w₁ := by
  simp only [results, h]
  simp [Sem.run_bind, Result.andThen]
theorem Blk.kept {W W' : World} {b k : Nat} {cs : Array Value} {T : TypeId} (h : Blk W k cs T) (g : Kept b W W') (hb : k ≠ b) : Blk W' k cs T := (g.block k h.lt hb).trans h
theorem SOwn.keptR {base b : Nat} {v : Value} {l : List StN} {W W' : World} (o : SOwn base v l W) (g : Kept b W W') (hb : b < base) : SOwn base v l W' :=
  World.ownsRow.kept (row := some b) o ⟨g.os, g.tape, g.output, g.size, fun x hx hne => g.block x hx (fun e => hne (by rw [e]))⟩ (Or.inr (fun e => by have := (World.ownsRow.lt o b e).1; omega))
end Go.Proofs.Ytnagidgffkffhaa.G
namespace Go.Proofs.Ytnagidgffkffhaa
open G Go.RowKit
theorem Kept.grownR {x W W' : World} {b base : Nat} {v : Value} {l : List Cfg.StN} (g : Kept b x W) (gr : W.grownBy W' v.ownBlock) (o : SOwn base v l W) (hx : x.heap.size ≤ base) : Kept b x W' :=
  ⟨gr.os.trans g.os, gr.tape.trans g.tape, gr.output.trans g.output, Nat.le_trans g.size gr.size, fun i hi hb => (gr.block i (Nat.lt_of_lt_of_le hi g.size) (fun e => by have := (World.ownsRow.lt o i e.symm).1; omega)).trans (g.block i hi hb)⟩
theorem Kept.newR {b q i : Nat} {x y : World} {v : Value} (h : Kept b x y) (hq : x.heap.size ≤ q) : Kept b x (y.setCell ⟨q, i, none⟩ v) :=
  ⟨h.os, h.tape, h.output, by simpa [World.setCell] using h.size, fun k hk hb => (heap_setCell_other y ⟨q, i, none⟩ k v (show k ≠ q by omega)).trans (h.block k hk hb)⟩
theorem Rd.grownR {W W' : World} {b base : Nat} {st : St} {v : Value} {l : List Cfg.StN} (t : Rd W b st) (gr : W.grownBy W' v.ownBlock) (o : SOwn base v l W) (hb : b < base) : Rd W' b st :=
  t.same gr.size (gr.block b t.lt (fun e => by have := (World.ownsRow.lt o b e.symm).1; omega))
theorem Rd.set {w : World} {b q o : Nat} {st : St} {v : Value} (t : Rd w b st) (h : b ≠ q) : Rd (w.setCell ⟨q, o, none⟩ v) b st := t.same (by simp [World.setCell]) (heap_setCell_other w ⟨q, o, none⟩ b v h)
end Go.Proofs.Ytnagidgffkffhaa
namespace Go.Proofs.Ytnagidgffkffhaa.G
open Go.RowKit Cod Cfg
/-- A chain of zeros, the chain that grows, its seats; only the reader's block turns beside. -/
structure Tk (w : World) (b q : Nat) (ep : Int) (u v : Value) (l : List StN) (W : World) : Prop where
  z : Blk W w.heap.size #[.int .i64 0, .slice none 0 0] 24
  k : Blk W q #[.int .i64 ep, u] 24
  o : SOwn w.heap.size v l W
  g : Kept b w W
  hb : b < w.heap.size
  hq : w.heap.size < q
section
variable {w W W' : World} {b q : Nat} {ep : Int} {u v : Value} {l : List StN}
theorem Tk.lo (h : Tk w b q ep u v l W) : w.heap.size ≤ W.heap.size := h.g.size
theorem Tk.below (h : Tk w b q ep u v l W) (k : Below W.heap.size W W') : Tk w b q ep u v l W' := ⟨h.z.below k, h.k.below k, h.o.below k, h.g.trans (Kept.ofBelow k), h.hb, h.hq⟩
theorem Tk.alloc (h : Tk w b q ep u v l W) (o : Obj) : Tk w b q ep u v l (W.alloc o) := h.below ((Below.refl _ _).alloc (Nat.le_refl _) _)
theorem Tk.kept (h : Tk w b q ep u v l W) (k : Kept b W W') : Tk w b q ep u v l W' := ⟨h.z.kept k (by have := h.hb; omega), h.k.kept k (by have := h.hb; have := h.hq; omega), h.o.keptR k h.hb, h.g.trans k, h.hb, h.hq⟩
theorem Tk.grow {v' : Value} {l' : List StN} (h : Tk w b q ep u v l W) (gr : W.grownBy W' v.ownBlock) (o : SOwn w.heap.size v' l' W') : Tk w b q ep u v' l' W' :=
  ⟨h.z.grown gr (own_apart h.o h.z (by decide)), h.k.grown gr (own_apart h.o h.k (by decide)), o, h.g.grownR gr h.o (Nat.le_refl _), h.hb, h.hq⟩
theorem Tk.store (h : Tk w b q ep u v l W) : Tk w b q ep v v l (W.setCell ⟨q, 1, none⟩ v) :=
  ⟨h.z.setf (by have := h.hq; omega), h.k.set, h.o.setz h.k (by decide), h.g.newR (Nat.le_of_lt h.hq), h.hb, h.hq⟩
theorem Tk.new {w1 : World} (ep : Int) (z : Blk w1 w.heap.size #[.int .i64 0, .slice none 0 0] 24) (g : Kept b w w1) (hb : b < w.heap.size) (hs : w.heap.size < w1.heap.size) :
    Tk w b w1.heap.size ep (.slice none 0 0) (.slice none 0 0) [] (w1.alloc (.cells #[.int .i64 ep, .slice none 0 0] 24)) :=
  ⟨z.below ((Below.refl _ _).alloc (Nat.le_refl _) _), Blk.new w1 _ _, World.ownsRow_nil _ _ _ _, g.trans (Kept.ofBelow ((Below.refl _ _).alloc (Nat.le_refl _) _)), hb, hs⟩
end
set_option maxHeartbeats 4000000 in
theorem takeSeat_any (b : Nat) (st : St) (w : World) (t : Rd w b st) :
    Calls Try.prog 58 #[.pointer (some ⟨b, 0, none⟩)] w fun e w' => e = .returned (stV (seatS st).1) ∧ Rd w' b (seatS st).2 ∧ Kept b w w' := by
  obtain ⟨A, S1, hA⟩ : ∃ A S1, uintS st = (A, S1) := ⟨_, _, rfl⟩
  obtain ⟨B, S2, hB⟩ : ∃ x y, uintS S1 = (x, y) := ⟨_, _, rfl⟩
  obtain ⟨C, S3, hC⟩ : ∃ x y, byteS S2 = (x, y) := ⟨_, _, rfl⟩
  have hans : Hid (seatS st = (⟨⟨w64 A, w64 B⟩, decide (C = 1)⟩, if 1 < C then failS S3 3 else S3)) := by
    show _ = _
    unfold seatS
    rw [hA]
    dsimp only
    rw [hB]
    dsimp only
    rw [hC]
  have cA := fun W tW => uint_all b st W tW
  rw [hA] at cA
  have cB := fun W tW => uint_all b S1 W tW
  rw [hB] at cB
  have cC := fun W tW => byte_all b S2 W tW
  rw [hC] at cC
  have hwA : IntKind.i64.wrap A = w64 A := rfl
  have hwB : IntKind.i64.wrap B = w64 B := rfl
  have hcC : (C == 1) = decide (C = 1) := rfl
  have hbl := Lib.hid t.lt
  generalize w64 A = a at *
  generalize w64 B = bb at *
  replace cA := Lib.hid cA
  replace cB := Lib.hid cB
  replace cC := Lib.hid cC
  have z := Lib.hid (Blk.new w #[.int .i64 0, .int .i64 0, .bool false] 70)
  have ba := (Below.refl w.heap.size w).alloc (Nat.le_refl _) (.cells #[.int .i64 0, .int .i64 0, .bool false] 70)
  replace t := Lib.hid (t.below ba)
  have g := Lib.hid (Kept.ofBelow (b := b) ba)
  clear hA hB hC ba
  go_enter Try.func58, Try.ntmps58
  go_wp2_with fail
  generalize w.alloc _ = w0 at *
  have hq : Hid (b ≠ w.heap.size ∧ w.heap.size ≤ w.heap.size) := by have := hbl.out; exact ⟨by omega, Nat.le_refl _⟩
  generalize hqq : w.heap.size = q at *
  replace hqq := Lib.hid hqq
  have hzq : Hid (q ≠ b) := fun e => hq.out.1 e.symm
  refine (cA.out _ t.out).mono ?_
  rintro e w1 ⟨rfl, t1, k1⟩
  try dsimp only at t1
  replace z := Lib.hid (z.out.kept k1 hzq.out)
  replace g := Lib.hid (g.out.trans k1)
  replace t1 := Lib.hid t1
  clear t k1
  go_wp2_with fail
  refine (cB.out _ t1.out).mono ?_
  rintro e w2 ⟨rfl, t2, k2⟩
  try dsimp only at t2
  have bm := (Below.refl w2.heap.size w2).alloc (Nat.le_refl _) (.cells #[.int .i64 a, .int .i64 bb] 26)
  have km := Lib.hid (Blk.new w2 #[.int .i64 a, .int .i64 bb] 26)
  have hmb : Hid (w2.heap.size ≠ b) := by have := t2.lt; show _ ≠ _; omega
  replace z := Lib.hid ((z.out.kept k2 hzq.out).below bm)
  replace g := Lib.hid ((g.out.trans k2).trans (Kept.ofBelow bm))
  replace t2 := Lib.hid (t2.below bm)
  clear t1 k2 bm
  go_upto_region 2 with fail
  generalize w2.alloc _ = w3 at *
  generalize w2.heap.size = qm at *
  go_wp2_with fail
  refine (cC.out _ t2.out).mono ?_
  rintro e w4 ⟨rfl, t4, k4⟩
  try dsimp only at t4
  replace z := Lib.hid (z.out.kept k4 hzq.out)
  replace km := Lib.hid (km.out.kept k4 hmb.out)
  replace g := Lib.hid (g.out.trans k4)
  replace t4 := Lib.hid t4
  clear t2 k4
  by_cases h1 : 1 < C
  · go_wp2_with fail
    refine (fail_any b S3 3 _ t4.out).mono ?_
    rintro e w5 ⟨rfl, t5, k5⟩
    replace z := Lib.hid (z.out.kept k5 hzq.out)
    replace km := Lib.hid (km.out.kept k5 hmb.out)
    replace g := Lib.hid (g.out.trans k5)
    replace t5 := Lib.hid t5
    clear t4 k5
    have y0 := z.out.cell 0
    have y1 := z.out.cell 1
    have y2 := z.out.cell 2
    have f0 := z.out.fz 0
    have f1 := z.out.fz 1
    have f2 := z.out.fz 2
    have u0 := km.out.cell 0
    have u1 := km.out.cell 1
    try dsimp only at y0 y1 y2 u0 u1
    have hans2 : Hid (seatS st = (⟨⟨a, bb⟩, decide (C = 1)⟩, failS S3 3)) := by show _ = _; rw [hans.out, if_pos h1]
    generalize decide (C = 1) = f at *
    replace h1 := Lib.hid h1
    go_wp2_with fail
    refine bodyPost_ret (v := .agg #[.int .i64 a, .int .i64 bb, .bool f]) ?_ rfl ?_
    · rw [results_cell1 rfl]
      go_simp
    · rw [hans2.out]
      exact ⟨rfl, ((t5.out.set hq.out.1).set hq.out.1).set hq.out.1, ((g.out.newR (by rw [hqq.out]; exact Nat.le_refl _)).newR (by rw [hqq.out]; exact Nat.le_refl _)).newR (by rw [hqq.out]; exact Nat.le_refl _)⟩
  · have y0 := z.out.cell 0
    have y1 := z.out.cell 1
    have y2 := z.out.cell 2
    have f0 := z.out.fz 0
    have f1 := z.out.fz 1
    have f2 := z.out.fz 2
    have u0 := km.out.cell 0
    have u1 := km.out.cell 1
    try dsimp only at y0 y1 y2 u0 u1
    have hans2 : Hid (seatS st = (⟨⟨a, bb⟩, decide (C = 1)⟩, S3)) := by show _ = _; rw [hans.out, if_neg h1]
    generalize decide (C = 1) = f at *
    go_wp2_with fail
    refine bodyPost_ret (v := .agg #[.int .i64 a, .int .i64 bb, .bool f]) ?_ rfl ?_
    · rw [results_cell1 rfl]
      go_simp
    · rw [hans2.out]
      exact ⟨rfl, ((t4.out.set hq.out.1).set hq.out.1).set hq.out.1, ((g.out.newR (by rw [hqq.out]; exact Nat.le_refl _)).newR (by rw [hqq.out]; exact Nat.le_refl _)).newR (by rw [hqq.out]; exact Nat.le_refl _)⟩

/-- What Take answers. -/
def AnsT (x : CfN × St) (b : Nat) (w : World) (e : Ending) (w' : World) : Prop := (∃ p cap, e = .returned (.agg #[.int .i64 x.1.epoch, .slice p x.1.l.length cap]) ∧ Chn w' p x.1.l ∧ x.1.l.length ≤ cap ∧ (∀ g off, p = some ⟨g, off, none⟩ → w.heap.size ≤ g)) ∧ Rd w' b x.2 ∧ Kept b w w'
theorem fail_stay {st : St} (h : st.e ≠ 0) (x : Int) : failS st x = st := by unfold failS; rw [if_neg h]
theorem endS_err {c : CfN} {st : St} (h : st.e ≠ 0) : endS c st = (zeroN, st) := by
  have e : endE c st = st := by
    unfold endE
    split
    · rfl
    · exact fail_stay h 3
  unfold endS
  rw [e, if_neg h]
theorem endS_bad {c : CfN} {st : St} (h : rightN c = false) : endS c st = (zeroN, failS st 3) := by
  have e : endE c st = failS st 3 := by
    unfold endE
    rw [if_neg (by rw [h]; decide)]
  unfold endS
  rw [e, if_neg (fail_ne _ (by decide))]
theorem endS_ok {c : CfN} {st : St} (h : rightN c = true) (he : st.e = 0) : endS c st = (c, st) := by
  unfold endS endE
  rw [if_pos h, if_pos he]
theorem runS_err {k : Nat} {st : St} (h : st.e ≠ 0) : runS k st = ([], st) := by
  cases k with
  | zero => rfl
  | succ k => unfold runS; rw [if_neg h]
theorem runS_next {k : Nat} {st : St} (h : st.e = 0) : runS (k + 1) st = ((seatS st).1 :: (runS k (seatS st).2).1, (runS k (seatS st).2).2) := if_pos h
abbrev oT_0 : Oper := { dst := some 22, op := Go.Op.fieldAddr 24 (Go.Operand.tmp 3) 1, type := 0, pos := "bytes.go:71", after := #[], guard := none }
abbrev oT_1 : Oper := { dst := some 23, op := Go.Op.load 22 (Go.Operand.tmp 22), type := 22, pos := "bytes.go:71", after := #[{ on := 0, ground := Go.Ground.data }], guard := none }
abbrev oT_2 : Oper := { dst := some 24, op := Go.Op.move (Go.Operand.tmp 0), type := 53, pos := "bytes.go:71", after := #[], guard := none }
abbrev oT_3 : Oper := { dst := some 25, op := Go.Op.call { callee := Go.Callee.value (Go.Operand.func 58), args := #[Go.Operand.tmp 24], argTypes := #[53] }, type := 70, pos := "bytes.go:71", after := #[{ on := 2, ground := Go.Ground.data }], guard := none }
abbrev oT_4 : Oper := { dst := some 26, op := Go.Op.buildSlice 22 1 #[(0, Go.Operand.tmp 25)], type := 22, pos := "bytes.go:71", after := #[{ on := 3, ground := Go.Ground.data }], guard := none }
abbrev oT_5 : Oper := { dst := some 27, op := Go.Op.call { callee := Go.Callee.builtin Go.Builtin.append, args := #[Go.Operand.tmp 23, Go.Operand.tmp 26], argTypes := #[22, 22] }, type := 22, pos := "bytes.go:71", after := #[{ on := 1, ground := Go.Ground.data }, { on := 4, ground := Go.Ground.data }, { on := 3, ground := Go.Ground.chain }], guard := none }
abbrev oT_6 : Oper := { dst := some 28, op := Go.Op.fieldAddr 24 (Go.Operand.tmp 3) 1, type := 0, pos := "bytes.go:71", after := #[{ on := 0, ground := Go.Ground.phase }, { on := 1, ground := Go.Ground.phase }, { on := 2, ground := Go.Ground.phase }, { on := 3, ground := Go.Ground.phase }, { on := 4, ground := Go.Ground.phase }, { on := 5, ground := Go.Ground.phase }], guard := none }
abbrev oT_7 : Oper := { dst := none, op := Go.Op.store 22 (Go.Operand.tmp 28) (Go.Operand.tmp 27), type := 0, pos := "bytes.go:71", after := #[{ on := 6, ground := Go.Ground.data }, { on := 5, ground := Go.Ground.data }, { on := 5, ground := Go.Ground.chain }, { on := 0, ground := Go.Ground.phase }, { on := 1, ground := Go.Ground.phase }, { on := 2, ground := Go.Ground.phase }, { on := 3, ground := Go.Ground.phase }, { on := 4, ground := Go.Ground.phase }, { on := 5, ground := Go.Ground.phase }], guard := none }
set_option maxHeartbeats 8000000 in
theorem cfgTake_any (b : Nat) (st : St) (w : World) (t : Rd w b st) :
    Calls Try.prog 36 #[.pointer (some ⟨b, 0, none⟩)] w fun e w' => AnsT (takeP st) b w e w' := by
  obtain ⟨A, S1, hA⟩ : ∃ A S1, uintS st = (A, S1) := ⟨_, _, rfl⟩
  obtain ⟨n, S2, hB, hn⟩ : ∃ (n : Nat) (S2 : St), uintS S1 = ((n : Int), S2) ∧ n < 18446744073709551616 := by
    obtain ⟨n, h1, h2⟩ := uintS_nat S1
    exact ⟨n, (uintS S1).2, Prod.ext h1 rfl, h2⟩
  have hP8 : (8 : Int) < n → takeP st = (zeroN, failS S2 3) := fun h => by
    unfold takeP; rw [hA]; dsimp only; rw [hB]; dsimp only; rw [if_pos h]
  have hPn : ¬ (8 : Int) < n → takeP st = endS ⟨w64 A, (runS n S2).1⟩ (runS n S2).2 := fun h => by
    unfold takeP; rw [hA]; dsimp only; rw [hB]; dsimp only; rw [if_neg h, Int.toNat_natCast]
  obtain ⟨L, E, hLE⟩ : ∃ L E, runS n S2 = (L, E) := ⟨_, _, rfl⟩
  rw [hLE] at hPn
  dsimp only at hPn
  generalize takeP st = T at *
  have cA := fun W tW => uint_all b st W tW
  rw [hA] at cA
  have cB := fun W tW => uint_all b S1 W tW
  rw [hB] at cB
  have hwA : IntKind.i64.wrap A = w64 A := rfl
  have hbl := Lib.hid t.lt
  generalize w64 A = ep at *
  replace cA := Lib.hid cA
  replace cB := Lib.hid cB
  replace hP8 := Lib.hid hP8
  replace hPn := Lib.hid hPn
  replace hLE := Lib.hid hLE
  have z := Lib.hid (Blk.new w #[.int .i64 0, .slice none 0 0] 24)
  have ba := (Below.refl w.heap.size w).alloc (Nat.le_refl _) (.cells #[.int .i64 0, .slice none 0 0] 24)
  have hsz : Hid (w.heap.size < (w.alloc (.cells #[.int .i64 0, .slice none 0 0] 24)).heap.size) := by show _ < _; simp
  replace t := Lib.hid (t.below ba)
  have g := Lib.hid (Kept.ofBelow (b := b) ba)
  have hbz : Hid (b ≠ w.heap.size) := by have := hbl.out; show _ ≠ _; omega
  clear hA hB ba
  go_enter Try.func36, Try.ntmps36
  go_wp2_with fail
  generalize w.alloc _ = w0 at *
  refine (cA.out _ t.out).mono ?_
  rintro e w1 ⟨rfl, t1, k1⟩
  try dsimp only at t1
  have tk := Lib.hid (Tk.new ep (z.out.kept k1 (fun e => hbz.out e.symm)) (g.out.trans k1) hbl.out (Nat.lt_of_lt_of_le hsz.out k1.size))
  have rd := Lib.hid (t1.below ((Below.refl _ _).alloc (Nat.le_refl _) (.cells #[.int .i64 ep, .slice none 0 0] 24)))
  clear t z g t1 k1 hsz cA
  go_upto_region 2 with fail
  clear hwA
  generalize w1.alloc _ = w2 at *
  generalize w1.heap.size = qc at *
  have hbq : Hid (b ≠ qc) := by have := tk.out.hb; have := tk.out.hq; show _ ≠ _; omega
  go_wp2_with fail
  refine (cB.out _ rd.out).mono ?_
  rintro e w3 ⟨rfl, t3, k3⟩
  try dsimp only at t3
  replace tk := Lib.hid (tk.out.kept k3)
  replace rd := Lib.hid t3
  clear t3 k3 cB
  by_cases h8 : (8 : Int) < n
  · have hans := Lib.hid (hP8.out h8)
    have hn0 : (0 : Int) < n := by omega
    clear hP8 hPn hLE
    go_wp2_with fail
    refine (fail_any b S2 3 _ rd.out).mono ?_
    rintro e w4 ⟨rfl, t4, k4⟩
    replace tk := Lib.hid (tk.out.kept k4)
    have hne : ((failS S2 3).e != 0) = true := by rw [bne_iff_ne]; exact fail_ne _ (by decide)
    generalize failS S2 3 = SF at *
    replace rd := Lib.hid t4
    clear t4 k4
    replace h8 := Lib.hid h8
    go_wp2_with fail
    go_loopw [16] (fun vi wr => vi = .int .u64 0 ∧ Hid (Tk w b qc ep (.slice none 0 0) (.slice none 0 0) [] wr) ∧ Hid (Rd wr b SF)) (fun _ _ => 0)
    case atStart => exact ⟨rfl, tk, rd⟩
    case round =>
      obtain ⟨rfl, tk5, rd5⟩ := hrel
      clear tk rd
      go_wp2_with fail
      refine (err_any b _ _ rd5.out).mono ?_
      rintro e w5 ⟨rfl, rfl⟩
      have y0 := tk5.out.z.cell 0
      have y1 := tk5.out.z.cell 1
      have f0 := tk5.out.z.fz 0
      have f1 := tk5.out.z.fz 1
      try dsimp only at y0 y1
      go_wp2_with fail
      refine bodyPost_ret (v := .agg #[.int .i64 0, .slice none 0 0]) ?_ rfl ?_
      · rw [results_cell1 rfl]
        go_simp
      · rw [hans.out]
        exact ⟨⟨none, 0, rfl, Chn.nil _ _, Nat.le_refl _, fun g off h => by cases h⟩, (rd5.out.set hbz.out).set hbz.out, (tk5.out.g.newR (Nat.le_refl _)).newR (Nat.le_refl _)⟩
  · have hans := Lib.hid (hPn.out (by first | exact h8 | omega))
    have hn8 : (n : Int) ≤ 8 := by omega
    have hn8' : n ≤ 8 := by omega
    clear hP8 hPn
    replace h8' := Lib.hid h8
    go_wp2_with fail
    clear h8
    go_loopw [16] (fun vi wr => ∃ (i : Nat) (v : Value) (l : List StN) (stt : St), vi = .int .u64 i ∧ (i : Int) ≤ n ∧ Hid (l ++ (runS (n - i) stt).1 = L) ∧ Hid ((runS (n - i) stt).2 = E) ∧ Hid (l.length = i) ∧ Hid (Tk w b qc ep v v l wr) ∧ Hid (Rd wr b stt)) (fun vi _ => ((n : Int) - intOf vi).toNat)
    case atStart => exact ⟨0, _, [], S2, rfl, by omega, by show _ = _; rw [Nat.sub_zero, hLE.out]; rfl, by show _ = _; rw [Nat.sub_zero, hLE.out], rfl, tk, rd⟩
    case round =>
      obtain ⟨i, v, l, stt, rfl, hi, hl, hs, hli, tk5, rd5⟩ := hrel
      clear tk rd hLE
      have tk := tk5
      have rd := rd5
      clear tk5 rd5
      have hl1000 : Hid (l.length ≤ 1000) := by have := hli.out; show _ ≤ _; omega
      by_cases hlt : (i : Int) < n
      · have hnk : n - i = (n - (i + 1)) + 1 := by omega
        rw [hnk] at hl hs
        by_cases he : stt.e = 0
        · have hne : (stt.e != 0) = false := by rw [bne_eq_false_iff_eq]; exact he
          obtain ⟨s0, s1, s2, S3, hse⟩ : ∃ s0 s1 s2 S3, seatS stt = (⟨⟨s0, s1⟩, s2⟩, S3) := ⟨_, _, _, _, rfl⟩
          have hts := fun W tW => takeSeat_any b stt W tW
          rw [hse] at hts
          replace hts := Lib.hid hts
          have hr := runS_next (k := n - (i + 1)) he
          rw [hse] at hr
          have hl2 : Hid ((l ++ [⟨⟨s0, s1⟩, s2⟩]) ++ (runS (n - (i + 1)) S3).1 = L) := by
            have h1 := hl.out
            rw [hr] at h1
            show _ = _
            rw [List.append_assoc]
            exact h1
          have hs2 : Hid ((runS (n - (i + 1)) S3).2 = E) := by
            have h1 := hs.out
            rw [hr] at h1
            exact h1
          have hn2 : Hid ((l ++ [(⟨⟨s0, s1⟩, s2⟩ : StN)]).length = i + 1) := by show _ = _; rw [List.length_append, hli.out]; rfl
          have hps : Hid (∀ (W : World) (vb : Nat), SOwn w.heap.size v l W → w.heap.size ≤ W.heap.size → Blk W vb #[.int .i64 s0, .int .i64 s1, .bool s2] 70 → ∃ v' w', (Builtin.append_ #[22, 22] 22 #[v, .slice (some ⟨vb, 0, none⟩) 1 1]).run Try.prog W = .ok v' w' ∧ SOwn w.heap.size v' (l ++ [⟨⟨s0, s1⟩, s2⟩]) w' ∧ Below w.heap.size W w' ∧ W.grownBy w' v.ownBlock) := fun W vb o hb k => push_seat o hl1000.out hb ⟨⟨s0, s1⟩, s2⟩ k
          clear hl hs hr hli hl1000 hnk hse hans
          replace he := Lib.hid he
          go_wp2_with fail
          refine (err_any b _ _ rd.out).mono ?_
          rintro e w5 ⟨rfl, rfl⟩
          go_upto_region 9 with fail
          clear hne
          replace tk := Lib.hid (tk.out.below (Below.refl _ _).drew)
          replace rd := Lib.hid (rd.out.below (Below.refl _ _).drew)
          refine wp_region_noPanic ?_
          refine wp_region_held_drew (S := (fun W => 0 ≤ W.heap.size)) (by kernel_rfl) ?hSoT_0 (fun hHeld => ?_)
          case hSoT_0 => ((try dsimp only); exact (Nat.zero_le _))
          generalize wr.drew = wD at *
          refine wpAnyH_take (i := 0) (oi := oT_0) (v := ?voT_1) rfl (by kernel_rfl) (by kernel_rfl) (by kernel_rfl) (fun _ _ _ h => h) (Or.inl ⟨by rfl, ?yoT_1⟩) (by assumption) ?roT_1
          case yoT_1 => (intro w hSw; (try dsimp only at hSw); unfold oT_0; go_simp; try with_reducible rfl)
          simp only [oT_0, Act.put, List.setIfInBounds_toArray, List.set_cons_zero, List.set_cons_succ]
          refine wpAnyH_take (i := 2) (oi := oT_2) (v := ?voT_2) rfl (by kernel_rfl) (by kernel_rfl) (by kernel_rfl) (fun _ _ _ h => h) (Or.inl ⟨by rfl, ?yoT_2⟩) (by assumption) ?roT_2
          case yoT_2 => (intro w hSw; (try dsimp only at hSw); unfold oT_2; go_simp; try with_reducible rfl)
          simp only [oT_2, Act.put, List.setIfInBounds_toArray, List.set_cons_zero, List.set_cons_succ]
          refine wpAnyH_ready (rs := [1, 3]) (by kernel_rfl) (by simp) ?_
          refine AllReadyH.cons (o := oT_1) rfl (fun K hK => ?_) ?_
          · clear hHeld
            unfold oT_1
            have z1 := tk.out.k.cell 1
            try dsimp only at z1
            go_simp
            refine hK.out _ _ ?hSoT_3 (fun hHeld => ?_)
            case hSoT_3 => ((try dsimp only); exact (Nat.zero_le _))
            clear hK K
            try simp only [Act.put, List.setIfInBounds_toArray, List.set_cons_zero, List.set_cons_succ]
            clear z1
            refine wpAnyH_ready (rs := [3]) (by kernel_rfl) (by simp) ?_
            refine AllReadyH.cons (o := oT_3) rfl (fun K hK => ?_) ?_
            · clear hHeld
              unfold oT_3
              go_simp
              go_at_call 58
              refine (hts.out _ rd.out).mono ?_
              rintro e wt1 ⟨rfl, rd8, g8⟩
              replace rd := Lib.hid rd8
              replace tk := Lib.hid (tk.out.kept g8)
              clear rd8 g8
              dsimp only
              refine hK.out _ _ ?hSoT_4 (fun hHeld => ?_)
              case hSoT_4 => ((try dsimp only); exact (Nat.zero_le _))
              clear hK K
              try simp only [Act.put, List.setIfInBounds_toArray, List.set_cons_zero, List.set_cons_succ]
              refine wpAnyH_ready (rs := [4]) (by kernel_rfl) (by simp) ?_
              refine AllReadyH.cons (o := oT_4) rfl (fun K hK => ?_) ?_
              · clear hHeld
                unfold oT_4
                go_simp
                refine hK.out _ _ ?hSoT_5 (fun hHeld => ?_)
                case hSoT_5 => ((try dsimp only); exact (Nat.zero_le _))
                clear hK K
                try simp only [Act.put, List.setIfInBounds_toArray, List.set_cons_zero, List.set_cons_succ]
                have kb := Lib.hid (Blk.new wt1 #[.int .i64 s0, .int .i64 s1, .bool s2] 70)
                replace tk := Lib.hid (tk.out.alloc (.cells #[.int .i64 s0, .int .i64 s1, .bool s2] 70))
                replace rd := Lib.hid (rd.out.below ((Below.refl _ _).alloc (Nat.le_refl _) (.cells #[.int .i64 s0, .int .i64 s1, .bool s2] 70)))
                generalize wt1.alloc _ = wt2 at *
                generalize wt1.heap.size = iwt2 at *
                refine wpAnyH_ready (rs := [5]) (by kernel_rfl) (by simp) ?_
                refine AllReadyH.cons (o := oT_5) rfl (fun K hK => ?_) ?_
                · clear hHeld
                  unfold oT_5
                  obtain ⟨vn, wt3, hrun, on, kn, gn⟩ := hps.out _ _ tk.out.o tk.out.lo kb.out
                  replace rd := Lib.hid (rd.out.grownR gn tk.out.o tk.out.hb)
                  have tg := Lib.hid (tk.out.grow gn on)
                  clear kn gn on tk kb
                  obtain ⟨pn, cn, hvn, hcn, tn⟩ := tg.out.o.chn
                  subst hvn
                  rw [show (l ++ [(⟨⟨s0, s1⟩, s2⟩ : StN)]).length = l.length + 1 from by simp] at tg hrun
                  clear tn hcn
                  refine step_append_st (by rfl) _ _ 22 22 (by rfl) _ _ (by rfl) (by rfl) hrun ?_
                  clear hrun
                  refine hK.out _ _ ?hSoT_6 (fun hHeld => ?_)
                  case hSoT_6 => ((try dsimp only); exact (Nat.zero_le _))
                  clear hK K
                  try simp only [Act.put, List.setIfInBounds_toArray, List.set_cons_zero, List.set_cons_succ]
                  refine wpAnyH_take (i := 6) (oi := oT_6) (v := ?voT_7) rfl (by kernel_rfl) (by kernel_rfl) (by kernel_rfl) (fun _ _ _ h => h) (Or.inl ⟨by rfl, ?yoT_7⟩) (by assumption) ?roT_7
                  case yoT_7 => (intro w hSw; (try dsimp only at hSw); unfold oT_6; go_simp; try with_reducible rfl)
                  simp only [oT_6, Act.put, List.setIfInBounds_toArray, List.set_cons_zero, List.set_cons_succ]
                  refine wpAnyH_ready (rs := [7]) (by kernel_rfl) (by simp) ?_
                  refine AllReadyH.cons (o := oT_7) rfl (fun K hK => ?_) ?_
                  · clear hHeld
                    unfold oT_7
                    have z1 := tg.out.k.cell 1
                    have f1 := tg.out.k.fz 1
                    try dsimp only at z1
                    go_simp
                    refine hK.out _ _ ?hSoT_8 (fun hHeld => ?_)
                    case hSoT_8 => ((try dsimp only); exact (Nat.zero_le _))
                    clear hK K
                    try simp only [Act.put, List.setIfInBounds_toArray, List.set_cons_zero, List.set_cons_succ]
                    have tk := Lib.hid tg.out.store
                    replace rd := Lib.hid (rd.out.set (q := qc) (o := 1) (v := .slice pn (l.length + 1) cn) hbq.out)
                    clear tg z1 f1
                    refine wpAnyH_done (by kernel_rfl) ?_ _
                    refine NoPanic.normal ?_
                    clear hHeld
                    go_wp2_with fail
                    exact ⟨⟨i + 1, _, l ++ [⟨⟨s0, s1⟩, s2⟩], S3, by go_num, by omega, hl2, hs2, hn2, tk, rd⟩, by simp [intOf]; omega⟩
                  exact AllReadyH.nil
                exact AllReadyH.nil
              exact AllReadyH.nil
            exact AllReadyH.nil
          refine AllReadyH.cons (o := oT_3) rfl (fun K hK => ?_) ?_
          · clear hHeld
            unfold oT_3
            go_simp
            go_at_call 58
            refine (hts.out _ rd.out).mono ?_
            rintro e wt4 ⟨rfl, rd8, g8⟩
            replace rd := Lib.hid rd8
            replace tk := Lib.hid (tk.out.kept g8)
            clear rd8 g8
            dsimp only
            refine hK.out _ _ ?hSoT_9 (fun hHeld => ?_)
            case hSoT_9 => ((try dsimp only); exact (Nat.zero_le _))
            clear hK K
            try simp only [Act.put, List.setIfInBounds_toArray, List.set_cons_zero, List.set_cons_succ]
            refine wpAnyH_ready (rs := [1, 4]) (by kernel_rfl) (by simp) ?_
            refine AllReadyH.cons (o := oT_1) rfl (fun K hK => ?_) ?_
            · clear hHeld
              unfold oT_1
              have z1 := tk.out.k.cell 1
              try dsimp only at z1
              go_simp
              refine hK.out _ _ ?hSoT_10 (fun hHeld => ?_)
              case hSoT_10 => ((try dsimp only); exact (Nat.zero_le _))
              clear hK K
              try simp only [Act.put, List.setIfInBounds_toArray, List.set_cons_zero, List.set_cons_succ]
              clear z1
              refine wpAnyH_ready (rs := [4]) (by kernel_rfl) (by simp) ?_
              refine AllReadyH.cons (o := oT_4) rfl (fun K hK => ?_) ?_
              · clear hHeld
                unfold oT_4
                go_simp
                refine hK.out _ _ ?hSoT_11 (fun hHeld => ?_)
                case hSoT_11 => ((try dsimp only); exact (Nat.zero_le _))
                clear hK K
                try simp only [Act.put, List.setIfInBounds_toArray, List.set_cons_zero, List.set_cons_succ]
                have kb := Lib.hid (Blk.new wt4 #[.int .i64 s0, .int .i64 s1, .bool s2] 70)
                replace tk := Lib.hid (tk.out.alloc (.cells #[.int .i64 s0, .int .i64 s1, .bool s2] 70))
                replace rd := Lib.hid (rd.out.below ((Below.refl _ _).alloc (Nat.le_refl _) (.cells #[.int .i64 s0, .int .i64 s1, .bool s2] 70)))
                generalize wt4.alloc _ = wt5 at *
                generalize wt4.heap.size = iwt5 at *
                refine wpAnyH_ready (rs := [5]) (by kernel_rfl) (by simp) ?_
                refine AllReadyH.cons (o := oT_5) rfl (fun K hK => ?_) ?_
                · clear hHeld
                  unfold oT_5
                  obtain ⟨vn, wt6, hrun, on, kn, gn⟩ := hps.out _ _ tk.out.o tk.out.lo kb.out
                  replace rd := Lib.hid (rd.out.grownR gn tk.out.o tk.out.hb)
                  have tg := Lib.hid (tk.out.grow gn on)
                  clear kn gn on tk kb
                  obtain ⟨pn, cn, hvn, hcn, tn⟩ := tg.out.o.chn
                  subst hvn
                  rw [show (l ++ [(⟨⟨s0, s1⟩, s2⟩ : StN)]).length = l.length + 1 from by simp] at tg hrun
                  clear tn hcn
                  refine step_append_st (by rfl) _ _ 22 22 (by rfl) _ _ (by rfl) (by rfl) hrun ?_
                  clear hrun
                  refine hK.out _ _ ?hSoT_12 (fun hHeld => ?_)
                  case hSoT_12 => ((try dsimp only); exact (Nat.zero_le _))
                  clear hK K
                  try simp only [Act.put, List.setIfInBounds_toArray, List.set_cons_zero, List.set_cons_succ]
                  refine wpAnyH_take (i := 6) (oi := oT_6) (v := ?voT_13) rfl (by kernel_rfl) (by kernel_rfl) (by kernel_rfl) (fun _ _ _ h => h) (Or.inl ⟨by rfl, ?yoT_13⟩) (by assumption) ?roT_13
                  case yoT_13 => (intro w hSw; (try dsimp only at hSw); unfold oT_6; go_simp; try with_reducible rfl)
                  simp only [oT_6, Act.put, List.setIfInBounds_toArray, List.set_cons_zero, List.set_cons_succ]
                  refine wpAnyH_ready (rs := [7]) (by kernel_rfl) (by simp) ?_
                  refine AllReadyH.cons (o := oT_7) rfl (fun K hK => ?_) ?_
                  · clear hHeld
                    unfold oT_7
                    have z1 := tg.out.k.cell 1
                    have f1 := tg.out.k.fz 1
                    try dsimp only at z1
                    go_simp
                    refine hK.out _ _ ?hSoT_14 (fun hHeld => ?_)
                    case hSoT_14 => ((try dsimp only); exact (Nat.zero_le _))
                    clear hK K
                    try simp only [Act.put, List.setIfInBounds_toArray, List.set_cons_zero, List.set_cons_succ]
                    have tk := Lib.hid tg.out.store
                    replace rd := Lib.hid (rd.out.set (q := qc) (o := 1) (v := .slice pn (l.length + 1) cn) hbq.out)
                    clear tg z1 f1
                    refine wpAnyH_done (by kernel_rfl) ?_ _
                    refine NoPanic.normal ?_
                    clear hHeld
                    go_wp2_with fail
                    exact ⟨⟨i + 1, _, l ++ [⟨⟨s0, s1⟩, s2⟩], S3, by go_num, by omega, hl2, hs2, hn2, tk, rd⟩, by simp [intOf]; omega⟩
                  exact AllReadyH.nil
                exact AllReadyH.nil
              exact AllReadyH.nil
            refine AllReadyH.cons (o := oT_4) rfl (fun K hK => ?_) ?_
            · clear hHeld
              unfold oT_4
              go_simp
              refine hK.out _ _ ?hSoT_15 (fun hHeld => ?_)
              case hSoT_15 => ((try dsimp only); exact (Nat.zero_le _))
              clear hK K
              try simp only [Act.put, List.setIfInBounds_toArray, List.set_cons_zero, List.set_cons_succ]
              have kb := Lib.hid (Blk.new wt4 #[.int .i64 s0, .int .i64 s1, .bool s2] 70)
              replace tk := Lib.hid (tk.out.alloc (.cells #[.int .i64 s0, .int .i64 s1, .bool s2] 70))
              replace rd := Lib.hid (rd.out.below ((Below.refl _ _).alloc (Nat.le_refl _) (.cells #[.int .i64 s0, .int .i64 s1, .bool s2] 70)))
              generalize wt4.alloc _ = wt7 at *
              generalize wt4.heap.size = iwt7 at *
              refine wpAnyH_ready (rs := [1]) (by kernel_rfl) (by simp) ?_
              refine AllReadyH.cons (o := oT_1) rfl (fun K hK => ?_) ?_
              · clear hHeld
                unfold oT_1
                have z1 := tk.out.k.cell 1
                try dsimp only at z1
                go_simp
                refine hK.out _ _ ?hSoT_16 (fun hHeld => ?_)
                case hSoT_16 => ((try dsimp only); exact (Nat.zero_le _))
                clear hK K
                try simp only [Act.put, List.setIfInBounds_toArray, List.set_cons_zero, List.set_cons_succ]
                clear z1
                refine wpAnyH_ready (rs := [5]) (by kernel_rfl) (by simp) ?_
                refine AllReadyH.cons (o := oT_5) rfl (fun K hK => ?_) ?_
                · clear hHeld
                  unfold oT_5
                  obtain ⟨vn, wt8, hrun, on, kn, gn⟩ := hps.out _ _ tk.out.o tk.out.lo kb.out
                  replace rd := Lib.hid (rd.out.grownR gn tk.out.o tk.out.hb)
                  have tg := Lib.hid (tk.out.grow gn on)
                  clear kn gn on tk kb
                  obtain ⟨pn, cn, hvn, hcn, tn⟩ := tg.out.o.chn
                  subst hvn
                  rw [show (l ++ [(⟨⟨s0, s1⟩, s2⟩ : StN)]).length = l.length + 1 from by simp] at tg hrun
                  clear tn hcn
                  refine step_append_st (by rfl) _ _ 22 22 (by rfl) _ _ (by rfl) (by rfl) hrun ?_
                  clear hrun
                  refine hK.out _ _ ?hSoT_17 (fun hHeld => ?_)
                  case hSoT_17 => ((try dsimp only); exact (Nat.zero_le _))
                  clear hK K
                  try simp only [Act.put, List.setIfInBounds_toArray, List.set_cons_zero, List.set_cons_succ]
                  refine wpAnyH_take (i := 6) (oi := oT_6) (v := ?voT_18) rfl (by kernel_rfl) (by kernel_rfl) (by kernel_rfl) (fun _ _ _ h => h) (Or.inl ⟨by rfl, ?yoT_18⟩) (by assumption) ?roT_18
                  case yoT_18 => (intro w hSw; (try dsimp only at hSw); unfold oT_6; go_simp; try with_reducible rfl)
                  simp only [oT_6, Act.put, List.setIfInBounds_toArray, List.set_cons_zero, List.set_cons_succ]
                  refine wpAnyH_ready (rs := [7]) (by kernel_rfl) (by simp) ?_
                  refine AllReadyH.cons (o := oT_7) rfl (fun K hK => ?_) ?_
                  · clear hHeld
                    unfold oT_7
                    have z1 := tg.out.k.cell 1
                    have f1 := tg.out.k.fz 1
                    try dsimp only at z1
                    go_simp
                    refine hK.out _ _ ?hSoT_19 (fun hHeld => ?_)
                    case hSoT_19 => ((try dsimp only); exact (Nat.zero_le _))
                    clear hK K
                    try simp only [Act.put, List.setIfInBounds_toArray, List.set_cons_zero, List.set_cons_succ]
                    have tk := Lib.hid tg.out.store
                    replace rd := Lib.hid (rd.out.set (q := qc) (o := 1) (v := .slice pn (l.length + 1) cn) hbq.out)
                    clear tg z1 f1
                    refine wpAnyH_done (by kernel_rfl) ?_ _
                    refine NoPanic.normal ?_
                    clear hHeld
                    go_wp2_with fail
                    exact ⟨⟨i + 1, _, l ++ [⟨⟨s0, s1⟩, s2⟩], S3, by go_num, by omega, hl2, hs2, hn2, tk, rd⟩, by simp [intOf]; omega⟩
                  exact AllReadyH.nil
                exact AllReadyH.nil
              exact AllReadyH.nil
            exact AllReadyH.nil
          exact AllReadyH.nil
        · have hne : (stt.e != 0) = true := by rw [bne_iff_ne]; exact he
          have hans2 : Hid (T = (zeroN, stt)) := by
            have h1 := hs.out
            rw [runS_err he] at h1
            show _ = _
            rw [hans.out, ← h1]
            exact endS_err he
          clear hans hl hs hnk
          replace he := Lib.hid he
          go_wp2_with fail
          refine (err_any b _ _ rd.out).mono ?_
          rintro e w5 ⟨rfl, rfl⟩
          have y0 := tk.out.z.cell 0
          have y1 := tk.out.z.cell 1
          have f0 := tk.out.z.fz 0
          have f1 := tk.out.z.fz 1
          try dsimp only at y0 y1
          go_wp2_with fail
          refine bodyPost_ret (v := .agg #[.int .i64 0, .slice none 0 0]) ?_ rfl ?_
          · rw [results_cell1 rfl]
            go_simp
          · rw [hans2.out]
            exact ⟨⟨none, 0, rfl, Chn.nil _ _, Nat.le_refl _, fun g off h => by cases h⟩, (rd.out.set hbz.out).set hbz.out, (tk.out.g.newR (Nat.le_refl _)).newR (Nat.le_refl _)⟩
      · have hin : i = n := by omega
        have hl3 : l = L := by
          have h1 := hl.out
          rw [hin, Nat.sub_self] at h1
          show l = L
          rw [← h1]
          exact (List.append_nil l).symm
        have hs3 : stt = E := by
          have h1 := hs.out
          rw [hin, Nat.sub_self] at h1
          exact h1
        subst hl3 hs3
        obtain ⟨pv, cv, hvf, hcv, tv⟩ := tk.out.o.chn
        subst hvf
        have hRr := Lib.hid (right_any ⟨ep, l⟩ pv cv wr tv hcv (by have := hl1000.out; dsimp only; omega))
        have hE0 : Hid (rightN ⟨ep, l⟩ = false → T = (zeroN, failS stt 3)) := fun h => by rw [hans.out]; exact endS_bad h
        have hE1 : Hid (rightN ⟨ep, l⟩ = true → stt.e = 0 → T = (⟨ep, l⟩, stt)) := fun h h1 => by rw [hans.out]; exact endS_ok h h1
        have hE2 : Hid (stt.e ≠ 0 → T = (zeroN, stt)) := fun h => by rw [hans.out]; exact endS_err h
        generalize rightN ⟨ep, l⟩ = r at *
        have x0 := tk.out.k.cell 0
        have x1 := tk.out.k.cell 1
        try dsimp only at x0 x1
        clear hl hs hans tv
        replace hcv := Lib.hid hcv
        go_wp2_with fail
        refine hRr.out.mono ?_
        rintro e w6 ⟨rfl, b6⟩
        replace tk := Lib.hid (tk.out.below b6)
        replace rd := Lib.hid (rd.out.below b6)
        clear x0 x1 b6 hRr
        cases r with
        | false =>
          have hans := Lib.hid (hE0.out (by first | rfl | trivial))
          go_wp2_with fail
          refine (fail_any b stt 3 _ rd.out).mono ?_
          rintro e w7 ⟨rfl, t7, k7⟩
          replace tk := Lib.hid (tk.out.kept k7)
          have hne : ((failS stt 3).e != 0) = true := by rw [bne_iff_ne]; exact fail_ne _ (by decide)
          generalize failS stt 3 = SF at *
          replace rd := Lib.hid t7
          clear t7 k7
          go_wp2_with fail
          refine (err_any b _ _ rd.out).mono ?_
          rintro e w8 ⟨rfl, rfl⟩
          have y0 := tk.out.z.cell 0
          have y1 := tk.out.z.cell 1
          have f0 := tk.out.z.fz 0
          have f1 := tk.out.z.fz 1
          try dsimp only at y0 y1
          go_wp2_with fail
          refine bodyPost_ret (v := .agg #[.int .i64 0, .slice none 0 0]) ?_ rfl ?_
          · rw [results_cell1 rfl]
            go_simp
          · rw [hans.out]
            exact ⟨⟨none, 0, rfl, Chn.nil _ _, Nat.le_refl _, fun g off h => by cases h⟩, (rd.out.set hbz.out).set hbz.out, (tk.out.g.newR (Nat.le_refl _)).newR (Nat.le_refl _)⟩
        | true =>
          by_cases he : stt.e = 0
          · have hne : (stt.e != 0) = false := by rw [bne_eq_false_iff_eq]; exact he
            have hans := Lib.hid (hE1.out (by first | rfl | trivial) he)
            replace he := Lib.hid he
            have x0 := tk.out.k.cell 0
            have x1 := tk.out.k.cell 1
            have y0 := tk.out.z.cell 0
            have y1 := tk.out.z.cell 1
            have f0 := tk.out.z.fz 0
            have f1 := tk.out.z.fz 1
            try dsimp only at x0 x1 y0 y1
            go_wp2_with fail
            refine (err_any b _ _ rd.out).mono ?_
            rintro e w8 ⟨rfl, rfl⟩
            go_wp2_with fail
            refine bodyPost_ret (v := .agg #[.int .i64 ep, .slice pv l.length cv]) ?_ rfl ?_
            · rw [results_cell1 rfl]
              go_simp
            · rw [hans.out]
              exact ⟨⟨pv, cv, rfl, ((tk.out.o.setz tk.out.z (by decide)).setz tk.out.z.set (by decide)).chn2.1, hcv.out, fun g off h => (World.ownsRow.lt tk.out.o g (by rw [h]; rfl)).1⟩, (rd.out.set hbz.out).set hbz.out, (tk.out.g.newR (Nat.le_refl _)).newR (Nat.le_refl _)⟩
          · have hne : (stt.e != 0) = true := by rw [bne_iff_ne]; exact he
            have hans := Lib.hid (hE2.out he)
            replace he := Lib.hid he
            go_wp2_with fail
            refine (err_any b _ _ rd.out).mono ?_
            rintro e w8 ⟨rfl, rfl⟩
            have y0 := tk.out.z.cell 0
            have y1 := tk.out.z.cell 1
            have f0 := tk.out.z.fz 0
            have f1 := tk.out.z.fz 1
            try dsimp only at y0 y1
            go_wp2_with fail
            refine bodyPost_ret (v := .agg #[.int .i64 0, .slice none 0 0]) ?_ rfl ?_
            · rw [results_cell1 rfl]
              go_simp
            · rw [hans.out]
              exact ⟨⟨none, 0, rfl, Chn.nil _ _, Nat.le_refl _, fun g off h => by cases h⟩, (rd.out.set hbz.out).set hbz.out, (tk.out.g.newR (Nat.le_refl _)).newR (Nat.le_refl _)⟩
end Go.Proofs.Ytnagidgffkffhaa.G
