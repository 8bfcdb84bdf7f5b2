/-
  Layer 11: the document's count and Take. Condition: at most 100000 bytes.
-/
import Derived.Test.YtnagidgffkffhaaGTake
import Derived.Test.YtnagidgffkffhaaRefReads
import Derived.Test.YtnagidgffkffhaaGRRight2
set_option linter.unusedVariables false
set_option linter.unusedSimpArgs false
namespace Go.Proofs.Ytnagidgffkffhaa
open G Go.RowKit Cod
theorem RfS.same {w w' : World} {b : Nat} {S : ByteArray} {st : St} (t : RfS w b S st) (hs : w.heap.size ≤ w'.heap.size) (h : w'.heap[b]? = w.heap[b]?) : RfS w' b S st :=
  ⟨t.rf.imp fun _ x => ⟨x.1.same hs h, x.2⟩, t.sz⟩
theorem RfS.lt {w : World} {b : Nat} {S : ByteArray} {st : St} (t : RfS w b S st) : b < w.heap.size := by obtain ⟨a, h, _⟩ := t.rf; exact h.lt
theorem RfS.cell {w : World} {b : Nat} {S : ByteArray} {st : St} (t : RfS w b S st) : w.cell? ⟨b, 2, none⟩ = some (.int .i64 st.e) := by obtain ⟨a, h, _⟩ := t.rf; exact h.c2
theorem RfS.fz {w : World} {b : Nat} {S : ByteArray} {st : St} (t : RfS w b S st) (o : Nat) : w.frozen? ⟨b, o, none⟩ = false := by obtain ⟨a, h, _⟩ := t.rf; exact h.fz o
theorem RfS.below {w w' : World} {b : Nat} {S : ByteArray} {st : St} (t : RfS w b S st) (k : Below w.heap.size w w') : RfS w' b S st := t.same k.size (k.block b t.lt)
theorem RfS.set {w : World} {b q o : Nat} {S : ByteArray} {st : St} {v : Value} (t : RfS w b S st) (h : b ≠ q) : RfS (w.setCell ⟨q, o, none⟩ v) b S st := t.same (by simp [World.setCell]) (heap_setCell_other w ⟨q, o, none⟩ b v h)
theorem RfS.grownR {W W' : World} {b base : Nat} {S : ByteArray} {st : St} {v : Value} {l : List Cfg.StN} (t : RfS W b S st) (gr : W.grownBy W' v.ownBlock) (o : SOwn base v l W) (hb : b < base) : RfS W' b S st :=
  t.same gr.size (gr.block b t.lt (fun e => by have := (World.ownsRow.lt o b e.symm).1; omega))
theorem RfS.fail3 {w : World} {b : Nat} {S : ByteArray} {st : St} (t : RfS w b S st) (h : st.e = 0) : RfS (w.setCell ⟨b, 2, none⟩ (.int .i64 3)) b S (failS st 3) := by
  obtain ⟨⟨a, rf, ha, hr⟩, hs⟩ := t
  have e : (failS st 3).e = 3 := by unfold failS; simp only [h, if_true]
  exact ⟨⟨a, by rw [e]; exact rf.setErr 3, ha, fun h1 => by rw [e] at h1; cases h1⟩, hs⟩
end Go.Proofs.Ytnagidgffkffhaa
namespace Go.Proofs.Ytnagidgffkffhaa.G
open Go.RowKit Cod Cfg
set_option maxRecDepth 100000
set_option maxHeartbeats 4000000 in
theorem countR_any (b : Nat) (S : ByteArray) (st : St) (w : World) (t : RfS w b S st) :
    Calls Try.prog 59 #[.pointer (some ⟨b, 0, none⟩)] w fun e w' => e = .returned (.int .i64 (countS st).1) ∧ RfS w' b S (countS st).2 ∧ Kept b w w' := by
  obtain ⟨n, S1, hA, hn⟩ : ∃ (n : Nat) (S1 : St), uintS st = ((n : Int), S1) ∧ n < 18446744073709551616 := by
    obtain ⟨n, h1, h2⟩ := uintS_nat st
    exact ⟨n, (uintS st).2, Prod.ext h1 rfl, h2⟩
  have hu := refUint_all b S st w t
  rw [hA] at hu
  have hans : countS st = if (1099511627776 : Int) < n then (0, failS S1 3) else ((n : Int), S1) := by unfold countS; rw [hA]
  generalize countS st = T at *
  replace hu := Lib.hid hu
  clear t hA
  by_cases h : (1099511627776 : Int) < n
  · rw [if_pos h] at hans
    replace hans := Lib.hid hans
    go_enter Try.func59, Try.ntmps59
    go_wp2_with fail
    refine hu.out.mono ?_
    rintro e w1 ⟨rfl, t1, k1⟩
    try dsimp only at t1
    have ce := t1.cell
    have cf := t1.fz 2
    by_cases he : S1.e = 0
    · have hq : (S1.e == 0) = true := by rw [beq_iff_eq]; exact he
      replace t1 := Lib.hid (t1.fail3 he)
      replace k1 := Lib.hid (k1.setCell 2 (.int .i64 3))
      replace he := Lib.hid he
      go_wp2_with fail
      go_ret
      rw [hans.out]
      exact ⟨rfl, t1.out, k1.out⟩
    · have hq : (S1.e == 0) = false := by rw [beq_eq_false_iff_ne]; exact he
      have hf := Lib.hid (fail_stay he 3)
      replace t1 := Lib.hid t1
      replace k1 := Lib.hid k1
      replace he := Lib.hid he
      go_wp2_with fail
      go_ret
      rw [hans.out, hf.out]
      exact ⟨rfl, t1.out, k1.out⟩
  · rw [if_neg h] at hans
    replace hans := Lib.hid hans
    have hw : IntKind.i64.wrap (n : Int) = n := IntWalk.i64_in _ (by omega)
    go_enter Try.func59, Try.ntmps59
    go_wp2_with fail
    refine hu.out.mono ?_
    rintro e w1 ⟨rfl, t1, k1⟩
    try dsimp only at t1
    replace t1 := Lib.hid t1
    replace k1 := Lib.hid k1
    go_wp2_with fail
    go_ret
    rw [hans.out]
    exact ⟨rfl, t1.out, k1.out⟩
theorem SOwn.setx {base q i : Nat} {v u : Value} {l : List StN} {W : World} (o : SOwn base v l W) (h : ∀ k, v.ownBlock = some k → k < q) : SOwn base v l (W.setCell ⟨q, i, none⟩ u) :=
  World.ownsRow.kept (row := some q) o ⟨rfl, rfl, rfl, by simp, fun x _ hx => heap_setCell_other W ⟨q, i, none⟩ x u (fun e => hx (by simp [e]))⟩ (Or.inr (fun e => by have := h q e; omega))
theorem Tk.setx {w W : World} {b q q' i : Nat} {ep : Int} {u v y : Value} {l : List StN} (h : Tk w b q ep u v l W) (hq : q < q') (hx : ∀ k, v.ownBlock = some k → k < q') : Tk w b q ep u v l (W.setCell ⟨q', i, none⟩ y) :=
  ⟨h.z.setf (by have := h.hq; omega), h.k.setf (by omega), h.o.setx hx, h.g.newR (by have := h.hq; omega), h.hb, h.hq⟩
/-- What the document's Take answers. -/
def ansR (x : Option (CfN × St)) : CfN := match x with | none => zeroN | some y => y.1
def AnsTR (x : Option (CfN × St)) (b : Nat) (S : ByteArray) (w : World) (e : Ending) (w' : World) : Prop := (∃ p cap, e = .returned (.tuple #[.agg #[.int .i64 (ansR x).epoch, .slice p (ansR x).l.length cap], .bool x.isSome]) ∧ Chn w' p (ansR x).l ∧ (ansR x).l.length ≤ cap) ∧ (∀ c s, x = some (c, s) → RfS w' b S s) ∧ Kept b w w'
theorem AnsTR.zero {b : Nat} {S : ByteArray} {w w' : World} (k : Kept b w w') : AnsTR none b S w (.returned (.tuple #[.agg #[.int .i64 0, .slice none 0 0], .bool false])) w' := ⟨⟨none, 0, rfl, Chn.nil _ _, Nat.le_refl _⟩, (fun c s h => by cases h), k⟩
theorem runR_next {k : Nat} {st : St} {a c i : Int} {T1 T2 T3 : St} (h0 : countS st = (a, T1)) (h1 : countS T1 = (c, T2)) (h2 : byteS T2 = (i, T3)) :
    runR (k + 1) st = if 1 < i then none else (runR k T3).map fun x => (⟨⟨a, c⟩, decide (i = 1)⟩ :: x.1, x.2) := by
  show (if 1 < (byteS (countS (countS st).2).2).1 then none else (runR k (byteS (countS (countS st).2).2).2).map fun x => (⟨⟨(countS st).1, (countS (countS st).2).1⟩, decide ((byteS (countS (countS st).2).2).1 = 1)⟩ :: x.1, x.2)) = _
  rw [h0]
  dsimp only
  rw [h1]
  dsimp only
  rw [h2]
set_option maxHeartbeats 8000000 in
theorem refTake_any (b : Nat) (S : ByteArray) (st : St) (w : World) (t : RfS w b S st) :
    Calls Try.prog 37 #[.pointer (some ⟨b, 0, none⟩)] w fun e w' => AnsTR (takeR st) b S w e w' := by
  obtain ⟨A, S1, hA⟩ : ∃ A S1, countS st = (A, S1) := ⟨_, _, rfl⟩
  obtain ⟨n, S2, hB, hn⟩ : ∃ (n : Nat) (S2 : St), countS S1 = ((n : Int), S2) ∧ n ≤ 1099511627776 := by
    have h := count_ge S1
    exact ⟨(countS S1).1.toNat, (countS S1).2, Prod.ext (Int.toNat_of_nonneg h.1).symm rfl, by omega⟩
  have hP8 : (8 : Int) < n → takeR st = none := fun h => by
    unfold takeR; rw [hA]; dsimp only; rw [hB]; dsimp only; rw [if_pos h]
  have hPn : ¬ (8 : Int) < n → takeR st = (runR n S2).bind (goodR A) := fun h => by
    unfold takeR; rw [hA]; dsimp only; rw [hB]; dsimp only; rw [if_neg h, Int.toNat_natCast]
  obtain ⟨R, hR⟩ : ∃ R, runR n S2 = R := ⟨_, rfl⟩
  rw [hR] at hPn
  generalize takeR st = T at *
  have cA := fun W tW => countR_any b S st W tW
  rw [hA] at cA
  have cB := fun W tW => countR_any b S S1 W tW
  rw [hB] at cB
  have hbl := Lib.hid t.lt
  obtain ⟨i0, hi0, hz0, hzs, hzb⟩ := info_parts infoSt
  replace cA := Lib.hid cA
  replace cB := Lib.hid cB
  replace hP8 := Lib.hid hP8
  replace hPn := Lib.hid hPn
  replace hR := Lib.hid hR
  have z := Lib.hid (Blk.new w #[.int .i64 0, .slice none 0 0] 24)
  have ba := (Below.refl w.heap.size w).alloc (Nat.le_refl _) (.cells #[.int .i64 0, .slice none 0 0] 24)
  have hsz : Hid (w.heap.size < (w.alloc (.cells #[.int .i64 0, .slice none 0 0] 24)).heap.size) := by show _ < _; simp
  replace t := Lib.hid (t.below ba)
  have g := Lib.hid (Kept.ofBelow (b := b) ba)
  have hbz : Hid (b ≠ w.heap.size) := by have := hbl.out; show _ ≠ _; omega
  clear hA hB ba
  go_enter Try.func37, Try.ntmps37
  go_wp2_with fail
  generalize w.alloc _ = w0 at *
  refine (cA.out _ t.out).mono ?_
  rintro e w1 ⟨rfl, t1, k1⟩
  try dsimp only at t1
  have tk := Lib.hid (Tk.new A (z.out.kept k1 (fun e => hbz.out e.symm)) (g.out.trans k1) hbl.out (Nat.lt_of_lt_of_le hsz.out k1.size))
  have rd := Lib.hid (t1.below ((Below.refl _ _).alloc (Nat.le_refl _) (.cells #[.int .i64 A, .slice none 0 0] 24)))
  clear t z g t1 k1 hsz cA
  go_upto_region 2 with fail
  generalize w1.alloc _ = w2 at *
  generalize w1.heap.size = qc at *
  have hbq : Hid (b ≠ qc) := by have := tk.out.hb; have := tk.out.hq; show _ ≠ _; omega
  go_wp2_with fail
  refine (cB.out _ rd.out).mono ?_
  rintro e w3 ⟨rfl, t3, k3⟩
  try dsimp only at t3
  replace tk := Lib.hid (tk.out.kept k3)
  replace rd := Lib.hid t3
  clear t3 k3 cB
  by_cases h8 : (8 : Int) < n
  · have hans := Lib.hid (hP8.out h8)
    clear hP8 hPn hR
    have y0 := tk.out.z.cell 0
    have y1 := tk.out.z.cell 1
    have f0 := tk.out.z.fz 0
    have f1 := tk.out.z.fz 1
    try dsimp only at y0 y1
    go_wp2_with fail
    refine bodyPost_ret (v := .tuple #[.agg #[.int .i64 0, .slice none 0 0], .bool false]) ?_ rfl ?_
    · rw [results_cell_tmp rfl]
      go_simp
    · rw [hans.out]
      exact AnsTR.zero ((tk.out.g.newR (Nat.le_refl _)).newR (Nat.le_refl _))
  · have hans := Lib.hid (hPn.out (by first | exact h8 | omega))
    have hn8 : (n : Int) ≤ 8 := by omega
    have hn8' : n ≤ 8 := by omega
    clear hP8 hPn
    replace h8' := Lib.hid h8
    go_wp2_with fail
    clear h8
    go_loopw [6] (fun vi wr => ∃ (i : Nat) (v : Value) (l : List StN) (stt : St), vi = .int .i64 i ∧ (i : Int) ≤ n ∧ Hid ((runR (n - i) stt).map (fun x => (l ++ x.1, x.2)) = R) ∧ Hid (l.length = i) ∧ Hid (Tk w b qc A v v l wr) ∧ Hid (RfS wr b S stt)) (fun vi _ => ((n : Int) - intOf vi).toNat)
    case atStart =>
      refine ⟨0, _, [], S2, rfl, by omega, ?_, rfl, tk, rd⟩
      show _ = _
      rw [Nat.sub_zero, hR.out]
      cases R <;> rfl
    case round =>
      obtain ⟨i, v, l, stt, rfl, hi, hs, hli, tk5, rd5⟩ := hrel
      clear tk rd hR
      have tk := tk5
      have rd := rd5
      clear tk5 rd5
      have hl1000 : Hid (l.length ≤ 1000) := by have := hli.out; show _ ≤ _; omega
      by_cases hlt : (i : Int) < n
      · have hnk : n - i = (n - (i + 1)) + 1 := by omega
        rw [hnk] at hs
        obtain ⟨a, T1, h0⟩ : ∃ x y, countS stt = (x, y) := ⟨_, _, rfl⟩
        obtain ⟨c, T2, h1⟩ : ∃ x y, countS T1 = (x, y) := ⟨_, _, rfl⟩
        obtain ⟨C, T3, h2⟩ : ∃ x y, byteS T2 = (x, y) := ⟨_, _, rfl⟩
        have hr := runR_next (k := n - (i + 1)) h0 h1 h2
        rw [hr] at hs
        have c0 := fun W tW => countR_any b S stt W tW
        rw [h0] at c0
        have c1 := fun W tW => countR_any b S T1 W tW
        rw [h1] at c1
        have c2 := fun W tW => refByte_all b S T2 W tW
        rw [h2] at c2
        replace c0 := Lib.hid c0
        replace c1 := Lib.hid c1
        replace c2 := Lib.hid c2
        have hcC : (C == 1) = decide (C = 1) := rfl
        clear h0 h1 h2 hr hnk
        have hx : Hid (∀ k, v.ownBlock = some k → k < wr.heap.size) := fun k hk => (World.ownsRow.lt tk.out.o k hk).2
        have hqx : Hid (qc < wr.heap.size) := tk.out.k.lt
        have hbx : Hid (b ≠ wr.heap.size) := by have := rd.out.lt; show _ ≠ _; omega
        have kx := Lib.hid (Blk.new wr #[.int .i64 0, .int .i64 0, .bool false] 70)
        replace tk := Lib.hid (tk.out.alloc (.cells #[.int .i64 0, .int .i64 0, .bool false] 70))
        replace rd := Lib.hid (rd.out.below ((Below.refl _ _).alloc (Nat.le_refl _) (.cells #[.int .i64 0, .int .i64 0, .bool false] 70)))
        go_upto_region 9 with fail
        generalize wr.alloc _ = w5 at *
        generalize wr.heap.size = xq at *
        have hxb : Hid (xq ≠ b) := fun e => hbx.out e.symm
        go_wp2_with fail
        refine (c0.out _ rd.out).mono ?_
        rintro e w6 ⟨rfl, t6, k6⟩
        try dsimp only at t6
        replace tk := Lib.hid (tk.out.kept k6)
        replace kx := Lib.hid (kx.out.kept k6 hxb.out)
        replace rd := Lib.hid t6
        clear t6 k6 c0
        have u0 := kx.out.cell 0
        have fu0 := kx.out.fz 0
        try dsimp only at u0
        have tk' := Lib.hid (tk.out.setx (i := 0) (y := .int .i64 a) hqx.out hx.out)
        have rd' := Lib.hid (rd.out.set (q := xq) (o := 0) (v := .int .i64 a) hbx.out)
        have kx' := Lib.hid (kx.out.set (i := 0) (u := .int .i64 a))
        clear tk rd kx
        go_upto_region 10 with fail
        clear u0 fu0
        generalize w6.setCell _ _ = w7 at *
        have tk := tk'
        have rd := rd'
        have kx : Hid (Blk w7 xq #[.int .i64 a, .int .i64 0, .bool false] 70) := kx'
        clear tk' rd' kx'
        go_wp2_with fail
        refine (c1.out _ rd.out).mono ?_
        rintro e w8 ⟨rfl, t6, k6⟩
        try dsimp only at t6
        replace tk := Lib.hid (tk.out.kept k6)
        replace kx := Lib.hid (kx.out.kept k6 hxb.out)
        replace rd := Lib.hid t6
        clear t6 k6 c1
        have u1 := kx.out.cell 1
        have fu1 := kx.out.fz 1
        try dsimp only at u1
        have tk' := Lib.hid (tk.out.setx (i := 1) (y := .int .i64 c) hqx.out hx.out)
        have rd' := Lib.hid (rd.out.set (q := xq) (o := 1) (v := .int .i64 c) hbx.out)
        have kx' := Lib.hid (kx.out.set (i := 1) (u := .int .i64 c))
        clear tk rd kx
        go_upto_region 11 with fail
        clear u1 fu1
        generalize w8.setCell _ _ = w9 at *
        have tk := tk'
        have rd := rd'
        have kx : Hid (Blk w9 xq #[.int .i64 a, .int .i64 c, .bool false] 70) := kx'
        clear tk' rd' kx'
        go_wp2_with fail
        refine (c2.out _ rd.out).mono ?_
        rintro e wa ⟨rfl, t6, k6⟩
        try dsimp only at t6
        replace tk := Lib.hid (tk.out.kept k6)
        replace kx := Lib.hid (kx.out.kept k6 hxb.out)
        replace rd := Lib.hid t6
        clear t6 k6 c2
        by_cases hC1 : 1 < C
        · have hans2 : Hid (T = none) := by
            have h1 := hs.out
            rw [if_pos hC1] at h1
            show _ = _
            rw [hans.out, ← h1]
            rfl
          clear hans hs
          have y0 := tk.out.z.cell 0
          have y1 := tk.out.z.cell 1
          have f0 := tk.out.z.fz 0
          have f1 := tk.out.z.fz 1
          try dsimp only at y0 y1
          go_wp2_with fail
          refine bodyPost_ret (v := .tuple #[.agg #[.int .i64 0, .slice none 0 0], .bool false]) ?_ rfl ?_
          · rw [results_cell_tmp rfl]
            go_simp
          · rw [hans2.out]
            exact AnsTR.zero ((tk.out.g.newR (Nat.le_refl _)).newR (Nat.le_refl _))
        · have hs2 : Hid ((runR (n - (i + 1)) T3).map (fun x => ((l ++ [⟨⟨a, c⟩, decide (C = 1)⟩]) ++ x.1, x.2)) = R) := by
            have h1 := hs.out
            rw [if_neg hC1, Option.map_map] at h1
            show _ = _
            rw [← h1]
            congr 1
            funext x
            show (_, _) = (_, _)
            rw [List.append_assoc]
            rfl
          clear hs
          generalize decide (C = 1) = f at *
          have u2 := kx.out.cell 2
          have fu2 := kx.out.fz 2
          try dsimp only at u2
          have tk' := Lib.hid (tk.out.setx (i := 2) (y := .bool f) hqx.out hx.out)
          have rd' := Lib.hid (rd.out.set (q := xq) (o := 2) (v := .bool f) hbx.out)
          have kx' := Lib.hid (kx.out.set (i := 2) (u := .bool f))
          clear tk rd kx
          go_upto_region 15 with fail
          clear u2 fu2
          generalize wa.setCell _ _ = wb at *
          have tk := tk'
          have rd := rd'
          have kx : Hid (Blk wb xq #[.int .i64 a, .int .i64 c, .bool f] 70) := kx'
          clear tk' rd' kx'
          clear hcC
          have u0 := kx.out.cell 0
          have u1 := kx.out.cell 1
          have u2 := kx.out.cell 2
          have y1 := tk.out.k.cell 1
          try dsimp only at u0 u1 u2 y1
          have bx := (Below.refl wb.heap.size wb).alloc (Nat.le_refl _) (.cells #[.int .i64 a, .int .i64 c, .bool f] 70)
          have tk2 := Lib.hid (tk.out.below bx)
          have rd2 := Lib.hid (rd.out.below bx)
          have kb := Lib.hid (Blk.new wb #[.int .i64 a, .int .i64 c, .bool f] 70)
          have hs4 : Hid (w.heap.size ≤ (wb.alloc (.cells #[.int .i64 a, .int .i64 c, .bool f] 70)).heap.size) := tk2.out.lo
          have hnew : Hid (∀ (i : Nat) (u : Value), (stC ⟨⟨a, c⟩, f⟩).toList[i]? = some u → (wb.alloc (.cells #[.int .i64 a, .int .i64 c, .bool f] 70)).cell? ((⟨wb.heap.size, 0, none⟩ : Addr).add i) = some u) := fun i u hu => by
            rw [Addr.add_lit, Nat.zero_add]
            rw [Array.getElem?_toList] at hu
            exact (kb.out.cell i).trans hu
          have hn2 : Hid ((l ++ [(⟨⟨a, c⟩, f⟩ : StN)]).length = i + 1) := by show _ = _; rw [List.length_append, hli.out]; rfl
          have hle8 : l.length ≤ 8 := by have := hli.out; omega
          clear bx
          go_wp2_with (at_builtin; refine wpList_append_own_at _ rfl _ _ 22 rfl w.heap.size 70 i0 _ 3 24 Try.underlying22 hi0 hz0 hzs hzb rfl (by decide) _ _ _ rfl tk2.out.o ⟨wb.heap.size, 0, none⟩ 1 1 (stC ⟨⟨a, c⟩, f⟩).toList rfl (by simp) hnew.out (fun u hu => flatC_one [⟨⟨a, c⟩, f⟩] u (by simpa [flatC] using hu)) (by unfold maxLen; omega) (by omega) hs4.out ?_)
          intro v' wc g8 gr8 _ _
          have o8 : SOwn w.heap.size v' (l ++ [⟨⟨a, c⟩, f⟩]) wc := by
            show World.ownsRow _ _ _ _ _ _ _
            rw [List.length_append, ← flatC_snoc]
            exact g8
          obtain ⟨pv', cv', hv', -, -⟩ := o8.chn
          rw [List.length_append] at hv'
          subst hv'
          have tk3 := Lib.hid (tk2.out.grow gr8 o8)
          have rd3 := Lib.hid (rd2.out.grownR gr8 tk2.out.o tk2.out.hb)
          have f8 := tk3.out.k.fz 1
          have z8 := tk3.out.k.cell 1
          try dsimp only at z8
          have tk4 := Lib.hid tk3.out.store
          have rd4 := Lib.hid (rd3.out.set (q := qc) (o := 1) (v := .slice pv' (l.length + [(⟨⟨a, c⟩, f⟩ : StN)].length) cv') hbq.out)
          clear g8 gr8 hnew kb kx u0 u1 u2 y1 tk rd o8 tk2 rd2 tk3 rd3
          go_wp2_with fail
          exact ⟨⟨i + 1, _, l ++ [⟨⟨a, c⟩, f⟩], T3, by go_num, by omega, hs2, hn2, tk4, rd4⟩, by simp [intOf]; omega⟩
      · have hin : i = n := by omega
        have hT : T = goodR A (l, stt) := by
          have h1 := hs.out
          rw [hin, Nat.sub_self] at h1
          rw [hans.out, ← h1]
          show goodR A (l ++ [], stt) = _
          rw [List.append_nil]
        have hE1 : Hid (stt.e ≠ 0 → T = none) := fun h => by rw [hT]; unfold goodR; rw [if_neg (fun x => h x.1)]
        have hE2 : Hid (rightN ⟨A, l⟩ = false → T = none) := fun h => by rw [hT]; unfold goodR; rw [if_neg (fun x => by rw [h] at x; cases x.2)]
        have hE3 : Hid (rightN ⟨A, l⟩ = true → stt.e = 0 → T = some (⟨A, l⟩, stt)) := fun h h1 => by rw [hT]; unfold goodR; rw [if_pos ⟨h1, h⟩]
        obtain ⟨pv, cv, hvf, hcv, tv⟩ := tk.out.o.chn
        subst hvf
        have hRr := Lib.hid (refRight_any ⟨A, l⟩ pv cv wr tv hcv (by have := hl1000.out; dsimp only; omega))
        generalize rightN ⟨A, l⟩ = r at *
        have ce := rd.out.cell
        have x0 := tk.out.k.cell 0
        have x1 := tk.out.k.cell 1
        try dsimp only at x0 x1
        clear hs hans tv hT hin
        replace hcv := Lib.hid hcv
        by_cases he : stt.e = 0
        · have hne : (stt.e != 0) = false := by rw [bne_eq_false_iff_eq]; exact he
          replace he := Lib.hid he
          go_wp2_with fail
          refine hRr.out.mono ?_
          rintro e w6 ⟨rfl, b6⟩
          replace tk := Lib.hid (tk.out.below b6)
          replace rd := Lib.hid (rd.out.below b6)
          clear x0 x1 b6 hRr ce
          cases r with
          | false =>
            have hans := Lib.hid (hE2.out (by first | rfl | trivial))
            have y0 := tk.out.z.cell 0
            have y1 := tk.out.z.cell 1
            have f0 := tk.out.z.fz 0
            have f1 := tk.out.z.fz 1
            try dsimp only at y0 y1
            go_wp2_with fail
            refine bodyPost_ret (v := .tuple #[.agg #[.int .i64 0, .slice none 0 0], .bool false]) ?_ rfl ?_
            · rw [results_cell_tmp rfl]
              go_simp
            · rw [hans.out]
              exact AnsTR.zero ((tk.out.g.newR (Nat.le_refl _)).newR (Nat.le_refl _))
          | true =>
            have hans := Lib.hid (hE3.out (by first | rfl | trivial) he.out)
            have x0 := tk.out.k.cell 0
            have x1 := tk.out.k.cell 1
            have y0 := tk.out.z.cell 0
            have y1 := tk.out.z.cell 1
            have f0 := tk.out.z.fz 0
            have f1 := tk.out.z.fz 1
            try dsimp only at x0 x1 y0 y1
            go_wp2_with fail
            refine bodyPost_ret (v := .tuple #[.agg #[.int .i64 A, .slice pv l.length cv], .bool true]) ?_ rfl ?_
            · rw [results_cell_tmp rfl]
              go_simp
            · rw [hans.out]
              exact ⟨⟨pv, cv, rfl, ((tk.out.o.setz tk.out.z (by decide)).setz tk.out.z.set (by decide)).chn2.1, hcv.out⟩, (fun c s h => by injection h with h; injection h with h1 h2; subst h1 h2; exact (rd.out.set hbz.out).set hbz.out), (tk.out.g.newR (Nat.le_refl _)).newR (Nat.le_refl _)⟩
        · have hne : (stt.e != 0) = true := by rw [bne_iff_ne]; exact he
          have hans := Lib.hid (hE1.out he)
          replace he := Lib.hid he
          have y0 := tk.out.z.cell 0
          have y1 := tk.out.z.cell 1
          have f0 := tk.out.z.fz 0
          have f1 := tk.out.z.fz 1
          try dsimp only at y0 y1
          go_wp2_with fail
          refine bodyPost_ret (v := .tuple #[.agg #[.int .i64 0, .slice none 0 0], .bool false]) ?_ rfl ?_
          · rw [results_cell_tmp rfl]
            go_simp
          · rw [hans.out]
            exact AnsTR.zero ((tk.out.g.newR (Nat.le_refl _)).newR (Nat.le_refl _))
end Go.Proofs.Ytnagidgffkffhaa.G
