/-
  Any chain has the bytes that the document says, or none; any bytes are the chain that it says, or none. Condition: none.
-/
import Derived.Test.YtnagidgffkffhaaGAwake
import Derived.Test.YtnagidgffkffhaaGOpen2
import Derived.Test.YtnagidgffkffhaaGRead
import Derived.Test.YtnagidgffkffhaaGRPrint
import Derived.Test.YtnagidgffkffhaaRows
namespace Go.Proofs.Ytnagidgffkffhaa.G.configBytes
open Go.ChangeShapes Go.WideShapes Go.ChangeAt Go.RowKit Cod Cfg
open Go.ChangeMaps (open_string shut_string)
set_option linter.unusedVariables false

theorem own : ownKnob Try.prog.godebug = none := by kernel_rfl

set_option linter.unusedSimpArgs false
set_option maxRecDepth 100000
/-- A chain in its block. -/
structure Bq (w : World) (e0 : Int) (p : Option Addr) (n cap : Nat) (W : World) : Prop where
  k : Blk W w.heap.size #[.int .i64 e0, .slice p n cap] 24
  b : Below w.heap.size w W
section
variable {w W W' : World} {e0 : Int} {p : Option Addr} {n cap : Nat}
theorem Bq.new (w : World) (e0 : Int) (p : Option Addr) (n cap : Nat) : Bq w e0 p n cap (w.alloc (.cells #[.int .i64 e0, .slice p n cap] 24)) := ⟨Blk.new w _ _, (Below.refl _ _).alloc (Nat.le_refl _) _⟩
theorem Bq.below (h : Bq w e0 p n cap W) (k : Below W.heap.size W W') : Bq w e0 p n cap W' := ⟨h.k.below k, h.b.trans (k.mono h.b.size)⟩
theorem Bq.alloc (h : Bq w e0 p n cap W) (o : Obj) : Bq w e0 p n cap (W.alloc o) := h.below ((Below.refl _ _).alloc (Nat.le_refl _) _)
theorem Bq.kept {b : Nat} (h : Bq w e0 p n cap W) (g : Kept b W W') (hb : w.heap.size < b) : Bq w e0 p n cap W' := ⟨h.k.kept g (by omega), h.b.trans (g.below (Nat.le_of_lt hb) h.b.size)⟩
theorem Bq.setf {q i : Nat} {v : Value} (h : Bq w e0 p n cap W) (hq : w.heap.size < q) : Bq w e0 p n cap (W.setCell ⟨q, i, none⟩ v) := ⟨h.k.setf (by omega), bset h.b (Nat.le_of_lt hq)⟩
end
theorem RfS.keptR {W W' : World} {b b' : Nat} {S : ByteArray} {st : St} (t : RfS W b S st) (g : Kept b' W W') (hb : b ≠ b') : RfS W' b S st := t.same g.size (g.block b t.lt hb)
theorem Chn.keptR {W W' : World} {b : Nat} {p : Option Addr} {l : List StN} (h : Chn W p l) (g : Kept b W W') (hb : ∀ k off, p = some ⟨k, off, none⟩ → k ≠ b) : Chn W' p l := fun i hi => by
  obtain ⟨k, off, e, c0, c1, c2⟩ := h i hi
  have hk := g.block k (World.block_lt_of_cell? W _ c0) (hb k off e)
  exact ⟨k, off, e, (World.cell?_of_block hk).trans c0, (World.cell?_of_block hk).trans c1, (World.cell?_of_block hk).trans c2⟩
theorem take_both (st : St) : ansR (takeR st) = (takeP st).1 ∧ (takeR st).isSome = ((takeP st).2.e == 0) := by
  rcases take_rel st with ⟨h1, h2, h3⟩ | ⟨c, s, h1, h2, h3, h4⟩
  · rw [h1]
    exact ⟨h2.symm, (beq_eq_false_iff_ne.2 h3).symm⟩
  · rw [h1, h2]
    exact ⟨rfl, (beq_iff_eq.2 h3).symm⟩
theorem chainB_size {c : CfN} (h : RightP c) : (chainB c).size ≤ 1000 := by
  have e1 := h.e1
  have e2 := h.e2
  have n2 := h.n2
  have h0 := encU_size (n := c.epoch.toNat) (by omega)
  have h1 := encU_size (n := c.l.length) (by omega)
  have h2 := seatsB_size (l := c.l) (fun x hx => h.good.may x hx)
  unfold chainB
  rw [size_append', size_append']
  omega
set_option maxHeartbeats 8000000 in
theorem walk (c : CfN) (p : Option Addr) (cap : Nat) (s : ByteArray) (w : World) (t : Chn w p c.l) (hc : c.l.length ≤ cap) (hl : c.l.length ≤ 9223372036854775807) :
    Calls Try.prog 6 #[cfV c p cap, .string s] w fun e w' => e = .returned (.bool true) ∧ Below w.heap.size w w' := by
  obtain ⟨e0, l⟩ := c
  have x := Lib.hid (Bq.new w e0 p l.length cap)
  have haw := Lib.hid (fun W => awake_any W)
  have hfw : Hid (∀ W g, Blk W g #[.int .i64 e0, .slice p l.length cap] 24 → Calls Try.prog 11 #[.slice (some ⟨g, 0, none⟩) 1 1] W fun e w' => e = .returned (.bool (decide (l.length ≤ 40))) ∧ Below W.heap.size W w') := fun W g k => by
    have h := few_any g [(e0, p, l.length, cap)] W (cfs_one k) (by simp)
    have e : fewN [(e0, p, l.length, cap)] = decide (l.length ≤ 40) := by simp [fewN]
    rw [e] at h
    exact h
  replace t := Lib.hid t
  replace hc := Lib.hid hc
  replace hl := Lib.hid hl
  go_enter Try.func6, Try.ntmps6
  go_wp2_with fail
  refine (haw.out _).mono ?_
  rintro e w2 ⟨rfl, b2⟩
  replace x := Lib.hid (x.out.below b2)
  clear b2
  have y0 := x.out.k.cell 0
  have y1 := x.out.k.cell 1
  try dsimp only at y0 y1
  have kf := Blk.new w2 #[.int .i64 e0, .slice p l.length cap] 24
  replace x := Lib.hid (x.out.alloc (.cells #[.int .i64 e0, .slice p l.length cap] 24))
  have hfx := Lib.hid (hfw.out _ _ kf)
  clear kf hfw
  go_wp2_with fail
  refine hfx.out.mono ?_
  rintro e w3 ⟨rfl, b3⟩
  replace x := Lib.hid (x.out.below b3)
  clear b3 y0 y1 hfx
  by_cases h40 : l.length ≤ 40
  · rw [decide_eq_true h40]
    by_cases h500 : (500 : Int) < s.size
    · go_wp2_with fail
      refine (haw.out _).mono ?_
      rintro e w4 ⟨rfl, b4⟩
      go_wp2_with fail
      go_ret
      exact ⟨rfl, (x.out.below b4).b⟩
    · have hs : Hid (s.size ≤ 100000) := by show _ ≤ _; omega
      have hl62 : Hid (l.length ≤ 4611686018427387904) := by show _ ≤ _; omega
      obtain ⟨c1, ok, hok⟩ : ∃ c ok, readR s = (c, ok) := ⟨_, _, rfl⟩
      have hl1 : Hid (c1.l.length ≤ 8) := by have h := readP_len s; rw [read_rel, hok] at h; exact h
      obtain ⟨e1, he1⟩ : ∃ e1 : Int, (if ok = true then 0 else 3) = e1 := ⟨_, rfl⟩
      have hrd : Hid (∀ W, Calls Try.prog 33 #[.string s] W fun e w' => AnsC (c1, e1) W e w') := fun W => by
        have h := cfgRead_any s W hs.out
        rw [read_rel, hok] at h
        rw [← he1]
        exact h
      have hrr : Hid (∀ W, Calls Try.prog 34 #[.string s] W fun e w' => AnsB (c1, ok) W e w') := fun W => by
        have h := refRead_any s W hs.out
        rw [hok] at h
        exact h
      have hsm : Hid (∀ (d : CfN) pa na pb nb W, d.l.length ≤ 40 → Chn W pa d.l → Chn W pb d.l → Calls Try.prog 13 #[.agg #[.int .i64 d.epoch, .slice pa d.l.length na], .agg #[.int .i64 d.epoch, .slice pb d.l.length nb]] W fun e w' => e = .returned (.bool true) ∧ Below W.heap.size W w') := fun d pa na pb nb W h8 h1 h2 => by
        have h := same_any d d pa pb na nb W h1 h2 (by omega) (by omega)
        rw [decide_eq_true rfl] at h
        exact h
      replace he1 := Lib.hid he1
      replace h40 := Lib.hid h40
      replace h500' := Lib.hid h500
      clear hok
      go_wp2_with fail
      clear h500
      refine (hrd.out _).mono ?_
      rintro e w4 ⟨⟨p1, n1, rfl, t1, h1⟩, b4⟩
      try dsimp only at t1
      replace x := Lib.hid (x.out.below b4)
      have h5w : Hid (w.heap.size < w4.heap.size) := x.out.k.lt
      have k5 := Lib.hid (Blk.new w4 #[.int .i64 c1.epoch, .slice p1 c1.l.length n1] 24)
      replace x := Lib.hid (x.out.alloc (.cells #[.int .i64 c1.epoch, .slice p1 c1.l.length n1] 24))
      replace t1 := Lib.hid (t1.alloc (.cells #[.int .i64 c1.epoch, .slice p1 c1.l.length n1] 24))
      clear h1 b4 hrd
      go_upto_region 4 with fail
      generalize w4.alloc _ = w5 at *
      generalize w4.heap.size = q5 at *
      go_wp2_with fail
      refine (hrr.out _).mono ?_
      rintro e w6 ⟨⟨p2, n2, rfl, t2, h2⟩, b6⟩
      try dsimp only at t2
      replace x := Lib.hid (x.out.below b6)
      replace k5 := Lib.hid (k5.out.below b6)
      replace t1 := Lib.hid (t1.out.below b6)
      have h7w : Hid (w.heap.size < w6.heap.size) := x.out.k.lt
      have h57 : Hid (q5 ≠ w6.heap.size) := by have := k5.out.lt; show _ ≠ _; omega
      have k7 := Lib.hid (Blk.new w6 #[.int .i64 c1.epoch, .slice p2 c1.l.length n2] 24)
      replace x := Lib.hid (x.out.alloc (.cells #[.int .i64 c1.epoch, .slice p2 c1.l.length n2] 24))
      replace t1 := Lib.hid (t1.out.alloc (.cells #[.int .i64 c1.epoch, .slice p2 c1.l.length n2] 24))
      replace k5 := Lib.hid (k5.out.alloc (.cells #[.int .i64 c1.epoch, .slice p2 c1.l.length n2] 24))
      replace t2 := Lib.hid (t2.alloc (.cells #[.int .i64 c1.epoch, .slice p2 c1.l.length n2] 24))
      clear h2 b6 hrr
      go_upto_region 5 with fail
      generalize w6.alloc _ = w7 at *
      generalize w6.heap.size = q7 at *
      have hx := Lib.hid (hsm.out c1 p1 n1 p2 n2 w7 (by have := hl1.out; omega) t1.out t2.out)
      go_cut [56] from 39 (fun v wx => v = .bool false ∧ Hid (Bq w e0 p l.length cap wx) ∧ Hid (Blk wx q5 #[.int .i64 c1.epoch, .slice p1 c1.l.length n1] 24) ∧ Hid (Blk wx q7 #[.int .i64 c1.epoch, .slice p2 c1.l.length n2] 24))
      case first =>
        have z0 := k5.out.cell 0
        have z1 := k5.out.cell 1
        have y0 := k7.out.cell 0
        have y1 := k7.out.cell 1
        try dsimp only at z0 z1 y0 y1
        go_wp2_with fail
        refine hx.out.mono ?_
        rintro e w8 ⟨rfl, b8⟩
        replace x := Lib.hid (x.out.below b8)
        replace k5 := Lib.hid (k5.out.below b8)
        replace k7 := Lib.hid (k7.out.below b8)
        clear b8 hx z0 z1 y0 y1 t1 t2
        cases ok with
        | true =>
          have h : e1 = 0 := he1.out.symm
          subst h
          go_wp2_with fail
          go_meet
          exact ⟨rfl, x, k5, k7⟩
        | false =>
          have h : e1 = 3 := he1.out.symm
          subst h
          go_wp2_with fail
          go_meet
          exact ⟨rfl, x, k5, k7⟩
      case rest =>
        obtain ⟨rfl, x8, k58, k78⟩ := hcut
        clear x k5 k7 t1 t2 hx he1 hl1
        obtain ⟨w8, hw8⟩ : ∃ y, y = wc := ⟨_, rfl⟩
        subst hw8
        have x := x8
        have k5 := k58
        have k7 := k78
        clear x8 k58 k78
        go_wp2_with fail
        refine (Go.Proofs.Ytnagidgffkffhaa.read_any s _ hs.out).mono ?_
        rintro e w9 ⟨b, rfl, hb, rd, b9⟩
        have h5b : Hid (q5 ≠ b) := by have := k5.out.lt; show _ ≠ _; omega
        have h7b : Hid (q7 ≠ b) := by have := k7.out.lt; show _ ≠ _; omega
        have hwb : Hid (w.heap.size < b) := by have := x.out.k.lt; show _ < _; omega
        replace x := Lib.hid (x.out.below b9)
        replace k5 := Lib.hid (k5.out.below b9)
        replace k7 := Lib.hid (k7.out.below b9)
        have h5r : Hid (q5 ≠ w9.heap.size) := by have := k5.out.lt; show _ ≠ _; omega
        have h7r : Hid (q7 ≠ w9.heap.size) := by have := k7.out.lt; show _ ≠ _; omega
        have hbr : Hid (b ≠ w9.heap.size) := by have := rd.lt; show _ ≠ _; omega
        have hwr : Hid (w.heap.size < w9.heap.size) := x.out.k.lt
        have rf := Lib.hid (rf_new w9 s hs.out)
        replace x := Lib.hid (x.out.alloc (.cells #[.string s, .int .i64 0, .int .i64 0] 57))
        replace k5 := Lib.hid (k5.out.alloc (.cells #[.string s, .int .i64 0, .int .i64 0] 57))
        replace k7 := Lib.hid (k7.out.alloc (.cells #[.string s, .int .i64 0, .int .i64 0] 57))
        replace rd := Lib.hid (rd.below ((Below.refl _ _).alloc (Nat.le_refl _) (.cells #[.string s, .int .i64 0, .int .i64 0] 57)))
        clear b9 hb
        go_upto_region 8 with fail
        generalize w9.alloc _ = wa at *
        generalize w9.heap.size = b2 at *
        have htb := take_both ⟨s, 0⟩
        have hct := fun W tW => cfgTake_any b ⟨s, 0⟩ W tW
        have hlen := takeP_len ⟨s, 0⟩
        have hcr : ∀ W, RfS W b2 s ⟨s, 0⟩ → Calls Try.prog 37 #[.pointer (some ⟨b2, 0, none⟩)] W fun e w' => (∃ p cap, e = .returned (.tuple #[.agg #[.int .i64 (takeP ⟨s, 0⟩).1.epoch, .slice p (takeP ⟨s, 0⟩).1.l.length cap], .bool ((takeP ⟨s, 0⟩).2.e == 0)]) ∧ Chn w' p (takeP ⟨s, 0⟩).1.l) ∧ Kept b2 W w' := fun W tW => by
          refine (refTake_any b2 s ⟨s, 0⟩ W tW).mono ?_
          rintro e w' ⟨⟨p, cap, h1, h2, h3⟩, h4, h5⟩
          rw [htb.1, htb.2] at h1
          rw [htb.1] at h2
          exact ⟨⟨p, cap, h1, h2⟩, h5⟩
        clear htb
        generalize takeP ⟨s, 0⟩ = TP at *
        obtain ⟨c3, E⟩ := TP
        replace hct := Lib.hid hct
        replace hcr := Lib.hid hcr
        replace hlen : Hid (c3.l.length ≤ 8) := hlen
        go_wp2_with fail
        refine (hct.out _ rd.out).mono ?_
        rintro e wb ⟨⟨p3, n3, rfl, t3, h3, hf3⟩, rd3, g⟩
        try dsimp only at t3 rd3
        have hfb : Hid (∀ k off, p3 = some ⟨k, off, none⟩ → k ≠ b2) := fun k off h => by have h1 := hf3 k off h; have h2 := rf.out.lt; omega
        replace x := Lib.hid (x.out.kept g hwb.out)
        replace k5 := Lib.hid (k5.out.kept g h5b.out)
        replace k7 := Lib.hid (k7.out.kept g h7b.out)
        replace rf := Lib.hid (RfS.keptR rf.out g (fun e => hbr.out e.symm))
        replace rd := Lib.hid rd3
        clear h3 hf3 g rd3 hct
        have z0 := k5.out.cell 0
        have z1 := k5.out.cell 1
        have f0 := k5.out.fz 0
        have f1 := k5.out.fz 1
        try dsimp only at z0 z1
        have x' := Lib.hid ((x.out.setf (q := q5) (i := 0) (v := .int .i64 c3.epoch) h5w.out).setf (q := q5) (i := 1) (v := .slice p3 c3.l.length n3) h5w.out)
        have k7' := Lib.hid ((k7.out.setf (q' := q5) (i := 0) (v := .int .i64 c3.epoch) (fun e => h57.out e.symm)).setf (q' := q5) (i := 1) (v := .slice p3 c3.l.length n3) (fun e => h57.out e.symm))
        have rf' := Lib.hid ((rf.out.set (q := q5) (o := 0) (v := .int .i64 c3.epoch) (fun e => h5r.out e.symm)).set (q := q5) (o := 1) (v := .slice p3 c3.l.length n3) (fun e => h5r.out e.symm))
        have rd' := Lib.hid ((rd.out.set (q := q5) (o := 0) (v := .int .i64 c3.epoch) (fun e => h5b.out e.symm)).set (q := q5) (o := 1) (v := .slice p3 c3.l.length n3) (fun e => h5b.out e.symm))
        have t3' := Lib.hid ((t3.setz (i := 0) (v := .int .i64 c3.epoch) k5.out (Nat.le_refl 2)).setz (i := 1) (v := .slice p3 c3.l.length n3) k5.out.set (by simp))
        have k5' : Hid (Blk _ _ #[.int .i64 c3.epoch, .slice p3 c3.l.length n3] 24) := (k5.out.set (i := 0) (u := .int .i64 c3.epoch)).set (i := 1) (u := .slice p3 c3.l.length n3)
        clear x k5 k7 rf rd t3
        go_upto_region 9 with fail
        clear z0 z1 f0 f1
        generalize ((wb.setCell _ _).setCell _ _) = wd at *
        go_wp2_with fail
        refine (hcr.out _ rf'.out).mono ?_
        rintro e we ⟨⟨p4, n4, rfl, t4⟩, g⟩
        try dsimp only at t4
        have x := Lib.hid (x'.out.kept g hwr.out)
        have k5 := Lib.hid (k5'.out.kept g h5r.out)
        have k7 := Lib.hid (k7'.out.kept g h7r.out)
        have rd := Lib.hid (rd'.out.kept g hbr.out)
        have t3 := Lib.hid (Chn.keptR t3'.out g hfb.out)
        clear x' k5' k7' rf' rd' t3' g hcr
        have z0 := k7.out.cell 0
        have z1 := k7.out.cell 1
        have f0 := k7.out.fz 0
        have f1 := k7.out.fz 1
        try dsimp only at z0 z1
        have x' := Lib.hid ((x.out.setf (q := q7) (i := 0) (v := .int .i64 c3.epoch) h7w.out).setf (q := q7) (i := 1) (v := .slice p4 c3.l.length n4) h7w.out)
        have k5' := Lib.hid ((k5.out.setf (q' := q7) (i := 0) (v := .int .i64 c3.epoch) h57.out).setf (q' := q7) (i := 1) (v := .slice p4 c3.l.length n4) h57.out)
        have rd' := Lib.hid ((rd.out.set (q := q7) (o := 0) (v := .int .i64 c3.epoch) (fun e => h7b.out e.symm)).set (q := q7) (o := 1) (v := .slice p4 c3.l.length n4) (fun e => h7b.out e.symm))
        have t3' := Lib.hid ((t3.out.setz (i := 0) (v := .int .i64 c3.epoch) k7.out (Nat.le_refl 2)).setz (i := 1) (v := .slice p4 c3.l.length n4) k7.out.set (by simp))
        have t4' := Lib.hid ((t4.setz (i := 0) (v := .int .i64 c3.epoch) k7.out (Nat.le_refl 2)).setz (i := 1) (v := .slice p4 c3.l.length n4) k7.out.set (by simp))
        have k7' : Hid (Blk _ _ #[.int .i64 c3.epoch, .slice p4 c3.l.length n4] 24) := (k7.out.set (i := 0) (u := .int .i64 c3.epoch)).set (i := 1) (u := .slice p4 c3.l.length n4)
        clear x k5 k7 rd t3 t4
        go_upto_region 10 with fail
        clear z0 z1 f0 f1
        generalize ((we.setCell _ _).setCell _ _) = wf at *
        have hx := Lib.hid (hsm.out c3 p3 n3 p4 n4 wf (by have := hlen.out; omega) t3'.out t4'.out)
        have hq2 : ∃ k, (E.e == 0) = k := ⟨_, rfl⟩
        obtain ⟨ok2, hq2⟩ := hq2
        rw [hq2]
        have z0 := k5'.out.cell 0
        have z1 := k5'.out.cell 1
        have y0 := k7'.out.cell 0
        have y1 := k7'.out.cell 1
        try dsimp only at z0 z1 y0 y1
        go_wp2_with fail
        refine hx.out.mono ?_
        rintro e wg ⟨rfl, bg⟩
        have x := Lib.hid (x'.out.below bg)
        have rd := Lib.hid (rd'.out.below bg)
        clear bg hx z0 z1 y0 y1 x' k5' k7' rd' t3' t4'
        go_wp2_with fail
        refine (err_any b E _ rd.out).mono ?_
        rintro e wh ⟨rfl, rfl⟩
        have y0 := x.out.k.cell 0
        have y1 := x.out.k.cell 1
        try dsimp only at y0 y1
        cases hr : rightN ⟨e0, l⟩ with
        | false =>
          have hp : Hid (∀ W, Chn W p l → Calls Try.prog 39 #[.agg #[.int .i64 e0, .slice p l.length cap]] W fun e w' => e = .returned (.tuple #[.string ⟨#[]⟩, .int .i64 1]) ∧ Below W.heap.size W w') := fun W tW => by
            have h := print_any ⟨e0, l⟩ p cap W tW hc.out hl62.out
            rw [show printN ⟨e0, l⟩ = ⟨#[]⟩ by unfold printN; rw [hr]; rfl, show printE ⟨e0, l⟩ = 1 by unfold printE; rw [hr]; rfl] at h
            exact h
          have hri : Hid (∀ W, Chn W p l → Calls Try.prog 22 #[.agg #[.int .i64 e0, .slice p l.length cap]] W fun e w' => e = .returned (.bool false) ∧ Below W.heap.size W w') := fun W tW => by
            have h := refRight_any ⟨e0, l⟩ p cap W tW hc.out hl62.out
            rw [hr] at h
            exact h
          replace hr := Lib.hid hr
          go_wp2_with fail
          refine (hp.out _ (t.out.below x.out.b)).mono ?_
          rintro e wi ⟨rfl, bi⟩
          replace x := Lib.hid (x.out.below bi)
          clear bi y0 y1
          have y0 := x.out.k.cell 0
          have y1 := x.out.k.cell 1
          try dsimp only at y0 y1
          go_wp2_with fail
          refine (hri.out _ (t.out.below x.out.b)).mono ?_
          rintro e wj ⟨rfl, bj⟩
          replace x := Lib.hid (x.out.below bj)
          clear bj y0 y1
          go_wp2_with fail
          go_ret
          exact ⟨rfl, x.out.b⟩
        | true =>
          have hR := right_iff.1 hr
          have hrb := read_back hR
          have hsz := chainB_size hR
          have hp : ∀ W, Chn W p l → Calls Try.prog 39 #[.agg #[.int .i64 e0, .slice p l.length cap]] W fun e w' => e = .returned (.tuple #[.string (chainB ⟨e0, l⟩), .int .i64 0]) ∧ Below W.heap.size W w' := fun W tW => by
            have h := print_any ⟨e0, l⟩ p cap W tW hc.out hl62.out
            rw [show printN ⟨e0, l⟩ = chainB ⟨e0, l⟩ by unfold printN; rw [if_pos hr], show printE ⟨e0, l⟩ = 0 by unfold printE; rw [if_pos hr]] at h
            exact h
          have hri : Hid (∀ W, Chn W p l → Calls Try.prog 22 #[.agg #[.int .i64 e0, .slice p l.length cap]] W fun e w' => e = .returned (.bool true) ∧ Below W.heap.size W w') := fun W tW => by
            have h := refRight_any ⟨e0, l⟩ p cap W tW hc.out hl62.out
            rw [hr] at h
            exact h
          have hrp := fun W tW => refPrint_any ⟨e0, l⟩ p cap W tW hR
          have hpu := fun W tW => put_any ⟨e0, l⟩ p cap W tW hR
          have hre := fun W => cfgRead_any (chainB ⟨e0, l⟩) W (by omega)
          rw [hrb] at hre
          generalize chainB ⟨e0, l⟩ = F at *
          replace hp := Lib.hid hp
          replace hrp := Lib.hid hrp
          replace hpu := Lib.hid hpu
          replace hre := Lib.hid hre
          replace hR := Lib.hid hR
          replace hr := Lib.hid hr
          clear hrb
          go_wp2_with fail
          refine (hp.out _ (t.out.below x.out.b)).mono ?_
          rintro e wi ⟨rfl, bi⟩
          replace x := Lib.hid (x.out.below bi)
          clear bi y0 y1 hp
          have y0 := x.out.k.cell 0
          have y1 := x.out.k.cell 1
          try dsimp only at y0 y1
          go_wp2_with fail
          refine (hri.out _ (t.out.below x.out.b)).mono ?_
          rintro e wj ⟨rfl, bj⟩
          replace x := Lib.hid (x.out.below bj)
          clear bj y0 y1 hri
          go_wp2_with fail
          refine (hre.out _).mono ?_
          rintro e wk ⟨⟨p5, n5, rfl, t5, h5⟩, bk⟩
          try dsimp only at t5
          replace x := Lib.hid (x.out.below bk)
          have k13 := Lib.hid (Blk.new wk #[.int .i64 e0, .slice p5 l.length n5] 24)
          replace x := Lib.hid (x.out.alloc (.cells #[.int .i64 e0, .slice p5 l.length n5] 24))
          replace t5 := Lib.hid (t5.alloc (.cells #[.int .i64 e0, .slice p5 l.length n5] 24))
          clear h5 bk hre
          go_upto_region 16 with fail
          generalize wk.alloc _ = wl at *
          generalize wk.heap.size = q13 at *
          have y0 := x.out.k.cell 0
          have y1 := x.out.k.cell 1
          try dsimp only at y0 y1
          go_wp2_with fail
          refine (hrp.out _ (t.out.below x.out.b)).mono ?_
          rintro e wm ⟨rfl, bm⟩
          replace x := Lib.hid (x.out.below bm)
          replace k13 := Lib.hid (k13.out.below bm)
          replace t5 := Lib.hid (t5.out.below bm)
          clear bm y0 y1 hrp
          have y0 := x.out.k.cell 0
          have y1 := x.out.k.cell 1
          try dsimp only at y0 y1
          go_wp2_with fail
          refine (hpu.out _ (t.out.below x.out.b)).mono ?_
          rintro e wn ⟨rfl, bn⟩
          replace x := Lib.hid (x.out.below bn)
          replace k13 := Lib.hid (k13.out.below bn)
          replace t5 := Lib.hid (t5.out.below bn)
          clear bn y0 y1 hpu
          have y0 := x.out.k.cell 0
          have y1 := x.out.k.cell 1
          have z0 := k13.out.cell 0
          have z1 := k13.out.cell 1
          try dsimp only at y0 y1 z0 z1
          have hx := Lib.hid (hsm.out ⟨e0, l⟩ p5 n5 p cap wn h40.out t5.out (t.out.below x.out.b))
          go_wp2_with fail
          refine hx.out.mono ?_
          rintro e wo ⟨rfl, bo⟩
          go_wp2_with fail
          go_ret
          exact ⟨rfl, (x.out.below bo).b⟩
  · rw [decide_eq_false h40]
    go_wp2_with fail
    refine (haw.out _).mono ?_
    rintro e w4 ⟨rfl, b4⟩
    go_wp2_with fail
    go_ret
    exact ⟨rfl, (x.out.below b4).b⟩

set_option maxRecDepth 100000 in
theorem lifted (os : Os) (started : os.Started) (H : Type) (enc : TypeId × Value → H) :
    ReturnsInHanded {} Try.checked os 6 .any (Rows.configBytesSpec.pre6 enc Try.prog Try.f6 Rows.configBytesRow.domain false) (Rows.configBytesSpec.post enc Try.prog Try.f6 false true false false) := by
  refine returnsInHanded_of_change (C := Try.checked) own started (by kernel_rfl) Try.func6
    (ChangeSpec.witness6 (enc := enc) (C := Try.checked) false ⟨#[], #[.agg #[.int .i64 0, .slice none 0 0], .string ByteArray.empty], []⟩ 8 (by kernel_rfl) (by kernel_rfl) (by kernel_rfl) (by kernel_rfl)) ?_
  intro W base args ds gs before hval0 hW _ _
  have hval : ∀ (j : Nat) t v, Try.f6.params[j]? = some t → args[j]? = some v → Value.okWide Try.prog W .any base t v := hval0
  have hW' := hW
  obtain ⟨p, q, hA0, hV, rfl, hfz, hnd⟩ := hW
  have hA : DataW.TrodAll enc Try.prog W 0 (fun _ => true) true Try.f6.params.toList args.toList ds p := hA0
  rw [Try.params6] at hA hval
  obtain ⟨v0, vs0, d0, ds0, p0, q0, hargs, rfl, rfl, h0, r0⟩ := trodAll_cons hA
  obtain ⟨v1, vs1, d1, ds1, p1, q1, rfl, rfl, rfl, h1, r1⟩ := trodAll_cons r0
  obtain ⟨rfl, rfl, rfl⟩ := trodAll_nil r1
  obtain rfl : args = #[v0, v1] := by cases args; simp_all
  obtain ⟨rfl, rfl⟩ := trodVars_none hV
  have k0 := h0
  have lt0 : ∀ x ∈ p0, x.block < W.heap.size := by obtain ⟨m, hm⟩ := k0; exact DataW.trod_lt m _ _ _ hm
  obtain ⟨a0, q0, cap0, rfl, w0, hc0, hl0⟩ := open_cf (hval 0 24 v0 rfl rfl) h0
  have k1 := h1
  have lt1 : ∀ x ∈ p1, x.block < W.heap.size := by obtain ⟨m, hm⟩ := k1; exact DataW.trod_lt m _ _ _ hm
  obtain ⟨a1, rfl, -, -, w1⟩ := open_string Try.underlying9 (hval 1 9 v1 rfl rfl) h1
  clear hA0 hval0
  refine (walk a0 q0 cap0 a1 W w0 hc0 hl0).mono fun e W' ⟨he, bel⟩ => ?_
  subst he
  exact ⟨_, rfl, _, _, _, [], _, [], hW', trodAll_mk1 (shut_bool Try.underlying4 _), (trodAll_cons_mk (Below.trod laidOut11 (by kernel_rfl) (of_decide_eq_true (by kernel_rfl)) k0 bel lt0) (trodAll_cons_mk (Below.trod laidOut11 (by kernel_rfl) (of_decide_eq_true (by kernel_rfl)) k1 bel lt1) trodAll_mk0)), rfl, bel.frame _, fun h => by cases h⟩

theorem over : Rows.configBytesRow.holds Try.pinned (OpenSpec.ofChange Rows.configBytesSpec) :=
  OpenClaim.holds_of_wide 6 Try.f6 rfl rfl rfl rfl rfl rfl rfl ⟨rfl, rfl, rfl, rfl, rfl⟩ rfl rfl rfl rfl rfl (by kernel_rfl) Try.func6 (by kernel_rfl)
    (of_decide_eq_true (by kernel_rfl)) (by unfold Func.isWrapper; first | (rw [if_pos (by decide +kernel)]; kernel_rfl) | (rw [if_neg (by decide +kernel)]; exact ⟨rfl, rfl⟩))
    (fun os started H enc _ => lifted os started H enc)

/-- The statement. -/
theorem proved : Rows.ConfigBytesSaid := over
#print axioms proved
end Go.Proofs.Ytnagidgffkffhaa.G.configBytes
