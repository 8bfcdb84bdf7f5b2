/-
  In whatever row chains come behind one another, the first seat was synced in the chain ahead, and sat in it. Condition: none.
-/
import Derived.Test.YtnagidgffkffhaaGAwake
import Derived.Test.YtnagidgffkffhaaGOpen2
import Derived.Test.YtnagidgffkffhaaGPlain2
import Derived.Test.YtnagidgffkffhaaGMbs
import Derived.Test.YtnagidgffkffhaaRows
namespace Go.Proofs.Ytnagidgffkffhaa.G.configHead
open Go.ChangeShapes Go.WideShapes Go.ChangeAt Go.RowKit Cod Cfg
open Go.ChangeMaps (open_string shut_string)
set_option linter.unusedVariables false

theorem own : ownKnob Try.prog.godebug = none := by kernel_rfl

set_option maxRecDepth 100000
theorem mbs_two (w : World) (m n : MbN) : Mbs (w.alloc (.cells #[.int .i64 m.node, .int .i64 m.life, .int .i64 n.node, .int .i64 n.life] 26)) (some ⟨w.heap.size, 0, none⟩) [m, n] := fun i hi => by
  have h := Blk.new w #[.int .i64 m.node, .int .i64 m.life, .int .i64 n.node, .int .i64 n.life] 26
  match i, hi with
  | 0, _ => exact ⟨_, 0, rfl, h.cell 0, h.cell 1⟩
  | 1, _ => exact ⟨_, 0, rfl, h.cell 2, h.cell 3⟩
  | i + 2, hi => exact absurd hi (by simp)
/-- The chain at hand, in its block. -/
structure Ch (w : World) (q : Nat) (c : CfN) (W : World) : Prop where
  pc : ∃ p cap, Blk W q #[.int .i64 c.epoch, .slice p c.l.length cap] 24 ∧ Chn W p c.l ∧ c.l.length ≤ cap
  b : Below w.heap.size w W
  lo : w.heap.size ≤ q
theorem Ch.below {w : World} {q : Nat} {c : CfN} {W W' : World} (h : Ch w q c W) (k : Below W.heap.size W W') : Ch w q c W' := by
  obtain ⟨p, cap, h1, h2, h3⟩ := h.pc
  exact ⟨⟨p, cap, h1.below k, h2.below k, h3⟩, h.b.trans (k.mono h.b.size), h.lo⟩
theorem Ch.setf {w : World} {q q' i : Nat} {c : CfN} {W : World} {cs : Array Value} {T : TypeId} {v : Value} (h : Ch w q c W) (k : Blk W q' cs T) (hs : cs.size ≤ 2) (hne : q ≠ q') (hw : w.heap.size ≤ q') : Ch w q c (W.setCell ⟨q', i, none⟩ v) := by
  obtain ⟨p, cap, h1, h2, h3⟩ := h.pc
  exact ⟨⟨p, cap, h1.setf hne, h2.setz k hs, h3⟩, bset h.b hw, h.lo⟩
theorem firstN_right {k : Nat} (h1 : 1 ≤ k) (h2 : k ≤ 8) : RightP (firstN k) := by
  have h : k = 1 ∨ k = 2 ∨ k = 3 ∨ k = 4 ∨ k = 5 ∨ k = 6 ∨ k = 7 ∨ k = 8 := by omega
  rcases h with rfl | rfl | rfl | rfl | rfl | rfl | rfl | rfl <;> exact right_iff.1 (by decide +kernel)
set_option maxHeartbeats 8000000 in
theorem walk (n0 : Int) (a : Option Addr) (cap : Nat) (f : List SpN) (w : World) (w0 : (Lit.int .i64 n0).wf = true) (t : Sps w a f) (hc : f.length ≤ cap) (hl : f.length ≤ 9223372036854775807) :
    Calls Try.prog 7 #[.int .i64 n0, .slice a f.length cap] w fun e w' => e = .returned (.bool true) ∧ Below w.heap.size w w' := by
  have haw := Lib.hid (fun W => awake_any W)
  obtain ⟨k, hk8, hk⟩ : ∃ k : Nat, k < 8 ∧ (IntKind.u64.wrap n0).tmod 8 = (k : Int) := by
    have h0 : 0 ≤ IntKind.u64.wrap n0 := by rw [IntKind.wrap_u64]; omega
    refine ⟨((IntKind.u64.wrap n0).tmod 8).toNat, ?_, ?_⟩ <;> rw [Int.tmod_eq_emod_of_nonneg h0] <;> omega
  have hw : Hid (wrap64 (1 + wrap64 ((IntKind.u64.wrap n0).tmod 8)) = ((k + 1 : Nat) : Int)) := by
    show _ = _
    rw [hk]
    have h1 : wrap64 (k : Int) = k := IntWalk.wrap64_in _ ⟨by omega, by omega⟩
    rw [h1]
    have h2 : wrap64 (1 + (k : Int)) = 1 + k := IntWalk.wrap64_in _ ⟨by omega, by omega⟩
    rw [h2]; omega
  have hf : Hid (∀ W, Calls Try.prog 12 #[.int .i64 ((k + 1 : Nat) : Int)] W fun e w' => (∃ p cap, e = .returned (.tuple #[.agg #[.int .i64 (firstN (k + 1)).epoch, .slice p (firstN (k + 1)).l.length cap], .int .i64 0]) ∧ Chn w' p (firstN (k + 1)).l ∧ (firstN (k + 1)).l.length ≤ cap) ∧ Below W.heap.size W w') := fun W => by
    have h := first_any ((k + 1 : Nat) : Int) W
    rw [if_pos (by omega), Int.toNat_natCast] at h
    exact h
  have hr0 := Lib.hid (firstN_right (k := k + 1) (by omega) (by omega))
  generalize firstN (k + 1) = c0 at *
  replace hk := Lib.hid hk
  replace t := Lib.hid t
  replace w0 := Lib.hid w0
  go_enter Try.func7, Try.ntmps7
  go_wp2_with fail
  rw [hw.out]
  refine (hf.out _).mono ?_
  rintro e w1 ⟨⟨p1, n1, rfl, t1, hn1⟩, b1⟩
  have ba := (Below.refl w1.heap.size w1).alloc (Nat.le_refl _) (.cells #[.int .i64 c0.epoch, .slice p1 c0.l.length n1] 24)
  have ch : Hid (Ch w w1.heap.size c0 (w1.alloc (.cells #[.int .i64 c0.epoch, .slice p1 c0.l.length n1] 24))) := ⟨⟨p1, n1, Blk.new w1 _ _, t1.below ba, hn1⟩, b1.trans (ba.mono b1.size), b1.size⟩
  clear ba t1 hn1 b1
  go_upto_region 2 with fail
  generalize w1.alloc _ = w2 at *
  generalize hq5 : w1.heap.size = q5 at *
  clear hq5
  go_wp2_with fail
  refine (haw.out _).mono ?_
  rintro e w3 ⟨rfl, b3⟩
  replace ch := Lib.hid (ch.out.below b3)
  clear b3
  by_cases h200 : (200 : Int) < f.length
  · go_wp2_with fail
    refine (haw.out _).mono ?_
    rintro e w4 ⟨rfl, b4⟩
    go_wp2_with fail
    go_ret
    exact ⟨rfl, (ch.out.below b4).b⟩
  · have hfl : (f.length : Int) ≤ 200 := by omega
    replace h200' := Lib.hid h200
    go_wp2_with fail
    clear h200
    replace hl := Lib.hid hl
    replace hc := Lib.hid hc
    go_loopw [41] (fun v wr => ∃ (k : Nat) (c : CfN), v = .int .i64 k ∧ (k : Int) ≤ f.length ∧ Hid (RightP c) ∧ Hid (Ch w q5 c wr)) (fun v _ => ((f.length : Int) - intOf v).toNat)
    case atStart => exact ⟨0, c0, rfl, by omega, hr0, ch⟩
    case round =>
      obtain ⟨k, c, rfl, hk, hr, ch4⟩ := hrel
      clear ch hr0
      by_cases hlt : (k : Int) < f.length
      · have hkl : k < f.length := by omega
        obtain ⟨b, off, rfl, cs⟩ := (t.out.below ch4.out.b) k hkl
        have s0 := cs 0 _ rfl
        have s1 := cs 1 _ rfl
        have s2 := cs 2 _ rfl
        have s3 := cs 3 _ rfl
        have s4 := cs 4 _ rfl
        clear cs
        simp only [Nat.add_zero] at s0
        generalize f[k] = st at *
        obtain ⟨kd, ⟨m0, m1⟩, ⟨o0, o1⟩⟩ := st
        try simp only at s0 s1 s2 s3 s4
        obtain ⟨e0, l⟩ := c
        have hn8 : Hid (l.length ≤ 8) := hr.out.n2
        obtain ⟨pC, nC, kC0, tC0, hcC⟩ := ch4.out.pc
        have ba := (Below.refl wr.heap.size wr).alloc (Nat.le_refl _) (.cells #[.int .i64 kd, .int .i64 m0, .int .i64 m1, .int .i64 o0, .int .i64 o1] 68)
        have bb := ba.alloc ba.size (.cells #[.int .i64 e0, .slice pC l.length nC] 24)
        have kS := (Blk.new wr #[.int .i64 kd, .int .i64 m0, .int .i64 m1, .int .i64 o0, .int .i64 o1] 68).below ((Below.refl _ _).alloc (Nat.le_refl _) (.cells #[.int .i64 e0, .slice pC l.length nC] 24))
        have kD := Blk.new (wr.alloc (.cells #[.int .i64 kd, .int .i64 m0, .int .i64 m1, .int .i64 o0, .int .i64 o1] 68)) #[.int .i64 e0, .slice pC l.length nC] 24
        rw [show (wr.alloc (.cells #[.int .i64 kd, .int .i64 m0, .int .i64 m1, .int .i64 o0, .int .i64 o1] 68)).heap.size = wr.heap.size + 1 by simp] at kD
        have hqd : Hid (q5 ≠ wr.heap.size + 1 ∧ w.heap.size ≤ wr.heap.size + 1) := by
          have h1 := kC0.lt
          have h2 := ch4.out.b.size
          exact ⟨by omega, by omega⟩
        have y0 := (kC0.below ba).cell 0
        have y1 := (kC0.below ba).cell 1
        try dsimp only at y0 y1
        have ch5 := Lib.hid (ch4.out.below bb)
        replace kS := Lib.hid kS
        replace kD := Lib.hid kD
        have kC := Lib.hid (kC0.below bb)
        have tC := Lib.hid (tC0.below bb)
        clear ba bb ch4 kC0 tC0
        go_upto_block 2 with fail
        clear s0 s1 s2 s3 s4 y0 y1
        generalize ((wr.alloc _).alloc _) = w5 at *
        generalize wr.heap.size + 1 = qd at *
        generalize wr.heap.size = qs at *
        replace kC := kC.out
        go_cut [10] (fun fv wx => ∃ (d : CfN) (er : Int) (p6 : Option Addr) (n6 : Nat), fv = .int .i64 er ∧ Hid (er = 0 → Cfg.Comes ⟨e0, l⟩ d) ∧ Hid (Blk wx qd #[.int .i64 d.epoch, .slice p6 d.l.length n6] 24) ∧ Hid (Chn wx p6 d.l) ∧ Hid (d.l.length ≤ n6) ∧ Hid (Ch w q5 ⟨e0, l⟩ wx))
        case first =>
          have kd0 := kS.out.cell 0
          try dsimp only at kd0
          by_cases k1 : kd = 1
          · have e1 : (kd == 1) = true := by rw [beq_iff_eq]; exact k1
            replace k1 := Lib.hid k1
            have y0 := kC.cell 0
            have y1 := kC.cell 1
            have s0 := kS.out.cell 1
            have s1 := kS.out.cell 2
            have s2 := kS.out.cell 3
            have s3 := kS.out.cell 4
            try dsimp only at s2 s3
            try dsimp only at y0 y1 s0 s1
            have ba := (Below.refl w5.heap.size w5).alloc (Nat.le_refl _) (.cells #[.int .i64 m0, .int .i64 m1, .int .i64 o0, .int .i64 o1] 26)
            have hcall := Lib.hid (without_any ⟨e0, l⟩ pC nC [⟨m0, m1⟩, ⟨o0, o1⟩] (some ⟨w5.heap.size, 0, none⟩) 2 _ (tC.out.below ba) hcC (by have := hn8.out; dsimp only; omega) (mbs_two w5 ⟨m0, m1⟩ ⟨o0, o1⟩) (by simp))
            obtain ⟨d, er, hde⟩ : ∃ d er, withoutN ⟨e0, l⟩ [⟨m0, m1⟩, ⟨o0, o1⟩] = (d, er) := ⟨_, _, rfl⟩
            rw [hde] at hcall
            have hcm : Hid (er = 0 → Cfg.Comes ⟨e0, l⟩ d) := fun e => comes_without (by rw [hde, e])
            replace hde := Lib.hid hde
            have kDa := Lib.hid (kD.out.below ba)
            have cha := Lib.hid (ch5.out.below ba)
            clear ba
            replace kC := Lib.hid kC
            go_wp2_with fail
            refine hcall.out.mono ?_
            rintro e w6 ⟨⟨p6, n6, rfl, t6, h6⟩, b6⟩
            have kD6 := Lib.hid (kDa.out.below b6)
            have ch6 := Lib.hid (cha.out.below b6)
            replace t6 := Lib.hid t6
            replace h6 := Lib.hid h6
            have f0 := kD6.out.fz 0
            have f1 := kD6.out.fz 1
            have z0 := kD6.out.cell 0
            have z1 := kD6.out.cell 1
            clear b6 y0 y1 s0 s1 s2 s3 hcall kC tC hcC
            go_wp2_with fail
            go_meet
            refine ⟨d, er, p6, n6, rfl, hcm, kD6.out.set.set, (t6.out.setz kD6.out (Nat.le_refl 2)).setz kD6.out.set (by simp), h6, (ch6.out.setf kD6.out (Nat.le_refl 2) hqd.out.1 hqd.out.2).setf kD6.out.set (by simp) hqd.out.1 hqd.out.2⟩
          have e1 : (kd == 1) = false := by rw [beq_eq_false_iff_ne]; exact k1
          by_cases k2 : kd = 2
          · have e2 : (kd == 2) = true := by rw [beq_iff_eq]; exact k2
            replace k1 := Lib.hid k1
            replace k2 := Lib.hid k2
            have y0 := kC.cell 0
            have y1 := kC.cell 1
            have s0 := kS.out.cell 1
            have s1 := kS.out.cell 2
            try dsimp only at y0 y1 s0 s1
            have hcall := Lib.hid (join_any ⟨e0, l⟩ pC nC ⟨m0, m1⟩ w5 tC.out hcC (by have := hn8.out; dsimp only; omega))
            obtain ⟨d, er, hde⟩ : ∃ d er, joinN ⟨e0, l⟩ ⟨m0, m1⟩ = (d, er) := ⟨_, _, rfl⟩
            rw [hde] at hcall
            have hcm : Hid (er = 0 → Cfg.Comes ⟨e0, l⟩ d) := fun e => comes_join (by rw [hde, e])
            replace hde := Lib.hid hde
            replace kC := Lib.hid kC
            go_wp2_with fail
            refine hcall.out.mono ?_
            rintro e w6 ⟨⟨p6, n6, rfl, t6, h6⟩, b6⟩
            have kD6 := Lib.hid (kD.out.below b6)
            have ch6 := Lib.hid (ch5.out.below b6)
            replace t6 := Lib.hid t6
            replace h6 := Lib.hid h6
            have f0 := kD6.out.fz 0
            have f1 := kD6.out.fz 1
            have z0 := kD6.out.cell 0
            have z1 := kD6.out.cell 1
            clear b6 y0 y1 s0 s1 hcall kC tC hcC
            go_wp2_with fail
            go_meet
            refine ⟨d, er, p6, n6, rfl, hcm, kD6.out.set.set, (t6.out.setz kD6.out (Nat.le_refl 2)).setz kD6.out.set (by simp), h6, (ch6.out.setf kD6.out (Nat.le_refl 2) hqd.out.1 hqd.out.2).setf kD6.out.set (by simp) hqd.out.1 hqd.out.2⟩
          have e2 : (kd == 2) = false := by rw [beq_eq_false_iff_ne]; exact k2
          by_cases k3 : kd = 3
          · have e3 : (kd == 3) = true := by rw [beq_iff_eq]; exact k3
            replace k1 := Lib.hid k1
            replace k2 := Lib.hid k2
            replace k3 := Lib.hid k3
            have y0 := kC.cell 0
            have y1 := kC.cell 1
            have s0 := kS.out.cell 1
            have s1 := kS.out.cell 2
            try dsimp only at y0 y1 s0 s1
            have hcall := Lib.hid (synced_any ⟨e0, l⟩ pC nC ⟨m0, m1⟩ w5 tC.out hcC (by have := hn8.out; dsimp only; omega))
            obtain ⟨d, er, hde⟩ : ∃ d er, syncN ⟨e0, l⟩ ⟨m0, m1⟩ = (d, er) := ⟨_, _, rfl⟩
            rw [hde] at hcall
            have hcm : Hid (er = 0 → Cfg.Comes ⟨e0, l⟩ d) := fun e => comes_sync (by rw [hde, e])
            replace hde := Lib.hid hde
            replace kC := Lib.hid kC
            go_wp2_with fail
            refine hcall.out.mono ?_
            rintro e w6 ⟨⟨p6, n6, rfl, t6, h6⟩, b6⟩
            have kD6 := Lib.hid (kD.out.below b6)
            have ch6 := Lib.hid (ch5.out.below b6)
            replace t6 := Lib.hid t6
            replace h6 := Lib.hid h6
            have f0 := kD6.out.fz 0
            have f1 := kD6.out.fz 1
            have z0 := kD6.out.cell 0
            have z1 := kD6.out.cell 1
            clear b6 y0 y1 s0 s1 hcall kC tC hcC
            go_wp2_with fail
            go_meet
            refine ⟨d, er, p6, n6, rfl, hcm, kD6.out.set.set, (t6.out.setz kD6.out (Nat.le_refl 2)).setz kD6.out.set (by simp), h6, (ch6.out.setf kD6.out (Nat.le_refl 2) hqd.out.1 hqd.out.2).setf kD6.out.set (by simp) hqd.out.1 hqd.out.2⟩
          have e3 : (kd == 3) = false := by rw [beq_eq_false_iff_ne]; exact k3
          replace k1 := Lib.hid k1
          replace k2 := Lib.hid k2
          replace k3 := Lib.hid k3
          replace kC := Lib.hid kC
          go_wp2_with fail
          go_meet
          exact ⟨⟨e0, l⟩, 0, pC, nC, rfl, fun _ => comes_self hr.out, kD, tC, hcC, ch5⟩
        case rest =>
          obtain ⟨d, er, p6, n6, rfl, hcm, kD6, t6, h6, ch6⟩ := hcut
          clear kC tC hcC ch5 kD kS
          obtain ⟨wx, hwx⟩ : ∃ x, x = wc := ⟨_, rfl⟩
          subst hwx
          by_cases her : er = 0
          · subst her
            have hcom := hcm.out rfl
            obtain ⟨j, hj, hd1, hd2⟩ := hcom.head
            have hD := hcom.right
            have hd8 : d.l.length ≤ 8 := hD.n2
            have hd0 : 0 < d.l.length := hD.n1
            have hat : atN d.l 0 = l[j].m := by
              have h1 := atN_yes hd0
              rw [getD_eq hd0] at hd1
              exact h1.trans hd1
            have his : isN d.l 0 = true := isN_yes ⟨Int.le_refl 0, by omega⟩
            have hfo : followsN ⟨e0, l⟩ d = true := hcom.foll
            have hep : ¬ d.epoch < e0 := by have := hcom.ep; dsimp only at this; omega
            have hl8 := hn8.out
            obtain ⟨pX, nX, kX, tX, hX⟩ := ch6.out.pc
            dsimp only at hX hj hd2
            have hpl : Hid (∀ W, Chn W pX l → Calls Try.prog 23 #[.agg #[.int .i64 e0, .slice pX l.length nX], mbV l[j].m] W fun e w' => e = .returned (.int .i64 (j : Int)) ∧ Below W.heap.size W w') := fun W tW => by
              have h1 := place_any ⟨e0, l⟩ pX nX l[j].m W tW (by dsimp only; omega)
              rw [place_self hr.out.good hj] at h1
              exact h1
            have hhd := head_any d p6 n6 wx t6.out
            rw [hat, his] at hhd
            have hfl2 : Hid (∀ W, Chn W pX l → Chn W p6 d.l → Calls Try.prog 31 #[.agg #[.int .i64 e0, .slice pX l.length nX], .agg #[.int .i64 d.epoch, .slice p6 d.l.length n6]] W fun e w' => e = .returned (.bool true) ∧ Below W.heap.size W w') := fun W h1 h2 => by
              have h3 := follows_any ⟨e0, l⟩ d pX p6 nX n6 W h1 h2 hX h6.out (by dsimp only; omega) (by omega)
              rw [hfo] at h3
              exact h3
            have hjI : (j : Int) < l.length := by omega
            have hj0 : ¬ (j : Int) < 0 := by omega
            replace hcom := Lib.hid hcom
            replace hD := Lib.hid hD
            generalize hm : l[j].m = mm at *
            obtain ⟨v0, v1⟩ := mm
            replace hhd := Lib.hid hhd
            replace hm := Lib.hid hm
            have y0 := kD6.out.cell 0
            have y1 := kD6.out.cell 1
            try dsimp only at y0 y1
            clear hd1 hat his hfo hcm
            replace kX := Lib.hid kX
            replace tX := Lib.hid tX
            have hne : Hid (q5 ≠ qd) := hqd.out.1
            have hq5 : Hid (w.heap.size ≤ q5) := ch6.out.lo
            go_wp2_with fail
            refine hhd.out.mono ?_
            rintro e w7 ⟨rfl, b7⟩
            have ba := b7.alloc b7.size (.cells #[.int .i64 v0, .int .i64 v1] 26)
            have kM := Lib.hid (Blk.new w7 #[.int .i64 v0, .int .i64 v1] 26)
            have kX8 := Lib.hid (kX.out.below ba)
            have tX8 := Lib.hid (tX.out.below ba)
            have kD8 := Lib.hid (kD6.out.below ba)
            have t8 := Lib.hid (t6.out.below ba)
            have ch8 := Lib.hid (ch6.out.below ba)
            clear ba b7 y0 y1 kX tX kD6 t6 ch6 hhd
            go_upto_region 17 with fail
            generalize w7.alloc _ = w8 at *
            generalize w7.heap.size = qm at *
            have y0 := kX8.out.cell 0
            have y1 := kX8.out.cell 1
            have z0 := kM.out.cell 0
            have z1 := kM.out.cell 1
            have hpx := hpl.out _ tX8.out
            replace hpx := Lib.hid hpx
            go_wp2_with fail
            refine hpx.out.mono ?_
            rintro e w9 ⟨rfl, b9⟩
            have kX9 := Lib.hid (kX8.out.below b9)
            have tX9 := Lib.hid (tX8.out.below b9)
            have kD9 := Lib.hid (kD8.out.below b9)
            have t9 := Lib.hid (t8.out.below b9)
            have ch9 := Lib.hid (ch8.out.below b9)
            clear b9 y0 y1 z0 z1 kM kX8 tX8 kD8 t8 ch8 hpx
            obtain ⟨g, off', rfl, -, -, c2⟩ := tX9.out j hj
            rw [hd2] at c2
            have y0 := kX9.out.cell 0
            have y1 := kX9.out.cell 1
            have z0 := kD9.out.cell 0
            have z1 := kD9.out.cell 1
            have hfx := Lib.hid (hfl2.out _ tX9.out t9.out)
            go_wp2_with fail
            refine hfx.out.mono ?_
            rintro e wa ⟨rfl, b9⟩
            have kXa := Lib.hid (kX9.out.below b9)
            have kDa := Lib.hid (kD9.out.below b9)
            have ta := Lib.hid (t9.out.below b9)
            have cha := Lib.hid (ch9.out.below b9)
            clear b9 y0 y1 z0 z1 c2 kX9 tX9 kD9 t9 ch9 hfx
            have y0 := kXa.out.cell 0
            have y1 := kXa.out.cell 1
            have f0 := kXa.out.fz 0
            have f1 := kXa.out.fz 1
            have z0 := kDa.out.cell 0
            have z1 := kDa.out.cell 1
            go_wp2_with fail
            refine ⟨⟨k + 1, d, by go_num, by omega, hD, Lib.hid ⟨⟨p6, n6, kXa.out.set.set, (ta.out.setz kXa.out (Nat.le_refl 2)).setz kXa.out.set (by simp), h6.out⟩, bset (bset cha.out.b hq5.out) hq5.out, hq5.out⟩⟩, by simp [intOf]; omega⟩
          · have hne : (er != 0) = true := by rw [bne_iff_ne]; exact her
            replace her := Lib.hid her
            go_wp2_with fail
            exact ⟨⟨k + 1, ⟨e0, l⟩, by go_num, by omega, hr, ch6⟩, by simp [intOf]; omega⟩
      · have hke : k = f.length := by omega
        go_wp2_with fail
        go_ret
        exact ⟨rfl, ch4.out.b⟩

set_option maxRecDepth 100000 in
theorem lifted (os : Os) (started : os.Started) (H : Type) (enc : TypeId × Value → H) :
    ReturnsInHanded {} Try.checked os 7 .any (Rows.configHeadSpec.pre6 enc Try.prog Try.f7 Rows.configHeadRow.domain false) (Rows.configHeadSpec.post enc Try.prog Try.f7 false true false false) := by
  refine returnsInHanded_of_change (C := Try.checked) own started (by kernel_rfl) Try.func7
    (ChangeSpec.witness6 (enc := enc) (C := Try.checked) false ⟨#[], #[.int .i64 0, .slice none 0 0], []⟩ 8 (by kernel_rfl) (by kernel_rfl) (by kernel_rfl) (by kernel_rfl)) ?_
  intro W base args ds gs before hval0 hW _ _
  have hval : ∀ (j : Nat) t v, Try.f7.params[j]? = some t → args[j]? = some v → Value.okWide Try.prog W .any base t v := hval0
  have hW' := hW
  obtain ⟨p, q, hA0, hV, rfl, hfz, hnd⟩ := hW
  have hA : DataW.TrodAll enc Try.prog W 0 (fun _ => true) true Try.f7.params.toList args.toList ds p := hA0
  rw [Try.params7] at hA hval
  obtain ⟨v0, vs0, d0, ds0, p0, q0, hargs, rfl, rfl, h0, r0⟩ := trodAll_cons hA
  obtain ⟨v1, vs1, d1, ds1, p1, q1, rfl, rfl, rfl, h1, r1⟩ := trodAll_cons r0
  obtain ⟨rfl, rfl, rfl⟩ := trodAll_nil r1
  obtain rfl : args = #[v0, v1] := by cases args; simp_all
  obtain ⟨rfl, rfl⟩ := trodVars_none hV
  have k0 := h0
  have lt0 : ∀ x ∈ p0, x.block < W.heap.size := by obtain ⟨m, hm⟩ := k0; exact DataW.trod_lt m _ _ _ hm
  obtain ⟨a0, rfl, -, -, w0⟩ := open_int Try.underlying3 (hval 0 3 v0 rfl rfl) h0
  have k1 := h1
  have lt1 : ∀ x ∈ p1, x.block < W.heap.size := by obtain ⟨m, hm⟩ := k1; exact DataW.trod_lt m _ _ _ hm
  obtain ⟨a1, len1, cap1, rfl⟩ := okWide_slice Try.underlying65 (hval 1 65 v1 rfl rfl)
  obtain ⟨f1, rfl, w1, hc1, ln1⟩ : ∃ f : List SpN, f.length = len1 ∧ Sps W a1 f ∧ len1 ≤ cap1 ∧ len1 ≤ 9223372036854775807 := by
    obtain ⟨fuel, hf⟩ := h1
    exact steps_of hf
  clear hA0 hval0
  refine (walk a0 a1 cap1 f1 W w0 w1 hc1 ln1).mono fun e W' ⟨he, bel⟩ => ?_
  subst he
  exact ⟨_, rfl, _, _, _, [], _, [], hW', trodAll_mk1 (shut_bool Try.underlying4 _), (trodAll_cons_mk (Below.trod laidOut11 (by kernel_rfl) (of_decide_eq_true (by kernel_rfl)) k0 bel lt0) (trodAll_cons_mk (Below.trod laidOut11 (by kernel_rfl) (of_decide_eq_true (by kernel_rfl)) k1 bel lt1) trodAll_mk0)), rfl, bel.frame _, fun h => by cases h⟩

theorem over : Rows.configHeadRow.holds Try.pinned (OpenSpec.ofChange Rows.configHeadSpec) :=
  OpenClaim.holds_of_wide 7 Try.f7 rfl rfl rfl rfl rfl rfl rfl ⟨rfl, rfl, rfl, rfl, rfl⟩ rfl rfl rfl rfl rfl (by kernel_rfl) Try.func7 (by kernel_rfl)
    (of_decide_eq_true (by kernel_rfl)) (by unfold Func.isWrapper; first | (rw [if_pos (by decide +kernel)]; kernel_rfl) | (rw [if_neg (by decide +kernel)]; exact ⟨rfl, rfl⟩))
    (fun os started H enc _ => lifted os started H enc)

/-- The statement. -/
theorem proved : Rows.ConfigHeadSaid := over
#print axioms proved
end Go.Proofs.Ytnagidgffkffhaa.G.configHead
