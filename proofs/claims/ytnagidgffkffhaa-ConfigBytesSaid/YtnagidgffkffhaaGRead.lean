/-
  Layer 11: Read, the program's and the document's. Condition: at most 100000 bytes.
-/
import Derived.Test.YtnagidgffkffhaaGTakeR
set_option linter.unusedVariables false
set_option linter.unusedSimpArgs false
namespace Go.Proofs.Ytnagidgffkffhaa.G
open Go.RowKit Cod Cfg
set_option maxRecDepth 100000
set_option maxHeartbeats 4000000 in
theorem cfgRead_any (s : ByteArray) (w : World) (hs : s.size ≤ 100000) :
    Calls Try.prog 33 #[.string s] w fun e w' => AnsC (readP s) w e w' := by
  have z := Lib.hid (Blk.new w #[.int .i64 0, .slice none 0 0] 24)
  have ba := (Below.refl w.heap.size w).alloc (Nat.le_refl _) (.cells #[.int .i64 0, .slice none 0 0] 24)
  have hsz : Hid (w.heap.size < (w.alloc (.cells #[.int .i64 0, .slice none 0 0] 24)).heap.size) := by show _ < _; simp
  have B := Lib.hid ba
  have hT := take_rel ⟨s, 0⟩
  have hR : readP s = if (takeP ⟨s, 0⟩).2.e = 0 ∧ (takeP ⟨s, 0⟩).2.rest.size = 0 then ((takeP ⟨s, 0⟩).1, 0) else (zeroN, 3) := rfl
  have hc := fun b W tW => cfgTake_any b ⟨s, 0⟩ W tW
  generalize takeP ⟨s, 0⟩ = T at *
  obtain ⟨⟨ep, l⟩, E⟩ := T
  dsimp only at hR
  generalize readP s = X at *
  replace hc := Lib.hid hc
  replace hR := Lib.hid hR
  clear ba hT
  go_enter Try.func33, Try.ntmps33
  go_wp2_with fail
  generalize w.alloc _ = w0 at *
  refine (Go.Proofs.Ytnagidgffkffhaa.read_any s _ hs).mono ?_
  rintro e w1 ⟨b, rfl, hb, t1, b1⟩
  have hbz : Hid (w.heap.size ≠ b) := by have := hsz.out; show _ ≠ _; omega
  have hbl : Hid (w.heap.size ≤ b) := by have := hsz.out; show _ ≤ _; omega
  replace z := Lib.hid (z.out.below b1)
  replace B := Lib.hid (B.out.trans (b1.mono B.out.size))
  replace t1 := Lib.hid t1
  clear b1 hb
  go_wp2_with fail
  refine (hc.out b _ t1.out).mono ?_
  rintro e w2 ⟨⟨p8, n8, rfl, t8, h8, -⟩, rd, g⟩
  dsimp only at t8 h8 rd
  have bx := (Below.refl w2.heap.size w2).alloc (Nat.le_refl _) (.cells #[.int .i64 ep, .slice p8 l.length n8] 24)
  have kx := Lib.hid (Blk.new w2 #[.int .i64 ep, .slice p8 l.length n8] 24)
  replace z := Lib.hid ((z.out.kept g hbz.out).below bx)
  replace B := Lib.hid ((B.out.trans (g.below hbl.out B.out.size)).alloc (B.out.trans (g.below hbl.out B.out.size)).size (.cells #[.int .i64 ep, .slice p8 l.length n8] 24))
  replace rd := Lib.hid (rd.below bx)
  replace t8 := Lib.hid (t8.alloc (.cells #[.int .i64 ep, .slice p8 l.length n8] 24))
  replace h8 := Lib.hid h8
  clear bx g t1
  go_upto_region 3 with fail
  generalize w2.alloc _ = w3 at *
  generalize w2.heap.size = xq at *
  have x0 := kx.out.cell 0
  have x1 := kx.out.cell 1
  have y0 := z.out.cell 0
  have y1 := z.out.cell 1
  have f0 := z.out.fz 0
  have f1 := z.out.fz 1
  try dsimp only at x0 x1 y0 y1
  by_cases he : E.e = 0
  · have hne : (E.e != 0) = false := by rw [bne_eq_false_iff_eq]; exact he
    have hl : leftS E = (E.rest.size : Int) := by unfold leftS; rw [if_pos he]
    by_cases hr : E.rest.size = 0
    · have hl0 : leftS E = 0 := by rw [hl, hr]; rfl
      have hans : Hid (X = (⟨ep, l⟩, 0)) := by show _ = _; rw [hR.out, if_pos ⟨he, hr⟩]
      clear hl hR
      replace he := Lib.hid he
      replace hr := Lib.hid hr
      go_wp2_with (first | (go_at_call 38; refine (err_any b E _ rd.out).mono ?_; rintro e w8 ⟨rfl, rfl⟩) | (go_at_call 54; refine (Go.Proofs.Ytnagidgffkffhaa.left_any b E _ rd.out).mono ?_; rintro e w8 ⟨rfl, rfl⟩))
      refine bodyPost_ret (v := .tuple #[.agg #[.int .i64 ep, .slice p8 l.length n8], .int .i64 0]) ?_ rfl ?_
      · rw [results_cell_tmp rfl]
        go_simp
      · rw [hans.out]
        exact ⟨⟨p8, n8, rfl, (t8.out.setz z.out (Nat.le_refl 2)).setz z.out.set (by simp), h8.out⟩, bset (bset B.out (Nat.le_refl _)) (Nat.le_refl _)⟩
    · have hl0 : (0 : Int) < leftS E := by rw [hl]; omega
      have hans : Hid (X = (zeroN, 3)) := by show _ = _; rw [hR.out, if_neg (fun x => hr x.2)]
      clear hl hR
      replace he := Lib.hid he
      replace hr := Lib.hid hr
      go_wp2_with (first | (go_at_call 38; refine (err_any b E _ rd.out).mono ?_; rintro e w8 ⟨rfl, rfl⟩) | (go_at_call 54; refine (Go.Proofs.Ytnagidgffkffhaa.left_any b E _ rd.out).mono ?_; rintro e w8 ⟨rfl, rfl⟩))
      refine bodyPost_ret (v := .tuple #[.agg #[.int .i64 0, .slice none 0 0], .int .i64 3]) ?_ rfl ?_
      · rw [results_cell_tmp rfl]
        go_simp
      · rw [hans.out]
        exact AnsC.zero (bset (bset B.out (Nat.le_refl _)) (Nat.le_refl _))
  · have hne : (E.e != 0) = true := by rw [bne_iff_ne]; exact he
    have hans : Hid (X = (zeroN, 3)) := by show _ = _; rw [hR.out, if_neg (fun x => he x.1)]
    clear hR
    replace he := Lib.hid he
    go_wp2_with (first | (go_at_call 38; refine (err_any b E _ rd.out).mono ?_; rintro e w8 ⟨rfl, rfl⟩) | (go_at_call 54; refine (Go.Proofs.Ytnagidgffkffhaa.left_any b E _ rd.out).mono ?_; rintro e w8 ⟨rfl, rfl⟩))
    refine bodyPost_ret (v := .tuple #[.agg #[.int .i64 0, .slice none 0 0], .int .i64 3]) ?_ rfl ?_
    · rw [results_cell_tmp rfl]
      go_simp
    · rw [hans.out]
      exact AnsC.zero (bset (bset B.out (Nat.le_refl _)) (Nat.le_refl _))

/-- A chain and whether there is one. -/
def AnsB (x : CfN × Bool) (w : World) (e : Ending) (w' : World) : Prop := (∃ p cap, e = .returned (.tuple #[.agg #[.int .i64 x.1.epoch, .slice p x.1.l.length cap], .bool x.2]) ∧ Chn w' p x.1.l ∧ x.1.l.length ≤ cap) ∧ Below w.heap.size w w'
theorem AnsB.zero {w w' : World} (k : Below w.heap.size w w') : AnsB (zeroN, false) w (.returned (.tuple #[.agg #[.int .i64 0, .slice none 0 0], .bool false])) w' := ⟨⟨none, 0, rfl, Chn.nil _ _, Nat.le_refl _⟩, k⟩
theorem rf_new (w : World) (S : ByteArray) (hs : S.size ≤ 100000) : RfS (w.alloc (.cells #[.string S, .int .i64 0, .int .i64 0] 57)) w.heap.size S ⟨S, 0⟩ :=
  ⟨⟨0, ⟨by simp, by simp, by simp, by simp, fun o => by simp⟩, Nat.zero_le _, fun _ => by
    apply text_inj
    show bytesOf S = _
    rw [bytes_cut]; rfl⟩, hs⟩
set_option maxHeartbeats 4000000 in
theorem refRead_any (s : ByteArray) (w : World) (hs : s.size ≤ 100000) :
    Calls Try.prog 34 #[.string s] w fun e w' => AnsB (readR s) w e w' := by
  have z0 := Blk.new w #[.int .i64 0, .slice none 0 0] 24
  have ba := (Below.refl w.heap.size w).alloc (Nat.le_refl _) (.cells #[.int .i64 0, .slice none 0 0] 24)
  have hsz : (w.alloc (.cells #[.int .i64 0, .slice none 0 0] 24)).heap.size = w.heap.size + 1 := by simp
  have t0 := rf_new (w.alloc (.cells #[.int .i64 0, .slice none 0 0] 24)) s hs
  rw [hsz] at t0
  have z := Lib.hid (z0.alloc (.cells #[.int .i64 0, .slice none 0 0] 24))
  replace z := Lib.hid (z0.alloc (.cells #[.string s, .int .i64 0, .int .i64 0] 57))
  have B := Lib.hid (ba.alloc ba.size (.cells #[.string s, .int .i64 0, .int .i64 0] 57))
  have t1 := Lib.hid t0
  have hT : (∃ c st, takeR ⟨s, 0⟩ = some (c, st) ∧ st.e = 0) ∨ takeR ⟨s, 0⟩ = none := by
    rcases take_rel ⟨s, 0⟩ with ⟨h, _⟩ | ⟨c, st, h, _, h2, _⟩
    · exact .inr h
    · exact .inl ⟨c, st, h, h2⟩
  have hR : readR s = match takeR ⟨s, 0⟩ with | none => (zeroN, false) | some (c, st) => if st.rest.size = 0 then (c, true) else (zeroN, false) := rfl
  have hc := fun b W tW => refTake_any b s ⟨s, 0⟩ W tW
  generalize takeR ⟨s, 0⟩ = T at *
  generalize readR s = X at *
  replace hc := Lib.hid hc
  replace hR := Lib.hid hR
  replace hT := Lib.hid hT
  clear ba z0 t0 hsz
  go_enter Try.func34, Try.ntmps34
  go_wp2_with fail
  generalize (w.alloc _).alloc _ = w1 at *
  refine (hc.out _ _ t1.out).mono ?_
  rintro e w2 ⟨⟨p8, n8, rfl, t8, h8⟩, rd, g⟩
  have bx := (Below.refl w2.heap.size w2).alloc (Nat.le_refl _) (.cells #[.int .i64 (ansR T).epoch, .slice p8 (ansR T).l.length n8] 24)
  have kx := Lib.hid (Blk.new w2 #[.int .i64 (ansR T).epoch, .slice p8 (ansR T).l.length n8] 24)
  have B2 := B.out.trans (g.below (Nat.le_succ _) B.out.size)
  replace z := Lib.hid ((z.out.kept g (by omega)).below bx)
  replace B := Lib.hid (B2.alloc B2.size (.cells #[.int .i64 (ansR T).epoch, .slice p8 (ansR T).l.length n8] 24))
  have rd2 : Hid (∀ c s_1, T = some (c, s_1) → RfS (w2.alloc (.cells #[.int .i64 (ansR T).epoch, .slice p8 (ansR T).l.length n8] 24)) (w.heap.size + 1) s s_1) := fun c st h => (rd c st h).below bx
  replace t8 := Lib.hid (t8.alloc (.cells #[.int .i64 (ansR T).epoch, .slice p8 (ansR T).l.length n8] 24))
  replace h8 := Lib.hid h8
  clear bx g t1 rd B2 hc
  rcases hT.out with ⟨⟨ep, l⟩, E, rfl, he⟩ | rfl
  · have hans := Lib.hid hR.out
    obtain ⟨⟨a, rf, ha, hr⟩, -⟩ := rd2.out _ _ rfl
    have hsz : Hid (E.rest.size = s.size - a) := by show _ = _; rw [hr he, cutS_size]
    have ca := rf.c1
    have hs2 : (s.size : Int) ≤ 100000 := by omega
    have hk : Hid (a ≤ s.size) := ha
    clear hT hR rf hr ha rd2
    replace he := Lib.hid he
    go_upto_region 3 with fail
    generalize w2.alloc _ = w3 at *
    generalize w2.heap.size = xq at *
    have x0 := kx.out.cell 0
    have x1 := kx.out.cell 1
    have y0 := z.out.cell 0
    have y1 := z.out.cell 1
    have f0 := z.out.fz 0
    have f1 := z.out.fz 1
    try dsimp only [ansR] at x0 x1 y0 y1
    by_cases haeq : (a : Int) = s.size
    · have hq : ((a : Int) != (s.size : Int)) = false := by rw [bne_eq_false_iff_eq]; exact haeq
      have hans2 : Hid (X = (⟨ep, l⟩, true)) := by
        show _ = _
        rw [hans.out]
        try dsimp only
        rw [if_pos (by rw [hsz.out]; omega)]
      clear hans
      replace haeq := Lib.hid haeq
      go_wp2_with fail
      refine bodyPost_ret (v := .tuple #[.agg #[.int .i64 ep, .slice p8 l.length n8], .bool true]) ?_ rfl ?_
      · rw [results_cell_tmp rfl]
        go_simp
      · rw [hans2.out]
        exact ⟨⟨p8, n8, rfl, (t8.out.setz z.out (Nat.le_refl 2)).setz z.out.set (by simp), h8.out⟩, bset (bset B.out (Nat.le_refl _)) (Nat.le_refl _)⟩
    · have hq : ((a : Int) != (s.size : Int)) = true := by rw [bne_iff_ne]; exact haeq
      have hans2 : Hid (X = (zeroN, false)) := by
        show _ = _
        rw [hans.out]
        try dsimp only
        rw [if_neg (by rw [hsz.out]; have := hk.out; omega)]
      clear hans
      replace haeq := Lib.hid haeq
      go_wp2_with fail
      refine bodyPost_ret (v := .tuple #[.agg #[.int .i64 0, .slice none 0 0], .bool false]) ?_ rfl ?_
      · rw [results_cell_tmp rfl]
        go_simp
      · rw [hans2.out]
        exact AnsB.zero (bset (bset B.out (Nat.le_refl _)) (Nat.le_refl _))
  · have hans : Hid (X = (zeroN, false)) := hR.out
    clear hT hR rd2
    go_upto_region 3 with fail
    generalize w2.alloc _ = w3 at *
    generalize w2.heap.size = xq at *
    have y0 := z.out.cell 0
    have y1 := z.out.cell 1
    have f0 := z.out.fz 0
    have f1 := z.out.fz 1
    try dsimp only [ansR] at y0 y1
    go_wp2_with fail
    refine bodyPost_ret (v := .tuple #[.agg #[.int .i64 0, .slice none 0 0], .bool false]) ?_ rfl ?_
    · rw [results_cell_tmp rfl]
      go_simp
    · rw [hans.out]
      exact AnsB.zero (bset (bset B.out (Nat.le_refl _)) (Nat.le_refl _))
end Go.Proofs.Ytnagidgffkffhaa.G
