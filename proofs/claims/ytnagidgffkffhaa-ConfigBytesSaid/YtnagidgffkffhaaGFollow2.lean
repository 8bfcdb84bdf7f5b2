/-
  Layer 11: config's leftOut, joined and Follows. Condition: chains of at most 2^62 seats.
-/
import Derived.Test.YtnagidgffkffhaaGFollow
set_option linter.unusedVariables false
set_option linter.unusedSimpArgs false
namespace Go.Proofs.Ytnagidgffkffhaa.G
open Go.RowKit Cfg
set_option maxRecDepth 100000

set_option maxHeartbeats 4000000 in
theorem left_any (p q : Option Addr) (pc qc : Nat) (a b : List StN) (w : World) (t : Chn w p a) (u : Chn w q b) (hpc : a.length ≤ pc) (ha : a.length ≤ 1000) (hb : b.length ≤ 1000) :
    Calls Try.prog 52 #[.slice p a.length pc, .slice q b.length qc] w fun e w' => e = .returned (.bool (subN b a)) ∧ Below w.heap.size w w' := by
  have b0 := Lib.hid (Below.refl w.heap.size w)
  have hbI : (b.length : Int) ≤ 1000 := by omega
  obtain ⟨R, hR⟩ : ∃ R, subN b a = R := ⟨_, rfl⟩
  rw [hR]
  replace hR := Lib.hid hR
  replace t := Lib.hid t
  replace u := Lib.hid u
  go_enter Try.func52, Try.ntmps52
  go_wp2_with fail
  go_loopw [0, 10] (fun s v wr => ∃ (k : Nat) (A : List StN) (p' : Option Addr) (c' : Nat), s = .slice p' A.length c' ∧ v = .int .i64 k ∧ (k : Int) ≤ b.length ∧ Hid (A.length ≤ c') ∧ Hid (A.length ≤ 1000) ∧ Hid (Chn wr p' A) ∧ Hid (subN (b.drop k) A = R) ∧ Hid (Below w.heap.size w wr)) (fun _ v _ => ((b.length : Int) - intOf v).toNat)
  case atStart => exact ⟨0, a, p, pc, rfl, rfl, by omega, hpc, ha, t, hR, b0⟩
  case round =>
    obtain ⟨k, A, p', c', rfl, rfl, hk, hc', hA, tA, hs, b2⟩ := hrel
    clear b0
    by_cases hlt : (k : Int) < b.length
    · have hkb : k < b.length := by omega
      obtain ⟨g, off, rfl, c0, c1, c2⟩ := (u.out.below b2.out) k hkb
      have hd : Hid (subN (b[k] :: b.drop (k + 1)) A = R) := by rw [← List.drop_eq_getElem_cons hkb]; exact hs
      generalize b[k] = x at *
      have bx : Below wr.heap.size wr (wr.alloc (.cells (stC x) 70)) := (Below.refl _ _).alloc (Nat.le_refl _) _
      have b3 := Lib.hid (b2.out.trans (bx.mono b2.out.size))
      have kb := Lib.hid (Blk.new wr (stC x) 70)
      have tA3 := Lib.hid (tA.out.below bx)
      have hix := Lib.hid (idxSt_any p' c' A x _ tA3.out (by have := hA.out; omega))
      have hrg := ixN_range (fun y => decide (x = y)) A
      clear bx hs
      generalize ixN (fun y => decide (x = y)) A = J at *
      obtain ⟨⟨x0, x1⟩, x2⟩ := x
      simp only at c0 c1 c2 kb
      have z0 := kb.out.cell 0
      have z1 := kb.out.cell 1
      have z2 := kb.out.cell 2
      go_upto_region 4 with fail
      clear c0 c1 c2
      generalize wr.alloc _ = w3 at *
      rcases hrg with ⟨hJ, hno⟩ | ⟨j, hj, hJ, hyes, hbef⟩
      · have e : Hid (false = R) := by rw [← hd.out]; exact (subN_no hno).symm
        clear hno
        subst hJ
        go_wp2_with fail
        refine hix.out.mono ?_
        rintro e w4 ⟨rfl, b4⟩
        go_wp2_with fail
        go_ret
        exact ⟨by rw [← e.out]; rfl, b3.out.trans (b4.mono b3.out.size)⟩
      · have e : Hid (subN (b.drop (k + 1)) (A.drop (j + 1)) = R) := by rw [← hd.out]; exact (subN_at hj hyes hbef).symm
        clear hyes hbef
        subst hJ
        have hjI : (j : Int) < A.length := by omega
        have hjc : (j : Int) + 1 ≤ A.length := by omega
        have hA1 : (A.length : Int) ≤ 1000 := by have := hA.out; omega
        have hlc : (A.length : Int) ≤ c' := by have := hc'.out; omega
        have hw1 : IntKind.i64.wrap ((j : Int) + 1) = ((j + 1 : Nat) : Int) := by rw [IntWalk.i64_in _ (by omega)]; omega
        have hln : (A.drop (j + 1)).length = A.length - (j + 1) := List.length_drop
        obtain ⟨g2, off2, hp2, -, -, -⟩ := tA3.out j hj
        subst hp2
        replace hj := Lib.hid hj
        go_wp2_with fail
        refine hix.out.mono ?_
        rintro e w4 ⟨rfl, b4⟩
        have b5 := Lib.hid (b3.out.trans (b4.mono b3.out.size))
        have tA4 := Lib.hid (tA3.out.below b4)
        clear b4 hix z0 z1 z2
        go_upto_region 7 with fail
        by_cases hcc : c' = j + 1
        · have hAj : A.length = j + 1 := by omega
          have hcI : (c' : Int) = ((j + 1 : Nat) : Int) := by omega
          go_wp2_with fail
          have hd0 : A.drop (j + 1) = [] := List.drop_eq_nil_of_le (by omega)
          rw [hd0] at e
          exact ⟨⟨k + 1, [], some ⟨g2, off2, none⟩, 0, rfl, by go_num, by omega, Nat.le_refl _, Nat.zero_le _, Chn.nil _ _, e, b5⟩, by simp [intOf]; omega⟩
        · have hcI : ((j + 1 : Nat) : Int) < c' := by omega
          go_wp2_with fail
          exact ⟨⟨k + 1, A.drop (j + 1), some ⟨g2, off2 + (j + 1) * 3, none⟩, c' - (j + 1), by rw [hln], by go_num, by omega, by have := hc'.out; show _ ≤ _; omega, by have := hA.out; show _ ≤ _; omega, tA4.out.drop (j + 1), e, b5⟩, by simp [intOf]; omega⟩
    · obtain rfl : k = b.length := by omega
      have e : Hid (true = R) := by
        have := hs.out
        rw [List.drop_length, subN_nil] at this
        exact this
      go_wp2_with fail
      go_ret
      exact ⟨by rw [← e.out]; rfl, b2.out⟩

set_option maxHeartbeats 4000000 in
theorem joined_any (p q : Option Addr) (pc qc : Nat) (a b : List StN) (w : World) (t : Chn w p a) (u : Chn w q b) (hqc : b.length ≤ qc) (ha : a.length ≤ 1000) (hb : b.length ≤ 1000) :
    Calls Try.prog 53 #[.slice p a.length pc, .slice q b.length qc] w fun e w' => e = .returned (.bool (joinedN a b)) ∧ Below w.heap.size w w' := by
  have b0 := Lib.hid (Below.refl w.heap.size w)
  have hbI : (b.length : Int) ≤ 1000 := by omega
  have haI : (a.length : Int) ≤ 1000 := by omega
  have hw1 : IntKind.i64.wrap ((b.length : Int) - 1) = (b.length : Int) - 1 := IntWalk.i64_in _ (by omega)
  have hj : Hid (joinedN a b = (decide (b.length = a.length + 1) && (decide (a = b.take a.length) && !(b.getD a.length default).syn))) := rfl
  by_cases hlen : (b.length : Int) - 1 = a.length
  · have hlen2 : b.length = a.length + 1 := by omega
    have hlq : (((b.length : Int) - 1) == (a.length : Int)) = true := by rw [beq_iff_eq]; exact hlen
    have hab : a.length < b.length := by omega
    have htl : (b.take a.length).length = a.length := by rw [List.length_take]; omega
    have hc := equal_any p q pc qc a (b.take a.length) w t (u.take _) (by omega) (by omega)
    rw [htl] at hc
    replace hc := Lib.hid hc
    have hqI : (a.length : Int) ≤ qc := by omega
    have hj2 : Hid (joinedN a b = (decide (a = b.take a.length) && !b[a.length].syn)) := by rw [hj.out, decide_eq_true hlen2, getD_eq hab]; rfl
    obtain ⟨g, off, rfl, -, -, -⟩ := u a.length hab
    generalize decide (a = b.take a.length) = r at *
    replace t := Lib.hid t
    replace u := Lib.hid u
    replace htl := Lib.hid htl
    have habI : (a.length : Int) < b.length := by omega
    have hbe : (b.length : Int) = (a.length : Int) + 1 := by omega
    rw [hlen] at hw1
    clear hj
    generalize hJ : joinedN a b = J at *
    clear hJ
    go_enter Try.func53, Try.ntmps53
    go_wp2_with fail
    refine hc.out.mono ?_
    rintro e w2 ⟨rfl, b2⟩
    cases r with
    | false =>
      go_wp2_with fail
      go_ret
      exact ⟨by rw [hj2.out]; rfl, b2⟩
    | true =>
      obtain ⟨g', off', eb, -, -, c2⟩ := (u.out.below b2) a.length hab
      injection eb with eb; injection eb with eb1 eb2; subst eb1 eb2
      have b3 := Lib.hid b2
      clear b2
      cases hs : b[a.length].syn with
      | true =>
        rw [hs] at c2 hj2
        clear hs
        go_wp2_with fail
        go_ret
        exact ⟨by rw [hj2.out]; rfl, b3.out⟩
      | false =>
        rw [hs] at c2 hj2
        clear hs
        go_wp2_with fail
        go_ret
        exact ⟨by rw [hj2.out]; rfl, b3.out⟩
  · have hlq : (((b.length : Int) - 1) == (a.length : Int)) = false := by rw [beq_eq_false_iff_ne]; exact hlen
    have hj2 : Hid (joinedN a b = false) := by rw [hj.out, decide_eq_false (by omega)]; rfl
    clear hj
    replace t := Lib.hid t
    replace u := Lib.hid u
    replace hlen := Lib.hid hlen
    go_enter Try.func53, Try.ntmps53
    go_wp2_with fail
    go_ret
    exact ⟨by rw [hj2.out]; rfl, b0.out⟩

/-- Two chains in blocks of their own. -/
structure Bw (w : World) (va vb : Value) (e0 e1 : Int) (w3 : World) : Prop where
  k : Blk w3 w.heap.size #[.int .i64 e0, va] 24
  z : Blk w3 (w.heap.size + 1) #[.int .i64 e1, vb] 24
  b : Below w.heap.size w w3
theorem Bw.new (w : World) (va vb : Value) (e0 e1 : Int) : Bw w va vb e0 e1 ((w.alloc (.cells #[.int .i64 e0, va] 24)).alloc (.cells #[.int .i64 e1, vb] 24)) := by
  have ba := (Below.refl w.heap.size w).alloc (Nat.le_refl _) (.cells #[.int .i64 e0, va] 24)
  have bb := ba.alloc ba.size (.cells #[.int .i64 e1, vb] 24)
  have x1 := Blk.new w #[.int .i64 e0, va] 24
  have x2 := Blk.new (w.alloc (.cells #[.int .i64 e0, va] 24)) #[.int .i64 e1, vb] 24
  have y1 := x1.below ((Below.refl _ _).alloc (Nat.le_refl _) (.cells #[.int .i64 e1, vb] 24))
  simp only [World.size_alloc] at x2
  exact ⟨y1, x2, bb⟩
theorem Bw.below {w w3 w4 : World} {va vb : Value} {e0 e1 : Int} (h : Bw w va vb e0 e1 w3) (k : Below w3.heap.size w3 w4) : Bw w va vb e0 e1 w4 := ⟨h.k.below k, h.z.below k, h.b.trans (k.mono h.b.size)⟩
set_option maxHeartbeats 4000000 in
theorem follows_any (a b : CfN) (p q : Option Addr) (pc qc : Nat) (w : World) (t : Chn w p a.l) (u : Chn w q b.l) (hpc : a.l.length ≤ pc) (hqc : b.l.length ≤ qc) (ha : a.l.length ≤ 4611686018427387904) (hb : b.l.length ≤ 4611686018427387904) :
    Calls Try.prog 31 #[cfV a p pc, cfV b q qc] w fun e w' => e = .returned (.bool (followsN a b)) ∧ Below w.heap.size w w' := by
  have x := Lib.hid (Bw.new w (.slice p a.l.length pc) (.slice q b.l.length qc) a.epoch b.epoch)
  have hRa : Hid (∀ W, Chn W p a.l → Calls Try.prog 21 #[.agg #[.int .i64 a.epoch, .slice p a.l.length pc]] W fun e w' => e = .returned (.bool (rightN a)) ∧ Below W.heap.size W w') := fun W tW => right_any a p pc W tW hpc ha
  have hRb : Hid (∀ W, Chn W q b.l → Calls Try.prog 21 #[.agg #[.int .i64 b.epoch, .slice q b.l.length qc]] W fun e w' => e = .returned (.bool (rightN b)) ∧ Below W.heap.size W w') := fun W tW => right_any b q qc W tW hqc hb
  have hF : Hid (followsN a b = (rightN a && (rightN b && if b.epoch = a.epoch then onceN a.l b.l else if b.epoch = a.epoch + 1 then subN b.l a.l || joinedN a.l b.l else false))) := rfl
  have hra : Hid (rightN a = true → RightP a) := fun h => right_iff.1 h
  have hrb : Hid (rightN b = true → RightP b) := fun h => right_iff.1 h
  generalize rightN a = ra at *
  generalize rightN b = rb at *
  have t2 := Lib.hid (t.below x.out.b)
  have u2 := Lib.hid (u.below x.out.b)
  replace t := Lib.hid t
  replace u := Lib.hid u
  obtain ⟨e0, l⟩ := a
  obtain ⟨e1, m⟩ := b
  obtain ⟨J, hJ⟩ : ∃ J, followsN ⟨e0, l⟩ ⟨e1, m⟩ = J := ⟨_, rfl⟩
  rw [hJ] at hF
  rw [hJ]
  clear hJ
  replace hpc := Lib.hid hpc
  replace hqc := Lib.hid hqc
  replace ha := Lib.hid ha
  replace hb := Lib.hid hb
  have y0 := x.out.k.cell 0
  have y1 := x.out.k.cell 1
  try dsimp only at y0 y1 hF
  go_enter Try.func31, Try.ntmps31
  go_wp2_with fail
  refine (hRa.out _ t2.out).mono ?_
  rintro e w2 ⟨rfl, b2⟩
  have x2 := Lib.hid (x.out.below b2)
  have t3 := Lib.hid (t2.out.below b2)
  have u3 := Lib.hid (u2.out.below b2)
  clear b2 x t2 u2 y0 y1
  cases ra with
  | false =>
    go_wp2_with fail
    go_ret
    exact ⟨by rw [hF.out]; rfl, x2.out.b⟩
  | true =>
  have z0 := x2.out.z.cell 0
  have z1 := x2.out.z.cell 1
  try dsimp only at z0 z1
  go_wp2_with fail
  refine (hRb.out _ u3.out).mono ?_
  rintro e w3 ⟨rfl, b3⟩
  have x3 := Lib.hid (x2.out.below b3)
  have t4 := Lib.hid (t3.out.below b3)
  have u4 := Lib.hid (u3.out.below b3)
  clear b3 x2 t3 u3 z0 z1
  cases rb with
  | false =>
    go_wp2_with fail
    go_ret
    exact ⟨by rw [hF.out]; rfl, x3.out.b⟩
  | true =>
  have pa := hra.out (by first | rfl | trivial)
  have pb := hrb.out (by first | rfl | trivial)
  have hl8 : l.length ≤ 8 := pa.n2
  have hm8 : m.length ≤ 8 := pb.n2
  have ea1 : 1 ≤ e0 := pa.e1
  have ea2 : e0 ≤ 1099511627776 := pa.e2
  have eb1 : 1 ≤ e1 := pb.e1
  have eb2 : e1 ≤ 1099511627776 := pb.e2
  replace pa := Lib.hid pa
  replace pb := Lib.hid pb
  clear hra hrb
  have hw1 : IntKind.i64.wrap (e1 - e0) = e1 - e0 := IntWalk.i64_in _ (by omega)
  have y0 := x3.out.k.cell 0
  have y1 := x3.out.k.cell 1
  have z0 := x3.out.z.cell 0
  have z1 := x3.out.z.cell 1
  try dsimp only at y0 y1 z0 z1 t4 u4 hpc hqc
  by_cases h0 : e1 = e0
  · have hd : e1 - e0 = 0 := by omega
    rw [hd] at hw1
    have hF2 : Hid (J = onceN l m) := by rw [hF.out, if_pos h0]; rfl
    have hc := Lib.hid (once_any p q pc qc l m w3 t4.out u4.out (by omega) (by omega))
    subst h0
    clear hF
    go_wp2_with fail
    refine hc.out.mono ?_
    rintro e w5 ⟨rfl, b5⟩
    go_wp2_with fail
    go_ret
    exact ⟨by rw [hF2.out]; rfl, x3.out.b.trans (b5.mono x3.out.b.size)⟩
  · have hd0 : ((e1 - e0) == 0) = false := by rw [beq_eq_false_iff_ne]; omega
    by_cases h1 : e1 = e0 + 1
    · have hd : e1 - e0 = 1 := by omega
      rw [hd] at hw1
      have hF2 : Hid (J = (subN m l || joinedN l m)) := by rw [hF.out, if_neg h0, if_pos h1]; rfl
      have hc := Lib.hid (left_any p q pc qc l m w3 t4.out u4.out hpc.out (by omega) (by omega))
      replace h0 := Lib.hid h0
      clear hF hd0
      subst h1
      go_wp2_with fail
      refine hc.out.mono ?_
      rintro e w5 ⟨rfl, b5⟩
      have x5 := Lib.hid (x3.out.below b5)
      have hc5 := Lib.hid (joined_any p q pc qc l m w5 (t4.out.below b5) (u4.out.below b5) hqc.out (by omega) (by omega))
      clear b5 y0 y1 z0 z1 hc x3
      generalize subN m l = r at *
      cases r with
      | true =>
        go_wp2_with fail
        go_ret
        exact ⟨by rw [hF2.out]; rfl, x5.out.b⟩
      | false =>
        have y1 := x5.out.k.cell 1
        have z1 := x5.out.z.cell 1
        try dsimp only at y1 z1
        go_wp2_with fail
        refine hc5.out.mono ?_
        rintro e w6 ⟨rfl, b6⟩
        go_wp2_with fail
        go_ret
        exact ⟨by rw [hF2.out]; rfl, x5.out.b.trans (b6.mono x5.out.b.size)⟩
    · have hd1 : ((e1 - e0) == 1) = false := by rw [beq_eq_false_iff_ne]; omega
      have hF2 : Hid (J = false) := by rw [hF.out, if_neg h0, if_neg h1]; rfl
      replace h0 := Lib.hid h0
      replace h1 := Lib.hid h1
      clear hF
      go_wp2_with fail
      go_ret
      exact ⟨by rw [hF2.out]; rfl, x3.out.b⟩
end Go.Proofs.Ytnagidgffkffhaa.G
