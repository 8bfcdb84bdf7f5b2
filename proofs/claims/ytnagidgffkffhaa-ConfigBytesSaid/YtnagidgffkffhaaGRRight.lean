/-
  Layer 11: whether a chain is right: the document's Right. Condition: chains of at most 2^62 seats.
-/
import Derived.Test.YtnagidgffkffhaaGRight
set_option linter.unusedVariables false
set_option linter.unusedSimpArgs false
namespace Go.Proofs.Ytnagidgffkffhaa.G
open Go.RowKit Cfg
set_option maxRecDepth 100000

set_option maxHeartbeats 8000000 in
theorem refRight_any (c : CfN) (p : Option Addr) (cap : Nat) (w : World) (t : Chn w p c.l) (hcap : c.l.length ≤ cap) (hl : c.l.length ≤ 4611686018427387904) :
    Calls Try.prog 22 #[cfV c p cap] w fun e w' => e = .returned (.bool (rightN c)) ∧ Below w.heap.size w w' := by
  obtain ⟨e0, l⟩ := c
  replace t : Chn w p l := t
  replace hl : l.length ≤ 4611686018427387904 := hl
  replace hcap : l.length ≤ cap := hcap
  have x := Lib.hid (Bx1.new w e0 p l.length cap)
  have hlI : (l.length : Int) ≤ 4611686018427387904 := by omega
  by_cases hA : e0 < 1
  · rw [not_right (c := ⟨e0, l⟩) fun h => by have := h.e1; dsimp only at this; omega]
    replace t := Lib.hid t
    go_enter Try.func22, Try.ntmps22
    go_wp2_with fail
    go_ret
    exact ⟨rfl, x.out.b⟩
  by_cases hB : 1099511627776 < e0
  · rw [not_right (c := ⟨e0, l⟩) fun h => by have := h.e2; dsimp only at this; omega]
    replace t := Lib.hid t
    go_enter Try.func22, Try.ntmps22
    go_wp2_with fail
    go_ret
    exact ⟨rfl, x.out.b⟩
  by_cases hC : (l.length : Int) < 1
  · rw [not_right (c := ⟨e0, l⟩) fun h => by have := h.n1; dsimp only at this; omega]
    replace t := Lib.hid t
    go_enter Try.func22, Try.ntmps22
    go_wp2_with fail
    go_ret
    exact ⟨rfl, x.out.b⟩
  by_cases hD : 8 < (l.length : Int)
  · rw [not_right (c := ⟨e0, l⟩) fun h => by have := h.n2; dsimp only at this; omega]
    replace t := Lib.hid t
    go_enter Try.func22, Try.ntmps22
    go_wp2_with fail
    go_ret
    exact ⟨rfl, x.out.b⟩
  have hp0 : 0 < l.length := by omega
  obtain ⟨b, off, rfl, c0, c1, c2⟩ := (t.below x.out.b) 0 hp0
  simp only [Nat.zero_mul, Nat.add_zero] at c0 c1 c2
  have h0g : 0 < (l.length : Int) := by omega
  cases hE : l[0].syn with
  | false =>
    rw [not_right (c := ⟨e0, l⟩) fun h => by have := h.hd; rw [getD_eq hp0, hE] at this; cases this]
    rw [hE] at c2
    clear hE c0 c1
    replace t := Lib.hid t
    go_enter Try.func22, Try.ntmps22
    go_wp2_with fail
    go_ret
    exact ⟨rfl, x.out.b⟩
  | true =>
    rw [hE] at c2
    obtain ⟨R, hR⟩ : ∃ R, rightN ⟨e0, l⟩ = R := ⟨_, rfl⟩
    have hend : Hid (upTo l l.length = R) := by
      rw [← hR]
      unfold rightN
      rw [decide_eq_true (show 1 ≤ e0 by omega), decide_eq_true (show e0 ≤ 1099511627776 by omega), decide_eq_true (show 1 ≤ l.length by omega), decide_eq_true (show l.length ≤ 8 by omega), getD_eq hp0, hE]
      rfl
    rw [hR]
    clear hE c0 c1 hR
    have hup : Hid (∀ k, k < l.length → fitN l k = false → false = R) := fun k hk h => by rw [← hend.out]; exact (upTo_no h hk).symm
    have hfit : Hid (∀ k (hk : k < l.length), fitN l k = (mayN l[k].m && !sitsN (l.take k) l[k].m.node)) := fun k hk => by unfold fitN; rw [getD_eq hk]
    have hst : Hid (∀ k, upTo l k = true → fitN l k = true → upTo l (k + 1) = true) := fun k h1 h2 => by show (upTo l k && fitN l k) = true; rw [h1, h2]; rfl
    have hm := Lib.hid (fun m W => may_any m W)
    have y1 := x.out.c1
    replace t := Lib.hid t
    replace hl := Lib.hid hl
    replace hcap := Lib.hid hcap
    go_enter Try.func22, Try.ntmps22
    go_wp2_with fail
    clear c2 y1
    generalize w.alloc _ = w2 at *
    go_loopw [3] (fun v wr => ∃ k : Nat, v = .int .i64 k ∧ (k : Int) ≤ l.length ∧ Hid (upTo l k = true) ∧ Hid (Bx1 w e0 (some ⟨b, off, none⟩) l.length cap wr)) (fun v _ => ((l.length : Int) - intOf v).toNat)
    case atStart => exact ⟨0, rfl, by omega, rfl, x⟩
    case round =>
      obtain ⟨k, rfl, hk, hu, x2⟩ := hrel
      clear x
      have y1 := x2.out.c1
      by_cases hlt : (k : Int) < l.length
      · have hkl : k < l.length := by omega
        have t2 := t.out.below x2.out.b
        obtain ⟨b', off', hbo, c0, c1, c2⟩ := t2 k hkl
        injection hbo with hbo
        injection hbo with hb1 hb2
        subst hb1 hb2
        have hf := Lib.hid (hfit.out k hkl)
        have hno := Lib.hid (hup.out k hkl)
        have hnx := Lib.hid (hst.out k hu.out)
        have hsy : Hid (∀ j (hj : j < l.length), j < k → l[j].m.node = l[k].m.node → sitsN (l.take k) l[k].m.node = true) := fun j hj hlt e => sitsN_take.2 ⟨j, hj, hlt, e⟩
        have hsn : Hid ((∀ j (hj : j < l.length), j < k → l[j].m.node ≠ l[k].m.node) → sitsN (l.take k) l[k].m.node = false) := fun h => Bool.eq_false_iff.2 fun e => by
          obtain ⟨j, hj, hlt, e⟩ := sitsN_take.1 e
          exact h j hj hlt e
        generalize hs : l[k] = s at *
        obtain ⟨⟨s0, s1⟩, s2⟩ := s
        simp only at c0 c1 c2 hf hsy hsn
        replace hs := Lib.hid hs
        have hms := Lib.hid (hm.out ⟨s0, s1⟩ wr)
        generalize mayN ⟨s0, s1⟩ = q1 at *
        generalize sitsN (l.take k) s0 = q2 at *
        go_wp2_with fail
        refine hms.out.mono ?_
        rintro e w4 ⟨rfl, k4⟩
        have x3 := Lib.hid (x2.out.below k4)
        clear k4 x2 c0 c1 c2 t2 hms y1
        cases q1 with
        | false =>
          have hno2 := Lib.hid (hno.out (by rw [hf.out]; rfl))
          go_wp2_with fail
          go_ret
          exact ⟨by rw [← hno2.out]; rfl, x3.out.b⟩
        | true =>
          go_wp2_with fail
          go_loopw [4] (fun v wr => ∃ j : Nat, v = .int .i64 j ∧ (j : Int) ≤ k ∧ Hid (∀ i (hi : i < l.length), i < j → l[i].m.node ≠ s0) ∧ Hid (Bx1 w e0 (some ⟨b, off, none⟩) l.length cap wr)) (fun v _ => ((k : Int) - intOf v).toNat)
          case atStart => exact ⟨0, rfl, by omega, Lib.hid fun i hi h => by omega, x3⟩
          case round =>
            obtain ⟨j, rfl, hjk, hn, x4⟩ := hrel
            clear x3
            have y1 := x4.out.c1
            by_cases hjl : (j : Int) < k
            · have hj2 : j < l.length := by omega
              have t2 := t.out.below x4.out.b
              obtain ⟨b', off', hbo, c0, c1, c2⟩ := t2 k hkl
              injection hbo with hbo
              injection hbo with hb1 hb2
              subst hb1 hb2
              obtain ⟨b', off', hbo, d0, d1, d2⟩ := t2 j hj2
              injection hbo with hbo
              injection hbo with hb1 hb2
              subst hb1 hb2
              rw [hs.out] at c0
              have hjI : (j : Int) < l.length := by omega
              clear c1 c2 d1 d2 t2
              by_cases hqe : l[j].m.node = s0
              · have e2 := Lib.hid (hsy.out j hj2 (by omega) hqe)
                rw [hqe] at d0
                have hno2 := Lib.hid (hno.out (by rw [hf.out, e2.out]; rfl))
                replace hqe := Lib.hid hqe
                go_wp2_with fail
                go_quiet (fail)
                go_wp2_with fail
                go_ret
                exact ⟨by rw [← hno2.out]; rfl, x4.out.b.trans ((belowN nq).mono x4.out.b.size)⟩
              · have hn2 : Hid (∀ i (hi : i < l.length), i < j + 1 → l[i].m.node ≠ s0) := fun i hi h => by
                  rcases Nat.lt_or_ge i j with h1 | h1
                  · exact hn.out i hi h1
                  · obtain rfl : i = j := by omega
                    exact hqe
                generalize l[j].m.node = n1 at *
                have hq : (n1 == s0) = false := by simp [hqe]
                go_wp2_with fail
                go_quiet (fail)
                go_wp2_with fail
                exact ⟨⟨j + 1, by go_num, by omega, hn2, Lib.hid (x4.out.below (belowN nq))⟩, by simp [intOf]; omega⟩
            · obtain rfl : j = k := by omega
              have e2 := Lib.hid (hsn.out hn.out)
              have hnx2 := Lib.hid (hnx.out (by rw [hf.out, e2.out]; rfl))
              go_wp2_with fail
              exact ⟨⟨j + 1, by go_num, by omega, hnx2, x4⟩, by simp [intOf]; omega⟩
      · obtain rfl : k = l.length := by omega
        have e := Lib.hid (hend.out.symm.trans hu.out)
        go_wp2_with fail
        go_ret
        exact ⟨by rw [e.out]; rfl, x2.out.b⟩

end Go.Proofs.Ytnagidgffkffhaa.G
