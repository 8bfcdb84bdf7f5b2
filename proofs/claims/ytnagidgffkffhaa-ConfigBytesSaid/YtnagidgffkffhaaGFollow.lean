/-
  Layer 11: config's Follows. Condition: chains of at most 2^62 seats.
-/
import Derived.Test.YtnagidgffkffhaaGTurn
import Derived.Test.YtnagidgffkffhaaGMath2
set_option linter.unusedVariables false
set_option linter.unusedSimpArgs false
namespace Go.Proofs.Ytnagidgffkffhaa.G
open Go.RowKit Cfg
set_option maxRecDepth 100000

set_option maxHeartbeats 4000000 in
theorem once_any (p q : Option Addr) (pc qc : Nat) (a b : List StN) (w : World) (t : Chn w p a) (u : Chn w q b) (ha : a.length ≤ 1000) (hb : b.length ≤ 1000) :
    Calls Try.prog 51 #[.slice p a.length pc, .slice q b.length qc] w fun e w' => e = .returned (.bool (onceN a b)) ∧ Below w.heap.size w w' := by
  have b0 := Lib.hid (Below.refl w.heap.size w)
  have haI : (a.length : Int) ≤ 1000 := by omega
  obtain ⟨R, hR⟩ : ∃ R, onceN a b = R := ⟨_, rfl⟩
  rw [hR]
  replace t := Lib.hid t
  replace u := Lib.hid u
  by_cases hlen : (a.length : Int) = b.length
  · have hlen2 : a.length = b.length := by omega
    have hno : Hid (∀ k, k < a.length → okSt (a.getD k default) (b.getD k default) = false → false = R) := fun k hk h => by
      rw [← hR]; unfold onceN; rw [okUp_no h hk]; simp
    have hye : Hid (okUp a b a.length = true → decide (moreN a b a.length ≤ 1) = R) := fun h => by
      rw [← hR]; unfold onceN; rw [h, decide_eq_true hlen2]; rfl
    clear hR
    have hne : ((a.length : Int) != b.length) = false := by rw [bne_eq_false_iff_eq]; exact hlen
    have hml := Lib.hid (moreN_le a b)
    have hmo : Hid (∀ k, moreN a b (k + 1) = moreN a b k + if b.getD k default = a.getD k default then 0 else 1) := fun k => rfl
    have hou : Hid (∀ k, okUp a b (k + 1) = (okUp a b k && okSt (a.getD k default) (b.getD k default))) := fun k => rfl
    replace hlen := Lib.hid hlen
    replace ha := Lib.hid ha
    replace hb := Lib.hid hb
    go_enter Try.func51, Try.ntmps51
    go_wp2_with fail
    clear hne
    go_loopw [5, 15] (fun m v wr => ∃ (k n : Nat), m = .int .i64 n ∧ (n : Int) ≤ k ∧ v = .int .i64 k ∧ (k : Int) ≤ a.length ∧ Hid (n = moreN a b k) ∧ Hid (okUp a b k = true) ∧ Hid (Below w.heap.size w wr)) (fun _ v _ => ((a.length : Int) - intOf v).toNat)
    case atStart => exact ⟨0, 0, rfl, by omega, rfl, by omega, rfl, rfl, b0⟩
    case round =>
      obtain ⟨k, n, rfl, hnk, rfl, hk, hn, hok, b2⟩ := hrel
      clear b0
      by_cases hlt : (k : Int) < a.length
      · have hka : k < a.length := by omega
        have hkb : k < b.length := by omega
        have hltb : (k : Int) < b.length := by omega
        obtain ⟨g, off, rfl, c0, c1, c2⟩ := (t.out.below b2.out) k hka
        have hno2 := Lib.hid (hno.out k hka)
        have hmo2 := Lib.hid (hmo.out k)
        have hou2 := Lib.hid (hou.out k)
        rw [getD_eq hka, getD_eq hkb] at hno2 hmo2 hou2
        generalize a[k] = x at *
        have bx : Below wr.heap.size wr (wr.alloc (.cells (stC x) 70)) := (Below.refl _ _).alloc (Nat.le_refl _) _
        obtain ⟨g', off', rfl, d0, d1, d2⟩ := ((u.out.below b2.out).below bx) k hkb
        have kb := Lib.hid (Blk.new wr (stC x) 70)
        have b3 := Lib.hid (b2.out.trans (bx.mono b2.out.size))
        clear bx
        generalize b[k] = y at *
        have hq1 := st_eq y x
        have hq2 := st_eq y ⟨x.m, true⟩
        obtain ⟨⟨x0, x1⟩, x2⟩ := x
        obtain ⟨⟨y0, y1⟩, y2⟩ := y
        simp only at c0 c1 c2 d0 d1 d2 hq2 kb
        have z0 := kb.out.cell 0
        have z1 := kb.out.cell 1
        have z2 := kb.out.cell 2
        by_cases he : (⟨⟨y0, y1⟩, y2⟩ : StN) = ⟨⟨x0, x1⟩, x2⟩
        · rw [decide_eq_true he] at hq1
          have e1 : Hid (moreN a b (k + 1) = n) := by rw [hmo2.out, if_pos he, ← hn.out]; rfl
          have e2 : Hid (okUp a b (k + 1) = true) := by rw [hou2.out, hok.out]; unfold okSt; rw [decide_eq_true he]; rfl
          replace he := Lib.hid he
          clear hq2
          go_upto_region 7 with fail
          clear c0 c1 c2
          generalize wr.alloc _ = w3 at *
          generalize wr.heap.size = s at *
          go_quiet (fail)
          have b4 := Lib.hid (b3.out.trans ((belowN nq).mono b3.out.size))
          go_wp2_with fail
          exact ⟨⟨k + 1, n, rfl, by omega, by go_num, by omega, e1.out.symm, e2, b4⟩, by simp [intOf]; omega⟩
        · rw [decide_eq_false he] at hq1
          by_cases hf : (⟨⟨y0, y1⟩, y2⟩ : StN) = ⟨⟨x0, x1⟩, true⟩
          · rw [decide_eq_true hf] at hq2
            have e1 : Hid (moreN a b (k + 1) = n + 1) := by rw [hmo2.out, if_neg he, ← hn.out]; rfl
            have e2 : Hid (okUp a b (k + 1) = true) := Lib.hid (show okUp a b (k + 1) = true by rw [hou2.out, hok.out]; unfold okSt; rw [decide_eq_true hf]; simp)
            replace he := Lib.hid he
            replace hf := Lib.hid hf
            go_upto_region 7 with fail
            clear c0 c1 c2
            generalize wr.alloc _ = w3 at *
            generalize wr.heap.size = s at *
            go_quiet (fail)
            have b4 := Lib.hid (b3.out.trans ((belowN nq).mono b3.out.size))
            have kb4 := Lib.hid (kb.out.below (belowN nq))
            replace d0 : (w3.drewN nq).cell? ⟨g', off' + k * 3, none⟩ = _ := d0
            replace d1 : (w3.drewN nq).cell? ⟨g', off' + k * 3 + 1, none⟩ = _ := d1
            replace d2 : (w3.drewN nq).cell? ⟨g', off' + k * 3 + 2, none⟩ = _ := d2
            replace z0 : (w3.drewN nq).cell? ⟨s, 0, none⟩ = _ := z0
            replace z1 : (w3.drewN nq).cell? ⟨s, 1, none⟩ = _ := z1
            generalize w3.drewN nq = w4 at *
            clear hq1
            go_upto_region 8 with fail
            go_quiet (fail)
            have b5 := Lib.hid (b4.out.trans ((belowN nq).mono b4.out.size))
            go_wp2_with fail
            exact ⟨⟨k + 1, n + 1, by go_num, by omega, by go_num, by omega, e1.out.symm, e2, b5⟩, by simp [intOf]; omega⟩
          · rw [decide_eq_false hf] at hq2
            have e := Lib.hid (hno2.out (by unfold okSt; rw [decide_eq_false he, decide_eq_false hf]; rfl))
            replace he := Lib.hid he
            replace hf := Lib.hid hf
            go_upto_region 7 with fail
            clear c0 c1 c2
            generalize wr.alloc _ = w3 at *
            generalize wr.heap.size = s at *
            go_quiet (fail)
            have b4 := Lib.hid (b3.out.trans ((belowN nq).mono b3.out.size))
            replace d0 : (w3.drewN nq).cell? ⟨g', off' + k * 3, none⟩ = _ := d0
            replace d1 : (w3.drewN nq).cell? ⟨g', off' + k * 3 + 1, none⟩ = _ := d1
            replace d2 : (w3.drewN nq).cell? ⟨g', off' + k * 3 + 2, none⟩ = _ := d2
            replace z0 : (w3.drewN nq).cell? ⟨s, 0, none⟩ = _ := z0
            replace z1 : (w3.drewN nq).cell? ⟨s, 1, none⟩ = _ := z1
            generalize w3.drewN nq = w4 at *
            clear hq1
            go_upto_region 8 with fail
            go_quiet (fail)
            go_wp2_with fail
            go_ret
            exact ⟨by rw [← e.out]; rfl, b4.out.trans ((belowN nq).mono b4.out.size)⟩
      · obtain rfl : k = a.length := by omega
        have e := Lib.hid (hye.out hok.out)
        rw [← hn.out] at e
        by_cases h1 : (n : Int) ≤ 1
        · rw [decide_eq_true (show n ≤ 1 by omega)] at e
          go_wp2_with fail
          go_ret
          exact ⟨by rw [← e.out]; simp [h1], b2.out⟩
        · rw [decide_eq_false (show ¬ n ≤ 1 by omega)] at e
          go_wp2_with fail
          go_ret
          exact ⟨by rw [← e.out]; simp [h1], b2.out⟩
  · have e : Hid (false = R) := Lib.hid (show false = R by rw [← hR]; unfold onceN; rw [decide_eq_false (show ¬ a.length = b.length by omega)]; rfl)
    clear hR
    have hne : ((a.length : Int) != b.length) = true := by rw [bne_iff_ne]; exact hlen
    replace hlen := Lib.hid hlen
    go_enter Try.func51, Try.ntmps51
    go_wp2_with fail
    go_ret
    exact ⟨by rw [← e.out]; rfl, b0.out⟩
end Go.Proofs.Ytnagidgffkffhaa.G
