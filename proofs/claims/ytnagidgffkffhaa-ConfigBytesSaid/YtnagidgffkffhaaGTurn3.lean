/-
  Layer 11: config's Synced. Condition: chains of at most 2^62 seats.
-/
import Derived.Test.YtnagidgffkffhaaGTurn2
set_option linter.unusedVariables false
set_option linter.unusedSimpArgs false
namespace Go.Proofs.Ytnagidgffkffhaa.G
open Go.RowKit Cfg
set_option maxRecDepth 100000

theorem setN_at {l : List StN} {i j : Nat} (hi : i < l.length) (hj2 : j < l.length) (hj : j < (setN l i).length) : (setN l i)[j] = if i = j then ⟨l[j].m, true⟩ else l[j] := by
  simp only [setN, List.getElem_set]
  split
  · next h1 => subst h1; rw [getD_eq hi]
  · rfl
theorem Chn.setSyn {base g cap : Nat} {l : List StN} {W : World} (h : SOwn base (.slice (some ⟨g, 0, none⟩) l.length cap) l W) {i : Nat} (hi : i < l.length) : Chn (W.setCell ⟨g, i * 3 + 2, none⟩ (.bool true)) (some ⟨g, 0, none⟩) (setN l i) := fun j hj => by
  have hj2 : j < l.length := by simpa [setN] using hj
  have hs := (World.ownsRow.stored h (i * 3 + 2) (.bool true)).1
  have hc := fun k (hk : k < 3) => World.ownsRow.cellAt hs (j * 3 + k) (by omega)
  have hf := fun k (hk : k < 3) => flatC_at l j hj2 k hk
  rw [setN_at hi hj2 hj]
  refine ⟨g, 0, rfl, ?_, ?_, ?_⟩ <;> rw [Nat.zero_add]
  · have e0 := hc 0 (by omega)
    rw [List.getElem?_set_ne (by omega), hf 0 (by omega)] at e0
    refine Eq.trans e0 ?_
    split <;> rfl
  · have e0 := hc 1 (by omega)
    rw [List.getElem?_set_ne (by omega), hf 1 (by omega)] at e0
    refine Eq.trans e0 ?_
    split <;> rfl
  · have e0 := hc 2 (by omega)
    refine Eq.trans e0 ?_
    by_cases h1 : i = j
    · subst h1
      rw [if_pos rfl, List.getElem?_set_self (by rw [flatC_len]; omega)]
    · rw [if_neg h1, List.getElem?_set_ne (by omega), hf 2 (by omega)]
      rfl
set_option maxHeartbeats 8000000 in
theorem synced_any (c : CfN) (p : Option Addr) (cap : Nat) (m : MbN) (w : World) (t : Chn w p c.l) (hcap : c.l.length ≤ cap) (hl : c.l.length ≤ 4611686018427387904) :
    Calls Try.prog 29 #[cfV c p cap, mbV m] w fun e w' => AnsC (syncN c m) w e w' := by
  have x := Lib.hid (By.new w c.epoch p c.l.length cap m.node m.life)
  have hR := Lib.hid (right_any c p cap _ (t.below x.out.b) hcap hl)
  have t2 := Lib.hid (t.below x.out.b)
  have hri : Hid (rightN c = true → RightP c) := fun h => right_iff.1 h
  have hpr := placeN_range c.l m
  obtain ⟨A, hA⟩ : ∃ A, syncN c m = A := ⟨_, rfl⟩
  rw [hA]
  have hA0 : Hid (rightN c = false → A = (zeroN, 3)) := fun h => by rw [← hA]; unfold syncN; rw [if_pos h]
  have hA1 : Hid (rightN c = true → placeN c.l m < 0 → A = (zeroN, 10)) := fun h h1 => by rw [← hA]; unfold syncN; rw [if_neg (by rw [h]; decide), if_pos h1]
  have hA2 : Hid (rightN c = true → ∀ k (hk : k < c.l.length), placeN c.l m = k → c.l[k].syn = true → A = (zeroN, 11)) := fun h k hk h1 h2 => by rw [← hA]; unfold syncN; rw [if_neg (by rw [h]; decide), if_neg (by omega), h1, Int.toNat_natCast, getD_eq hk, if_pos h2]
  have hA3 : Hid (rightN c = true → ∀ k (hk : k < c.l.length), placeN c.l m = k → c.l[k].syn = false → A = (⟨c.epoch, setN c.l k⟩, 0)) := fun h k hk h1 h2 => by rw [← hA]; unfold syncN; rw [if_neg (by rw [h]; decide), if_neg (by omega), h1, Int.toNat_natCast, getD_eq hk, if_neg (by rw [h2]; decide)]
  clear hA
  generalize rightN c = r at *
  have hpl := fun W tW => Lib.hid (place_any c p cap m W tW (by omega))
  generalize placeN c.l m = R at *
  obtain ⟨e0, l⟩ := c
  obtain ⟨m0, m1⟩ := m
  try dsimp only at hA1 hA2 hA3 hpr
  have y0 := x.out.c0
  have y1 := x.out.c1
  try dsimp only at y0 y1
  replace hpl := Lib.hid hpl
  replace t := Lib.hid t
  replace hl := Lib.hid hl
  replace hcap := Lib.hid hcap
  go_enter Try.func29, Try.ntmps29
  go_wp2_with fail
  refine hR.out.mono ?_
  rintro e w2 ⟨rfl, b2⟩
  have x2 := Lib.hid (x.out.below b2)
  have t3 := Lib.hid (t2.out.below b2)
  try dsimp only at x2 t3
  clear b2 x t2 y0 y1 hR
  cases r with
  | false =>
    have hans := Lib.hid (hA0.out rfl)
    have z0 := x2.out.z.cell 0
    have z1 := x2.out.z.cell 1
    have f0 := x2.out.z.fz 0
    have f1 := x2.out.z.fz 1
    go_wp2_with fail
    refine bodyPost_ret (v := .tuple #[.agg #[.int .i64 0, .slice none 0 0], .int .i64 3]) ?_ rfl ?_
    · rw [results_cell_tmp rfl]
      go_simp
    · rw [hans.out]
      exact AnsC.zero (bset (bset x2.out.b (by omega)) (by omega))
  | true =>
    have hri2 := hri.out rfl
    have hn8 : l.length ≤ 8 := hri2.n2
    have hn1 : 1 ≤ l.length := hri2.n1
    have hl8 : l.length ≤ 1000 := by omega
    replace hri2 := Lib.hid hri2
    clear hri hA0
    have y0 := x2.out.c0
    have y1 := x2.out.c1
    have y2 := x2.out.d0
    have y3 := x2.out.d1
    have hpx := hpl.out w2 t3.out
    go_wp2_with fail
    refine hpx.out.mono ?_
    rintro e w3 ⟨rfl, b3⟩
    have x3 := Lib.hid (x2.out.below b3)
    have t4 := Lib.hid (t3.out.below b3)
    clear b3 hpx y0 y1 y2 y3 x2 t3
    by_cases hR0 : R < 0
    · have hans := Lib.hid (hA1.out (by first | rfl | trivial) hR0)
      have z0 := x3.out.z.cell 0
      have z1 := x3.out.z.cell 1
      have f0 := x3.out.z.fz 0
      have f1 := x3.out.z.fz 1
      go_wp2_with fail
      refine bodyPost_ret (v := .tuple #[.agg #[.int .i64 0, .slice none 0 0], .int .i64 10]) ?_ rfl ?_
      · rw [results_cell_tmp rfl]
        go_simp
      · rw [hans.out]
        exact AnsC.zero (bset (bset x3.out.b (by omega)) (by omega))
    obtain ⟨k, rfl⟩ : ∃ k : Nat, R = k := ⟨R.toNat, by omega⟩
    have hk : k < l.length := by omega
    have hkI : (k : Int) < l.length := by omega
    have hkn : (0 : Int) ≤ k := by omega
    obtain ⟨b, off, rfl, c0, c1, c2⟩ := t4.out k hk
    have hA22 := Lib.hid (hA2.out (by first | rfl | trivial) k hk rfl)
    have hA32 := Lib.hid (hA3.out (by first | rfl | trivial) k hk rfl)
    have y1 := x3.out.c1
    clear c0 c1 hA1 hA2 hA3 hpr
    generalize hsy : l[k].syn = sy at *
    replace hsy := Lib.hid hsy
    cases sy with
    | true =>
      have hans := Lib.hid (hA22.out rfl)
      have z0 := x3.out.z.cell 0
      have z1 := x3.out.z.cell 1
      have f0 := x3.out.z.fz 0
      have f1 := x3.out.z.fz 1
      go_wp2_with fail
      refine bodyPost_ret (v := .tuple #[.agg #[.int .i64 0, .slice none 0 0], .int .i64 11]) ?_ rfl ?_
      · rw [results_cell_tmp rfl]
        go_simp
      · rw [hans.out]
        exact AnsC.zero (bset (bset x3.out.b (by omega)) (by omega))
    | false =>
      have hans := Lib.hid (hA32.out rfl)
      have hcl := Lib.hid (clone_any b off cap l w3 t4.out hl8)
      go_wp2_with fail
      refine hcl.out.mono ?_
      rintro e w4 ⟨⟨v, rfl, o⟩, b4⟩
      have x4 := Lib.hid (x3.out.below b4)
      have bs := x3.out.b.size
      obtain ⟨pv, cv, hvf, hcv, tv⟩ := o.chn
      subst hvf
      obtain ⟨g, hg⟩ : ∃ g, pv = some ⟨g, 0, none⟩ := by
        rcases o.2 with ⟨h1, h2⟩ | ⟨g, c, cur, h1, _⟩
        · omega
        · injection h1 with h1; exact ⟨g, h1⟩
      subst hg
      have fg := World.ownsRow.frozenAt o (k * 3 + 2)
      have hst := Lib.hid (Chn.setSyn o hk)
      have hgr := (World.ownsRow.stored o (k * 3 + 2) (.bool true)).2
      have hos := (World.ownsRow.stored o (k * 3 + 2) (.bool true)).1
      have x5 := Lib.hid (x4.out.grownB (v := .slice (some ⟨g, 0, none⟩) l.length cv) hgr o (by have := b4.size; omega) bs)
      have hap1 := own_apart o x4.out.z (by decide)
      have hzg : g ≠ w.heap.size + 1 + 1 := fun e => hap1 (by rw [← e]; rfl)
      have hcg := tv k hk
      obtain ⟨b', off', eb, -, -, cg⟩ := hcg
      injection eb with eb; injection eb with eb1 eb2; subst eb1 eb2
      rw [hsy.out] at cg
      rw [Nat.zero_add] at cg
      clear c2 y1 hcl b4 x3 t4 tv hap1 hgr
      replace o := Lib.hid o
      replace hos := Lib.hid hos
      have yy0 := x5.out.c0
      have zz0 := x5.out.z.cell 0
      have zz1 := x5.out.z.cell 1
      have ff0 := x5.out.z.fz 0
      have ff1 := x5.out.z.fz 1
      go_upto_region 10 with fail
      generalize w4.setCell ⟨g, k * 3 + 2, none⟩ (.bool true) = w5 at *
      clear fg cg
      go_wp2_with fail
      refine bodyPost_ret (v := .tuple #[.agg #[.int .i64 e0, .slice (some ⟨g, 0, none⟩) l.length cv], .int .i64 0]) ?_ rfl ?_
      · rw [results_cell_tmp rfl]
        go_simp
      · rw [hans.out]
        have hset : (setN l k).length = l.length := by simp [setN]
        refine ⟨⟨some ⟨g, 0, none⟩, cv, by rw [hset], ?_, by rw [hset]; exact hcv⟩, bset (bset x5.out.b (by omega)) (by omega)⟩
        intro j hj
        obtain ⟨b', off', eb, q0, q1, q2⟩ := hst.out j hj
        injection eb with eb; injection eb with eb1 eb2; subst eb1 eb2
        refine ⟨g, 0, rfl, ?_, ?_, ?_⟩ <;> rw [World.cell?_setCell_far _ _ _ _ (by exact fun e => hzg e.symm), World.cell?_setCell_far _ _ _ _ (by exact fun e => hzg e.symm)] <;> assumption

end Go.Proofs.Ytnagidgffkffhaa.G
