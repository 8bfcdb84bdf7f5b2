/-
  Layer 11: what a chain becomes: config's Without, Join and Synced. Condition: chains of at most 2^62 seats.
-/
import Derived.Test.YtnagidgffkffhaaGRow
set_option linter.unusedVariables false
set_option linter.unusedSimpArgs false
namespace Go.Proofs.Ytnagidgffkffhaa.G
open Go.RowKit Cfg
set_option maxRecDepth 100000

/-- A chain and an error, as they are answered. -/
def AnsC (x : CfN × Int) (w : World) (e : Ending) (w' : World) : Prop := (∃ p cap, e = .returned (.tuple #[.agg #[.int .i64 x.1.epoch, .slice p x.1.l.length cap], .int .i64 x.2]) ∧ Chn w' p x.1.l ∧ x.1.l.length ≤ cap) ∧ Below w.heap.size w w'
theorem AnsC.zero {w w' : World} {er : Int} (k : Below w.heap.size w w') : AnsC (zeroN, er) w (.returned (.tuple #[.agg #[.int .i64 0, .slice none 0 0], .int .i64 er])) w' := ⟨⟨none, 0, rfl, Chn.nil _ _, Nat.le_refl _⟩, k⟩
/-! Blocks of unlike types lie apart. -/
theorem own_apart {base k : Nat} {v : Value} {l : List StN} {W : World} {cs : Array Value} {T : TypeId} (o : SOwn base v l W) (h : Blk W k cs T) (hT : T ≠ 70) : v.ownBlock ≠ some k := fun e => by
  rcases o.2 with ⟨h1, _⟩ | ⟨g', c, cur, h1, _, h3, _⟩
  · rw [h1] at e; cases e
  · rw [h1] at e
    obtain rfl : g' = k := by injection e
    rw [show W.heap[g']? = _ from h] at h3
    injection h3 with h3
    injection h3 with _ h3
    exact hT h3
theorem Blk.grown {k : Nat} {W W' : World} {cs : Array Value} {T : TypeId} {r : Option Nat} (h : Blk W k cs T) (g : W.grownBy W' r) (hne : r ≠ some k) : Blk W' k cs T := (g.block k h.lt (fun e => hne e.symm)).trans h
theorem SOwn.setz {base k i : Nat} {v u : Value} {l : List StN} {W : World} {cs : Array Value} {T : TypeId} (o : SOwn base v l W) (h : Blk W k cs T) (hT : T ≠ 70) : SOwn base v l (W.setCell ⟨k, i, none⟩ u) :=
  World.ownsRow.kept (row := some k) o ⟨rfl, rfl, rfl, by simp, fun x _ hx => heap_setCell_other W ⟨k, i, none⟩ x u (fun e => hx (by simp [e]))⟩ (Or.inr (own_apart o h hT))
theorem Blk.set {k i : Nat} {u : Value} {W : World} {cs : Array Value} {T : TypeId} (h : Blk W k cs T) : Blk (W.setCell ⟨k, i, none⟩ u) k (cs.setIfInBounds i u) T := heap_setCell_same W k i cs T u h
theorem SOwn.chn2 {base cap : Nat} {p : Option Addr} {l : List StN} {W : World} (h : SOwn base (.slice p l.length cap) l W) : Chn W p l ∧ l.length ≤ cap := by
  obtain ⟨p', c', e, h1, h2⟩ := h.chn
  injection e with e1 _ e3
  subst e1 e3
  exact ⟨h2, h1⟩
/-- A chain in a block, and a chain of zeros in the next one. -/
structure Bz (w : World) (e0 : Int) (p : Option Addr) (n cap : Nat) (w3 : World) : Prop where
  k : Blk w3 w.heap.size #[.int .i64 e0, .slice p n cap] 24
  z : Blk w3 (w.heap.size + 1) #[.int .i64 0, .slice none 0 0] 24
  b : Below w.heap.size w w3
theorem Bz.new (w : World) (e0 : Int) (p : Option Addr) (n cap : Nat) : Bz w e0 p n cap ((w.alloc (.cells #[.int .i64 e0, .slice p n cap] 24)).alloc (.cells #[.int .i64 0, .slice none 0 0] 24)) := by
  have ba := (Below.refl w.heap.size w).alloc (Nat.le_refl _) (.cells #[.int .i64 e0, .slice p n cap] 24)
  have bb := ba.alloc ba.size (.cells #[.int .i64 0, .slice none 0 0] 24)
  have x1 := Blk.new w #[.int .i64 e0, .slice p n cap] 24
  have x2 := Blk.new (w.alloc (.cells #[.int .i64 e0, .slice p n cap] 24)) #[.int .i64 0, .slice none 0 0] 24
  have y1 := x1.below ((Below.refl _ _).alloc (Nat.le_refl _) (.cells #[.int .i64 0, .slice none 0 0] 24))
  simp only [World.size_alloc] at x2
  exact ⟨y1, x2, bb⟩
theorem Bz.below {w w3 w4 : World} {e0 : Int} {p : Option Addr} {n cap : Nat} (h : Bz w e0 p n cap w3) (k : Below w3.heap.size w3 w4) : Bz w e0 p n cap w4 := ⟨h.k.below k, h.z.below k, h.b.trans (k.mono h.b.size)⟩
theorem Bz.c0 {w w3 : World} {e0 : Int} {p : Option Addr} {n cap : Nat} (h : Bz w e0 p n cap w3) : w3.cell? ⟨w.heap.size, 0, none⟩ = some (.int .i64 e0) := h.k.cell 0
theorem Bz.c1 {w w3 : World} {e0 : Int} {p : Option Addr} {n cap : Nat} (h : Bz w e0 p n cap w3) : w3.cell? ⟨w.heap.size, 1, none⟩ = some (.slice p n cap) := h.k.cell 1
theorem Bz.grownB {w w3 w4 : World} {e0 : Int} {p : Option Addr} {n cap base : Nat} {v : Value} {l : List StN} (h : Bz w e0 p n cap w3) (g : w3.grownBy w4 v.ownBlock) (o : SOwn base v l w3) (hb : base ≤ w3.heap.size) (hw : w.heap.size ≤ base) : Bz w e0 p n cap w4 :=
  ⟨h.k.grown g (own_apart o h.k (by decide)), h.z.grown g (own_apart o h.z (by decide)), h.b.trans (((Below.refl base w3).grown g hb fun k hk => (World.ownsRow.lt o k hk).1).mono hw)⟩
/-- A chain, a member, and a chain of zeros. -/
structure By (w : World) (e0 : Int) (p : Option Addr) (n cap : Nat) (m0 m1 : Int) (w3 : World) : Prop where
  k : Blk w3 w.heap.size #[.int .i64 e0, .slice p n cap] 24
  d : Blk w3 (w.heap.size + 1) #[.int .i64 m0, .int .i64 m1] 26
  z : Blk w3 (w.heap.size + 1 + 1) #[.int .i64 0, .slice none 0 0] 24
  b : Below w.heap.size w w3
theorem By.new (w : World) (e0 : Int) (p : Option Addr) (n cap : Nat) (m0 m1 : Int) : By w e0 p n cap m0 m1 (((w.alloc (.cells #[.int .i64 e0, .slice p n cap] 24)).alloc (.cells #[.int .i64 m0, .int .i64 m1] 26)).alloc (.cells #[.int .i64 0, .slice none 0 0] 24)) := by
  have ba := (Below.refl w.heap.size w).alloc (Nat.le_refl _) (.cells #[.int .i64 e0, .slice p n cap] 24)
  have bb := ba.alloc ba.size (.cells #[.int .i64 m0, .int .i64 m1] 26)
  have bc := bb.alloc bb.size (.cells #[.int .i64 0, .slice none 0 0] 24)
  have x1 := Blk.new w #[.int .i64 e0, .slice p n cap] 24
  have x2 := Blk.new (w.alloc (.cells #[.int .i64 e0, .slice p n cap] 24)) #[.int .i64 m0, .int .i64 m1] 26
  have x3 := Blk.new ((w.alloc (.cells #[.int .i64 e0, .slice p n cap] 24)).alloc (.cells #[.int .i64 m0, .int .i64 m1] 26)) #[.int .i64 0, .slice none 0 0] 24
  have y1 := (x1.below ((Below.refl _ _).alloc (Nat.le_refl _) (.cells #[.int .i64 m0, .int .i64 m1] 26))).below ((Below.refl _ _).alloc (Nat.le_refl _) (.cells #[.int .i64 0, .slice none 0 0] 24))
  have y2 := x2.below ((Below.refl _ _).alloc (Nat.le_refl _) (.cells #[.int .i64 0, .slice none 0 0] 24))
  simp only [World.size_alloc] at x3 y2
  exact ⟨y1, y2, x3, bc⟩
section
variable {w w3 w4 : World} {e0 : Int} {p : Option Addr} {n cap : Nat} {m0 m1 : Int}
theorem By.below (h : By w e0 p n cap m0 m1 w3) (k : Below w3.heap.size w3 w4) : By w e0 p n cap m0 m1 w4 := ⟨h.k.below k, h.d.below k, h.z.below k, h.b.trans (k.mono h.b.size)⟩
theorem By.c0 (h : By w e0 p n cap m0 m1 w3) : w3.cell? ⟨w.heap.size, 0, none⟩ = some (.int .i64 e0) := h.k.cell 0
theorem By.c1 (h : By w e0 p n cap m0 m1 w3) : w3.cell? ⟨w.heap.size, 1, none⟩ = some (.slice p n cap) := h.k.cell 1
theorem By.d0 (h : By w e0 p n cap m0 m1 w3) : w3.cell? ⟨w.heap.size + 1, 0, none⟩ = some (.int .i64 m0) := h.d.cell 0
theorem By.d1 (h : By w e0 p n cap m0 m1 w3) : w3.cell? ⟨w.heap.size + 1, 1, none⟩ = some (.int .i64 m1) := h.d.cell 1
theorem By.grownB {base : Nat} {v : Value} {l : List StN} (h : By w e0 p n cap m0 m1 w3) (g : w3.grownBy w4 v.ownBlock) (o : SOwn base v l w3) (hb : base ≤ w3.heap.size) (hw : w.heap.size ≤ base) : By w e0 p n cap m0 m1 w4 :=
  ⟨h.k.grown g (own_apart o h.k (by decide)), h.d.grown g (own_apart o h.d (by decide)), h.z.grown g (own_apart o h.z (by decide)), h.b.trans (((Below.refl base w3).grown g hb fun k hk => (World.ownsRow.lt o k hk).1).mono hw)⟩
end

/-- What 'later' answers. -/
def LatR (e0 : Int) (p : Option Addr) (n cap : Nat) (ee : Int) (pp : Option Addr) (nn cc : Nat) (er : Int) : Prop := (1099511627776 ≤ e0 ∧ ee = 0 ∧ pp = none ∧ nn = 0 ∧ cc = 0 ∧ er = 5) ∨ (¬ 1099511627776 ≤ e0 ∧ ee = e0 + 1 ∧ pp = p ∧ nn = n ∧ cc = cap ∧ er = 0)
theorem LatR.ans {e0 : Int} {p : Option Addr} {l : List StN} {cap : Nat} {ee : Int} {pp : Option Addr} {nn cc : Nat} {er : Int} (h : LatR e0 p l.length cap ee pp nn cc er) {w w' : World} (t : Chn w' p l) (hc : l.length ≤ cap) (k : Below w.heap.size w w') :
    AnsC (laterN e0 l) w (.returned (.tuple #[.agg #[.int .i64 ee, .slice pp nn cc], .int .i64 er])) w' := by
  unfold laterN
  rcases h with ⟨h, rfl, rfl, rfl, rfl, rfl⟩ | ⟨h, rfl, rfl, rfl, rfl, rfl⟩
  · rw [if_pos h]; exact AnsC.zero k
  · rw [if_neg h]; exact ⟨⟨_, _, rfl, t, hc⟩, k⟩
set_option maxHeartbeats 2000000 in
theorem later_any (e0 : Int) (p : Option Addr) (n cap : Nat) (w : World) (h0 : 1 ≤ e0) :
    Calls Try.prog 49 #[.int .i64 e0, .slice p n cap] w fun e w' => (∃ ee pp nn cc er, e = .returned (.tuple #[.agg #[.int .i64 ee, .slice pp nn cc], .int .i64 er]) ∧ LatR e0 p n cap ee pp nn cc er) ∧ Below w.heap.size w w' := by
  by_cases h : 1099511627776 ≤ e0
  · have hr : Hid (LatR e0 p n cap 0 none 0 0 5) := .inl ⟨h, rfl, rfl, rfl, rfl, rfl⟩
    have ba := Lib.hid ((Below.refl w.heap.size w).alloc (Nat.le_refl _) (.cells #[.int .i64 0, .slice none 0 0] 24))
    go_enter Try.func49, Try.ntmps49
    go_wp2_with fail
    refine bodyPost_ret (v := .tuple #[.agg #[.int .i64 0, .slice none 0 0], .int .i64 5]) ?_ rfl ?_
    · rw [results_cell_tmp rfl]
      go_simp
    · exact ⟨⟨_, _, _, _, _, rfl, hr.out⟩, ba.out⟩
  · have hr : Hid (LatR e0 p n cap (e0 + 1) p n cap 0) := .inr ⟨h, rfl, rfl, rfl, rfl, rfl⟩
    have ba := Lib.hid ((Below.refl w.heap.size w).alloc (Nat.le_refl _) (.cells #[.int .i64 (e0 + 1), .slice p n cap] 24))
    have hw : IntKind.i64.wrap (e0 + 1) = e0 + 1 := IntWalk.i64_in _ (by omega)
    go_enter Try.func49, Try.ntmps49
    go_wp2_with fail
    refine bodyPost_ret (v := .tuple #[.agg #[.int .i64 (e0 + 1), .slice p n cap], .int .i64 0]) ?_ rfl ?_
    · rw [results_cell_tmp rfl]
      go_simp
    · exact ⟨⟨_, _, _, _, _, rfl, hr.out⟩, ba.out⟩

set_option maxHeartbeats 8000000 in
theorem without_any (c : CfN) (p : Option Addr) (cap : Nat) (gone : List MbN) (q : Option Addr) (qc : Nat) (w : World) (t : Chn w p c.l) (hcap : c.l.length ≤ cap) (hl : c.l.length ≤ 4611686018427387904) (tg : Mbs w q gone) (hg : gone.length ≤ 4611686018427387904) :
    Calls Try.prog 25 #[cfV c p cap, .slice q gone.length qc] w fun e w' => AnsC (withoutN c gone) w e w' := by
  have x := Lib.hid (Bz.new w c.epoch p c.l.length cap)
  have hR := Lib.hid (right_any c p cap _ (t.below x.out.b) hcap hl)
  have t2 := Lib.hid (t.below x.out.b)
  have g2 := Lib.hid (tg.below x.out.b)
  have hri : Hid (rightN c = true → RightP c) := fun h => right_iff.1 h
  obtain ⟨A, hA⟩ : ∃ A, withoutN c gone = A := ⟨_, rfl⟩
  rw [hA]
  have hA0 : Hid (rightN c = false → A = (zeroN, 3)) := fun h => by rw [← hA]; unfold withoutN; rw [if_pos h]
  have hA1 : Hid (rightN c = true → (outN c.l gone).length = c.l.length → A = (zeroN, 10)) := fun h h1 => by rw [← hA]; unfold withoutN; rw [if_neg (by rw [h]; decide), if_pos h1]
  have hA2 : Hid (rightN c = true → (outN c.l gone).length ≠ c.l.length → ((outN c.l gone).length = 0 ∨ ((outN c.l gone).getD 0 default).syn = false) → A = (zeroN, 13)) := fun h h1 h2 => by rw [← hA]; unfold withoutN; rw [if_neg (by rw [h]; decide), if_neg h1, if_pos h2]
  have hA3 : Hid (rightN c = true → (outN c.l gone).length ≠ c.l.length → ¬ ((outN c.l gone).length = 0 ∨ ((outN c.l gone).getD 0 default).syn = false) → A = laterN c.epoch (outN c.l gone)) := fun h h1 h2 => by rw [← hA]; unfold withoutN; rw [if_neg (by rw [h]; decide), if_neg h1, if_neg h2]
  clear hA
  generalize rightN c = r at *
  obtain ⟨e0, l⟩ := c
  try dsimp only at hA1 hA2 hA3
  have y0 := x.out.c0
  have y1 := x.out.c1
  try dsimp only at y0 y1
  replace t := Lib.hid t
  replace tg := Lib.hid tg
  replace hl := Lib.hid hl
  replace hcap := Lib.hid hcap
  go_enter Try.func25, Try.ntmps25
  go_wp2_with fail
  refine hR.out.mono ?_
  rintro e w2 ⟨rfl, b2⟩
  have x2 := Lib.hid (x.out.below b2)
  have t3 := Lib.hid (t2.out.below b2)
  have g3 := Lib.hid (g2.out.below b2)
  try dsimp only at x2 t3
  clear b2 x t2 g2 y0 y1 hR
  cases r with
  | false =>
    have hans := Lib.hid (hA0.out rfl)
    have z0 := x2.out.z.cell 0
    have z1 := x2.out.z.cell 1
    have f0 := x2.out.z.fz 0
    have f1 := x2.out.z.fz 1
    go_wp2_with fail
    refine bodyPost_ret (v := .tuple #[.agg #[.int .i64 0, .slice none 0 0], .int .i64 3]) ?_ rfl ?_
    · rw [results_cell_tmp rfl]
      go_simp
    · rw [hans.out]
      exact AnsC.zero (bset (bset x2.out.b (by omega)) (by omega))
  | true =>
    have hri2 := hri.out rfl
    have hn8 : l.length ≤ 8 := hri2.n2
    have he1 : 1 ≤ e0 := hri2.e1
    have hn1 : 1 ≤ l.length := hri2.n1
    have hlI : (l.length : Int) ≤ 8 := by omega
    replace hri2 := Lib.hid hri2
    clear hri hA0
    have y1 := x2.out.c1
    have hot := Lib.hid (fun k hk => @outN_take l gone k hk)
    have hol := Lib.hid (fun k => Nat.le_trans (outN_le (l.take k) gone) (List.length_take_le k l))
    go_wp2_with fail
    clear y1
    go_loopw [6, 16] (fun v i wr => ∃ (k : Nat) (v1 : Value), (k : Int) ≤ l.length ∧ i = .int .i64 k ∧ v = v1 ∧ Hid (SOwn w.heap.size v1 (outN (l.take k) gone) wr) ∧ Hid (Bz w e0 p l.length cap wr)) (fun _ i _ => ((l.length : Int) - intOf i).toNat)
    case atStart => exact ⟨0, _, by omega, rfl, rfl, Lib.hid (World.ownsRow_nil _ _ _ _), x2⟩
    case round =>
      obtain ⟨k, v, hk, rfl, hvv, ho, x4⟩ := hrel
      have hvw := hvv.symm
      subst hvw
      clear x2
      by_cases hlt : (k : Int) < l.length
      · have hkl : k < l.length := by omega
        obtain ⟨b, off, rfl, c0, c1, c2⟩ := (t.out.below x4.out.b) k hkl
        have hot2 := Lib.hid (hot.out k hkl)
        have hol2 := Lib.hid (hol.out k)
        have hk8 : Hid (k ≤ 8) := by show _ ≤ _; omega
        generalize l[k] = s at *
        obtain ⟨⟨s0, s1⟩, s2⟩ := s
        simp only at c0 c1 c2 hot2
        have ba := (Below.refl wr.heap.size wr).alloc (Nat.le_refl _) (.cells #[.int .i64 s0, .int .i64 s1, .bool s2] 70)
        have kb := Lib.hid (Blk.new wr #[.int .i64 s0, .int .i64 s1, .bool s2] 70)
        have x5 := Lib.hid (x4.out.below ba)
        have o5 := Lib.hid (ho.out.below ba)
        have hct := Lib.hid (contains_any q qc gone ⟨s0, s1⟩ _ (tg.out.below x5.out.b) hg)
        clear ba
        generalize hgo : goneN gone ⟨s0, s1⟩ = gg at *
        replace hgo := Lib.hid hgo
        go_wp2_with fail
        refine hct.out.mono ?_
        rintro e w6 ⟨rfl, b6⟩
        have x6 := Lib.hid (x5.out.below b6)
        have o6 := Lib.hid (o5.out.below b6)
        have k6 := Lib.hid (kb.out.below b6)
        clear b6 hct x5 o5 kb c0 c1 c2 ho x4
        cases gg with
        | true =>
          have e7 : Hid (outN (l.take (k + 1)) gone = outN (l.take k) gone) := by rw [hot2.out]; exact List.append_nil _
          rw [← e7.out] at o6
          go_wp2_with fail
          exact ⟨⟨k + 1, _, by omega, by go_num, rfl, o6, x6⟩, by simp [intOf]; omega⟩
        | false =>
          have e7 : Hid (outN (l.take (k + 1)) gone = outN (l.take k) gone ++ [⟨⟨s0, s1⟩, s2⟩]) := by rw [hot2.out]; rfl
          have d0 := k6.out.cell 0
          have d1 := k6.out.cell 1
          have d2 := k6.out.cell 2
          obtain ⟨i0, hi0, hz0, hzs, hzb⟩ := info_parts infoSt
          have hb6 := x6.out.b.size
          have ba := (Below.refl w6.heap.size w6).alloc (Nat.le_refl _) (.cells #[.int .i64 s0, .int .i64 s1, .bool s2] 70)
          have x7 := Lib.hid (x6.out.below ba)
          have o7 := Lib.hid (o6.out.below ba)
          have k7 := Lib.hid (Blk.new w6 #[.int .i64 s0, .int .i64 s1, .bool s2] 70)
          have hon : Hid ((outN (l.take k) gone).length ≤ 8) := by have := hol2.out; have := hk8.out; show _ ≤ _; omega
          have hnew : Hid (∀ (j : Nat) (u : Value), (stC ⟨⟨s0, s1⟩, s2⟩).toList[j]? = some u → (w6.alloc (.cells #[.int .i64 s0, .int .i64 s1, .bool s2] 70)).cell? ((⟨w6.heap.size, 0, none⟩ : Addr).add j) = some u) := fun j u hu => by
            rw [Addr.add_lit, Nat.zero_add]
            rw [Array.getElem?_toList] at hu
            exact (k7.out.cell j).trans hu
          have hs7 : Hid (w.heap.size ≤ (w6.alloc (.cells #[.int .i64 s0, .int .i64 s1, .bool s2] 70)).heap.size) := Nat.le_trans hb6 ba.size
          clear ba hb6
          go_wp2_with (at_builtin; refine wpList_append_own_at _ rfl _ _ 22 rfl w.heap.size 70 i0 _ 3 24 Try.underlying22 hi0 hz0 hzs hzb rfl (by decide) _ _ _ rfl o7.out ⟨w6.heap.size, 0, none⟩ 1 1 (stC ⟨⟨s0, s1⟩, s2⟩).toList rfl (by simp) hnew.out (fun u hu => flatC_one [⟨⟨s0, s1⟩, s2⟩] u (by simpa [flatC] using hu)) (by have := hon.out; unfold maxLen; omega) (by have := hon.out; omega) hs7.out ?_)
          intro v' w8 g8 gr8 _ _
          have x8 := Lib.hid (x7.out.grownB gr8 o7.out hs7.out (Nat.le_refl _))
          have o8 : Hid (SOwn w.heap.size v' (outN (l.take (k + 1)) gone) w8) := by
            show World.ownsRow _ _ _ _ _ _ _
            rw [e7.out, List.length_append, ← flatC_snoc]
            exact g8
          clear g8 gr8 hnew k7 o7 x7 d0 d1 d2 o6 k6 x6
          go_wp2_with fail
          exact ⟨⟨k + 1, _, by omega, by go_num, rfl, o8, x8⟩, by simp [intOf]; omega⟩
      · obtain rfl : k = l.length := by omega
        rw [List.take_length] at ho
        have hle := outN_le l gone
        obtain ⟨pv, cv, hvf, hcv, tv⟩ := ho.out.chn
        subst hvf
        replace tv := Lib.hid tv
        have y1 := x4.out.c1
        have y0 := x4.out.c0
        have z0 := x4.out.z.cell 0
        have z1 := x4.out.z.cell 1
        have f0 := x4.out.z.fz 0
        have f1 := x4.out.z.fz 1
        have x2 := x4
        generalize outN l gone = L at *
        by_cases h1 : (L.length : Int) = l.length
        · have hans := Lib.hid (hA1.out (by first | rfl | trivial) (by omega))
          have h1b : ((L.length : Int) == l.length) = true := by rw [beq_iff_eq]; exact h1
          replace h1 := Lib.hid h1
          go_wp2_with fail
          refine bodyPost_ret (v := .tuple #[.agg #[.int .i64 0, .slice none 0 0], .int .i64 10]) ?_ rfl ?_
          · rw [results_cell_tmp rfl]
            go_simp
          · rw [hans.out]
            exact AnsC.zero (bset (bset x2.out.b (by omega)) (by omega))
        · have h1n : L.length ≠ l.length := by omega
          have h1b : ((L.length : Int) == l.length) = false := by rw [beq_eq_false_iff_ne]; exact h1
          replace h1 := Lib.hid h1
          by_cases h2 : (L.length : Int) = 0
          · have hans := Lib.hid (hA2.out (by first | rfl | trivial) h1n (.inl (by omega)))
            have h2b : ((L.length : Int) == 0) = true := by rw [beq_iff_eq]; exact h2
            replace h2 := Lib.hid h2
            replace h1n := Lib.hid h1n
            go_wp2_with fail
            refine bodyPost_ret (v := .tuple #[.agg #[.int .i64 0, .slice none 0 0], .int .i64 13]) ?_ rfl ?_
            · rw [results_cell_tmp rfl]
              go_simp
            · rw [hans.out]
              exact AnsC.zero (bset (bset x2.out.b (by omega)) (by omega))
          · have h2b : ((L.length : Int) == 0) = false := by rw [beq_eq_false_iff_ne]; exact h2
            have h2g : 0 < (L.length : Int) := by omega
            have h20 : 0 < L.length := by omega
            obtain ⟨b, off, rfl, c0, c1, c2⟩ := tv.out 0 h20
            simp only [Nat.zero_mul, Nat.add_zero] at c0 c1 c2
            replace h2 := Lib.hid h2
            cases hE : L[0].syn with
            | false =>
              have hans := Lib.hid (hA2.out (by first | rfl | trivial) h1n (.inr (by rw [getD_eq h20]; exact hE)))
              rw [hE] at c2
              clear hE c0 c1
              replace h1n := Lib.hid h1n
              go_wp2_with fail
              refine bodyPost_ret (v := .tuple #[.agg #[.int .i64 0, .slice none 0 0], .int .i64 13]) ?_ rfl ?_
              · rw [results_cell_tmp rfl]
                go_simp
              · rw [hans.out]
                exact AnsC.zero (bset (bset x2.out.b (by omega)) (by omega))
            | true =>
              have hans := Lib.hid (hA3.out (by first | rfl | trivial) h1n (by rw [getD_eq h20, hE]; rintro (h | h); omega; cases h))
              rw [hE] at c2
              have hla := Lib.hid (later_any e0 (some ⟨b, off, none⟩) L.length cv wr he1)
              clear hE c0 c1
              replace h1n := Lib.hid h1n
              go_wp2_with fail
              refine hla.out.mono ?_
              rintro e wl ⟨⟨ee, pp, nn, cc, er, rfl, hlat⟩, kl⟩
              have xl := Lib.hid (x4.out.below kl)
              have klh := Lib.hid kl
              replace hlat := Lib.hid hlat
              clear y0 y1 z0 z1 f0 f1 c2 kl
              have z0 := xl.out.z.cell 0
              have z1 := xl.out.z.cell 1
              have f0 := xl.out.z.fz 0
              have f1 := xl.out.z.fz 1
              have tz : Hid (Chn ((wl.setCell ⟨w.heap.size + 1, 0, none⟩ (.int .i64 ee)).setCell ⟨w.heap.size + 1, 1, none⟩ (.slice pp nn cc)) (some ⟨b, off, none⟩) L) := (((ho.out.below klh.out).setz xl.out.z (by decide)).setz xl.out.z.set (by decide)).chn2.1
              go_wp2_with fail
              refine bodyPost_ret (v := .tuple #[.agg #[.int .i64 ee, .slice pp nn cc], .int .i64 er]) ?_ rfl ?_
              · rw [results_cell_tmp rfl]
                go_simp
              · rw [hans.out]
                exact hlat.out.ans tz.out hcv (bset (bset xl.out.b (by omega)) (by omega))

end Go.Proofs.Ytnagidgffkffhaa.G
