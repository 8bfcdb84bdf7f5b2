/-
  Layer 11: slices.Index, Contains, Equal and Clone at members and seats; rows of seats of a call's own. Condition: at most 2^62 of them, and 1000 for Clone.
-/
import Derived.Test.YtnagidgffkffhaaGRRight
import Derived.Maps.AppendAt
import Derived.Laws.OwnMore
import Derived.Lib.SliceRun
set_option linter.unusedVariables false
set_option linter.unusedSimpArgs false
namespace Go.Proofs.Ytnagidgffkffhaa.G
open Go.RowKit Cfg
set_option maxRecDepth 100000
set_option maxHeartbeats 2000000 in
theorem idxMb_any (p : Option Addr) (cap : Nat) (l : List MbN) (m : MbN) (w : World) (t : Mbs w p l) (hl : l.length ≤ 4611686018427387904) :
    Calls Try.prog 70 #[.slice p l.length cap, mbV m] w fun e w' => e = .returned (.int .i64 (ixN (fun x => decide (m = x)) l)) ∧ Below w.heap.size w w' := by
  obtain ⟨R, hR⟩ : ∃ R, ixN (fun x => decide (m = x)) l = R := ⟨_, rfl⟩
  have hix : Hid (∀ i (hi : i < l.length), decide (m = l[i]) = true → (∀ k (hk : k < l.length), k < i → decide (m = l[k]) = false) → (i : Int) = R) := fun i hi h hb => by rw [← hR]; exact (ixN_at (p := fun x => decide (m = x)) hi h hb).symm
  have hno : Hid ((∀ k (hk : k < l.length), decide (m = l[k]) = false) → (-1 : Int) = R) := fun h => by rw [← hR]; exact (ixN_no (p := fun x => decide (m = x)) h).symm
  rw [hR]
  clear hR
  replace t := Lib.hid t
  have hl2 : (l.length : Int) ≤ 4611686018427387904 := by omega
  replace hl := Lib.hid hl
  obtain ⟨m0, m1⟩ := m
  have z := Lib.hid (Blk.new w #[.int .i64 m0, .int .i64 m1] 26)
  have ba := Lib.hid ((Below.refl w.heap.size w).alloc (Nat.le_refl _) (.cells #[.int .i64 m0, .int .i64 m1] 26))
  go_enter Try.func70, Try.ntmps70
  go_upto_region 1 with fail
  go_wp2_with fail
  generalize w.alloc _ = w2 at *
  go_loopw [8] (fun v wr => ∃ k : Nat, v = .int .i64 k ∧ (k : Int) ≤ l.length ∧ Hid (∀ j (hj : j < l.length), j < k → decide ((⟨m0, m1⟩ : MbN) = l[j]) = false) ∧ Hid (Blk wr w.heap.size #[.int .i64 m0, .int .i64 m1] 26) ∧ Hid (Below w.heap.size w wr)) (fun v _ => ((l.length : Int) - intOf v).toNat)
  case atStart => exact ⟨0, rfl, by omega, Lib.hid fun j hj h => by omega, z, ba⟩
  case round =>
    obtain ⟨k, rfl, hk, hb, z2, b2⟩ := hrel
    clear z ba
    by_cases hlt : (k : Int) < l.length
    · have hkl : k < l.length := by omega
      obtain ⟨b, off, rfl, c0, c1⟩ := (t.out.below b2.out) k hkl
      have z0 := z2.out.cell 0
      have z1 := z2.out.cell 1
      have hix2 := Lib.hid (hix.out k hkl)
      have hb2 : Hid (decide ((⟨m0, m1⟩ : MbN) = l[k]) = false → ∀ j (hj : j < l.length), j < k + 1 → decide ((⟨m0, m1⟩ : MbN) = l[j]) = false) := fun e j hj h => by
        rcases Nat.lt_or_ge j k with h1 | h1
        · exact hb.out j hj h1
        · obtain rfl : j = k := by omega
          exact e
      generalize l[k] = s at *
      obtain ⟨s0, s1⟩ := s
      simp only at c0 c1 hix2 hb2
      have hq := mb_eq (⟨m0, m1⟩ : MbN) (⟨s0, s1⟩ : MbN)
      generalize decide ((⟨m0, m1⟩ : MbN) = (⟨s0, s1⟩ : MbN)) = q at *
      cases q with
      | true =>
        have e := Lib.hid (hix2.out rfl fun j hj h => hb.out j hj h)
        go_wp2_with fail
        go_quiet (fail)
        go_wp2_with fail
        go_ret
        exact ⟨by rw [← e.out]; rfl, b2.out.trans ((belowN nq).mono b2.out.size)⟩
      | false =>
        have hb3 := Lib.hid (hb2.out rfl)
        go_wp2_with fail
        go_quiet (fail)
        go_wp2_with fail
        exact ⟨⟨k + 1, by go_num, by omega, hb3, Lib.hid (z2.out.below (belowN nq)), Lib.hid (b2.out.trans ((belowN nq).mono b2.out.size))⟩, by simp [intOf]; omega⟩
    · have e := Lib.hid (hno.out fun j hj => hb.out j hj (by omega))
      go_wp2_with fail
      go_ret
      exact ⟨by rw [← e.out]; rfl, b2.out⟩
set_option maxHeartbeats 2000000 in
theorem idxSt_any (p : Option Addr) (cap : Nat) (l : List StN) (m : StN) (w : World) (t : Chn w p l) (hl : l.length ≤ 4611686018427387904) :
    Calls Try.prog 71 #[.slice p l.length cap, stV m] w fun e w' => e = .returned (.int .i64 (ixN (fun x => decide (m = x)) l)) ∧ Below w.heap.size w w' := by
  obtain ⟨R, hR⟩ : ∃ R, ixN (fun x => decide (m = x)) l = R := ⟨_, rfl⟩
  have hix : Hid (∀ i (hi : i < l.length), decide (m = l[i]) = true → (∀ k (hk : k < l.length), k < i → decide (m = l[k]) = false) → (i : Int) = R) := fun i hi h hb => by rw [← hR]; exact (ixN_at (p := fun x => decide (m = x)) hi h hb).symm
  have hno : Hid ((∀ k (hk : k < l.length), decide (m = l[k]) = false) → (-1 : Int) = R) := fun h => by rw [← hR]; exact (ixN_no (p := fun x => decide (m = x)) h).symm
  rw [hR]
  clear hR
  replace t := Lib.hid t
  have hl2 : (l.length : Int) ≤ 4611686018427387904 := by omega
  replace hl := Lib.hid hl
  obtain ⟨⟨m0, m1⟩, m2⟩ := m
  have z := Lib.hid (Blk.new w #[.int .i64 m0, .int .i64 m1, .bool m2] 70)
  have ba := Lib.hid ((Below.refl w.heap.size w).alloc (Nat.le_refl _) (.cells #[.int .i64 m0, .int .i64 m1, .bool m2] 70))
  go_enter Try.func71, Try.ntmps71
  go_upto_region 1 with fail
  go_wp2_with fail
  generalize w.alloc _ = w2 at *
  go_loopw [8] (fun v wr => ∃ k : Nat, v = .int .i64 k ∧ (k : Int) ≤ l.length ∧ Hid (∀ j (hj : j < l.length), j < k → decide ((⟨⟨m0, m1⟩, m2⟩ : StN) = l[j]) = false) ∧ Hid (Blk wr w.heap.size #[.int .i64 m0, .int .i64 m1, .bool m2] 70) ∧ Hid (Below w.heap.size w wr)) (fun v _ => ((l.length : Int) - intOf v).toNat)
  case atStart => exact ⟨0, rfl, by omega, Lib.hid fun j hj h => by omega, z, ba⟩
  case round =>
    obtain ⟨k, rfl, hk, hb, z2, b2⟩ := hrel
    clear z ba
    by_cases hlt : (k : Int) < l.length
    · have hkl : k < l.length := by omega
      obtain ⟨b, off, rfl, c0, c1, c2⟩ := (t.out.below b2.out) k hkl
      have z0 := z2.out.cell 0
      have z1 := z2.out.cell 1
      have z3 := z2.out.cell 2
      have hix2 := Lib.hid (hix.out k hkl)
      have hb2 : Hid (decide ((⟨⟨m0, m1⟩, m2⟩ : StN) = l[k]) = false → ∀ j (hj : j < l.length), j < k + 1 → decide ((⟨⟨m0, m1⟩, m2⟩ : StN) = l[j]) = false) := fun e j hj h => by
        rcases Nat.lt_or_ge j k with h1 | h1
        · exact hb.out j hj h1
        · obtain rfl : j = k := by omega
          exact e
      generalize l[k] = s at *
      obtain ⟨⟨s0, s1⟩, s2⟩ := s
      simp only at c0 c1 c2 hix2 hb2
      have hq := st_eq (⟨⟨m0, m1⟩, m2⟩ : StN) (⟨⟨s0, s1⟩, s2⟩ : StN)
      generalize decide ((⟨⟨m0, m1⟩, m2⟩ : StN) = (⟨⟨s0, s1⟩, s2⟩ : StN)) = q at *
      cases q with
      | true =>
        have e := Lib.hid (hix2.out rfl fun j hj h => hb.out j hj h)
        go_wp2_with fail
        go_quiet (fail)
        go_wp2_with fail
        go_ret
        exact ⟨by rw [← e.out]; rfl, b2.out.trans ((belowN nq).mono b2.out.size)⟩
      | false =>
        have hb3 := Lib.hid (hb2.out rfl)
        go_wp2_with fail
        go_quiet (fail)
        go_wp2_with fail
        exact ⟨⟨k + 1, by go_num, by omega, hb3, Lib.hid (z2.out.below (belowN nq)), Lib.hid (b2.out.trans ((belowN nq).mono b2.out.size))⟩, by simp [intOf]; omega⟩
    · have e := Lib.hid (hno.out fun j hj => hb.out j hj (by omega))
      go_wp2_with fail
      go_ret
      exact ⟨by rw [← e.out]; rfl, b2.out⟩

set_option maxHeartbeats 1000000 in
theorem contains_any (p : Option Addr) (cap : Nat) (l : List MbN) (m : MbN) (w : World) (t : Mbs w p l) (hl : l.length ≤ 4611686018427387904) :
    Calls Try.prog 48 #[.slice p l.length cap, mbV m] w fun e w' => e = .returned (.bool (goneN l m)) ∧ Below w.heap.size w w' := by
  have hx := Lib.hid (ixN_any (fun x => decide (m = x)) l)
  have hg : Hid (goneN l m = l.any (fun x => decide (m = x))) := rfl
  obtain ⟨m0, m1⟩ := m
  have ba := Lib.hid ((Below.refl w.heap.size w).alloc (Nat.le_refl _) (.cells #[.int .i64 m0, .int .i64 m1] 26))
  have hc := Lib.hid (idxMb_any p cap l ⟨m0, m1⟩ _ (t.below ba.out) hl)
  generalize ixN (fun x : MbN => decide ((⟨m0, m1⟩ : MbN) = x)) l = R at *
  replace t := Lib.hid t
  replace hl := Lib.hid hl
  go_enter Try.func48, Try.ntmps48
  go_wp2_with fail
  refine hc.out.mono ?_
  rintro e wc ⟨rfl, b2⟩
  go_wp2_with fail
  go_ret
  refine ⟨?_, ba.out.trans (b2.mono ba.out.size)⟩
  rw [hg.out, ← hx.out]
  rfl
set_option maxHeartbeats 2000000 in
theorem equal_any (p q : Option Addr) (pc qc : Nat) (l m : List StN) (w : World) (t : Chn w p l) (u : Chn w q m) (hl : l.length ≤ 4611686018427387904) (hm : m.length ≤ 4611686018427387904) :
    Calls Try.prog 72 #[.slice p l.length pc, .slice q m.length qc] w fun e w' => e = .returned (.bool (decide (l = m))) ∧ Below w.heap.size w w' := by
  have b0 := Lib.hid (Below.refl w.heap.size w)
  have hl2 : (l.length : Int) ≤ 4611686018427387904 := by omega
  have hm2 : (m.length : Int) ≤ 4611686018427387904 := by omega
  obtain ⟨R, hR⟩ : ∃ R, decide (l = m) = R := ⟨_, rfl⟩
  rw [hR]
  replace t := Lib.hid t
  replace u := Lib.hid u
  replace hl := Lib.hid hl
  replace hm := Lib.hid hm
  by_cases hlen : (l.length : Int) = m.length
  · have hlen2 : l.length = m.length := by omega
    have hno : Hid (∀ k (h : k < l.length) (h2 : k < m.length), l[k] ≠ m[k] → false = R) := fun k h h2 hne => by
      rw [← hR]; symm; apply decide_eq_false; intro e; subst e; exact hne rfl
    have hye : Hid ((∀ k (h : k < l.length) (h2 : k < m.length), l[k] = m[k]) → true = R) := fun h => by
      rw [← hR]; symm; apply decide_eq_true; exact List.ext_getElem hlen2 h
    clear hR
    have hne : ((l.length : Int) != m.length) = false := by simp [hlen]
    replace hlen2 := Lib.hid hlen2
    replace hlen := Lib.hid hlen
    go_enter Try.func72, Try.ntmps72
    go_wp2_with fail
    clear hne
    go_loopw [13] (fun v wr => ∃ k : Nat, v = .int .i64 k ∧ (k : Int) ≤ l.length ∧ Hid (∀ j (h : j < l.length) (h2 : j < m.length), j < k → l[j] = m[j]) ∧ Hid (Below w.heap.size w wr)) (fun v _ => ((l.length : Int) - intOf v).toNat)
    case atStart => exact ⟨0, rfl, by omega, Lib.hid fun j h h2 h3 => by omega, b0⟩
    case round =>
      obtain ⟨k, rfl, hk, hb, b2⟩ := hrel
      clear b0
      by_cases hlt : (k : Int) < l.length
      · have hkl : k < l.length := by omega
        have hkm : k < m.length := by rw [← hlen2.out]; exact hkl
        have hltm : (k : Int) < m.length := by omega
        obtain ⟨b, off, rfl, c0, c1, c2⟩ := (t.out.below b2.out) k hkl
        obtain ⟨b', off', rfl, d0, d1, d2⟩ := (u.out.below b2.out) k hkm
        have hno2 := Lib.hid (hno.out k hkl hkm)
        have hb2 : Hid (l[k] = m[k] → ∀ j (h : j < l.length) (h2 : j < m.length), j < k + 1 → l[j] = m[j]) := fun e j h h2 h3 => by
          rcases Nat.lt_or_ge j k with h1 | h1
          · exact hb.out j h h2 h1
          · obtain rfl : j = k := by omega
            exact e
        generalize l[k] = s at *
        generalize m[k] = r at *
        have hq := st_eq s r
        obtain ⟨⟨s0, s1⟩, s2⟩ := s
        obtain ⟨⟨r0, r1⟩, r2⟩ := r
        simp only at c0 c1 c2 d0 d1 d2
        by_cases he : (⟨⟨s0, s1⟩, s2⟩ : StN) = ⟨⟨r0, r1⟩, r2⟩
        · rw [decide_eq_true he] at hq
          have hb3 := Lib.hid (hb2.out he)
          replace he := Lib.hid he
          go_wp2_with fail
          go_quiet (fail)
          go_wp2_with fail
          exact ⟨⟨k + 1, by go_num, by omega, hb3, Lib.hid (b2.out.trans ((belowN nq).mono b2.out.size))⟩, by simp [intOf]; omega⟩
        · rw [decide_eq_false he] at hq
          have e := Lib.hid (hno2.out he)
          replace he := Lib.hid he
          go_wp2_with fail
          go_quiet (fail)
          go_wp2_with fail
          go_ret
          exact ⟨by rw [← e.out]; rfl, b2.out.trans ((belowN nq).mono b2.out.size)⟩
      · have e := Lib.hid (hye.out fun j h h2 => hb.out j h h2 (by omega))
        go_wp2_with fail
        go_ret
        exact ⟨by rw [← e.out]; rfl, b2.out⟩
  · have e : Hid (false = R) := Lib.hid (show false = R by rw [← hR]; symm; apply decide_eq_false; intro e; exact hlen (by rw [e]))
    clear hR
    have hne : ((l.length : Int) != m.length) = true := by simpa using hlen
    replace hlen := Lib.hid hlen
    go_enter Try.func72, Try.ntmps72
    go_wp2_with fail
    go_ret
    exact ⟨by rw [← e.out]; rfl, b0.out⟩

/-! ### Rows of one's own -/
def flatC (l : List StN) : List Value := l.flatMap fun s => (stC s).toList
theorem flatC_len (l : List StN) : (flatC l).length = l.length * 3 := by
  induction l with
  | nil => rfl
  | cons x l ih => show ((stC x).toList ++ flatC l).length = _; rw [List.length_append, ih, List.length_cons]; simp; omega
theorem flatC_snoc (l : List StN) (s : StN) : flatC l ++ (stC s).toList = flatC (l ++ [s]) := by unfold flatC; simp
theorem flatC_at (l : List StN) (i : Nat) (hi : i < l.length) (j : Nat) (hj : j < 3) : (flatC l)[i * 3 + j]? = (stC l[i])[j]? := by
  induction l generalizing i with
  | nil => simp at hi
  | cons x l ih =>
    show ((stC x).toList ++ flatC l)[i * 3 + j]? = _
    match i, hi with
    | 0, _ =>
      rw [Nat.zero_mul, Nat.zero_add, List.getElem?_append_left (by simpa using hj)]
      simp
    | i + 1, hi =>
      rw [List.getElem?_append_right (by simp; omega)]
      have := ih i (by simpa using hi)
      rw [show (i + 1) * 3 + j - (stC x).toList.length = i * 3 + j by simp; omega, this]
      simp
theorem flatC_one (l : List StN) : ∀ u ∈ flatC l, u.oneCell' = true := by
  intro u hu
  obtain ⟨s, _, hs⟩ := List.mem_flatMap.1 hu
  simp only [List.mem_cons, List.not_mem_nil, or_false] at hs
  rcases hs with rfl | rfl | rfl <;> rfl
theorem chn_flat {w : World} {b off : Nat} {l : List StN} (h : Chn w (some ⟨b, off, none⟩) l) : ∀ (j : Nat) (u : Value), (flatC l)[j]? = some u → w.cell? ((⟨b, off, none⟩ : Addr).add j) = some u := by
  intro j u hu
  rw [Addr.add_lit]
  have hj : j < l.length * 3 := by
    rcases Nat.lt_or_ge j (l.length * 3) with e | e
    · exact e
    · rw [List.getElem?_eq_none (by rw [flatC_len]; exact e)] at hu; cases hu
  have hi : j / 3 < l.length := by omega
  have hr : j % 3 < 3 := Nat.mod_lt _ (by omega)
  have e : j / 3 * 3 + j % 3 = j := by omega
  rw [← e, flatC_at l _ hi _ hr] at hu
  obtain ⟨b', off', eb, c0, c1, c2⟩ := h _ hi
  injection eb with eb; injection eb with e1 e2; subst e1 e2
  rw [← e]
  match hm : j % 3, hr with
  | 0, _ => rw [hm] at hu; simp at hu; rw [← hu]; exact c0
  | 1, _ => rw [hm] at hu; simp at hu; rw [← hu, ← c1, Nat.add_assoc]
  | 2, _ => rw [hm] at hu; simp at hu; rw [← hu, ← c2, Nat.add_assoc]
abbrev SOwn (base : Nat) (v : Value) (l : List StN) (W : World) : Prop := W.ownsRow base 70 3 v l.length (flatC l)
theorem SOwn.below {base : Nat} {v : Value} {l : List StN} {W W' : World} (h : SOwn base v l W) (k : Below W.heap.size W W') : SOwn base v l W' :=
  h.kept (row := none) ⟨k.os, k.tape, k.output, k.size, fun i hi _ => k.block i hi⟩ (by cases v.ownBlock; exact Or.inl rfl; exact Or.inr (by simp))
theorem SOwn.chn {base : Nat} {v : Value} {l : List StN} {W : World} (h : SOwn base v l W) : ∃ p cap, v = .slice p l.length cap ∧ l.length ≤ cap ∧ Chn W p l := by
  rcases h.2 with ⟨h1, h2⟩ | ⟨g, c, cur, h1, h2, h3, h4, h5, h6, h7⟩
  · obtain rfl := List.length_eq_zero_iff.1 h2
    exact ⟨none, 0, h1, Nat.le_refl _, Chn.nil W none⟩
  · refine ⟨_, c, h1, h4, fun i hi => ⟨g, 0, rfl, ?_, ?_, ?_⟩⟩
    all_goals
      have hc := fun j hj => World.ownsRow.cells h (g := g) (by rw [h1]; rfl) (i * 3 + j) _ ((flatC_at l i hi j hj).trans (Array.getElem?_eq_getElem (show j < (stC l[i]).size from hj)))
      simp only [Addr.add_lit] at hc
    · exact hc 0 (by omega)
    · exact hc 1 (by omega)
    · exact hc 2 (by omega)
theorem infoSt : (Try.prog.info? 70).map (fun i => (i.zero, i.size, i.bytes)) = some (some (.agg #[.int .i64 0, .int .i64 0, .bool false]), 3, 24) := by kernel_rfl
/-- One seat more. -/
theorem push_seat {base : Nat} {v : Value} {l : List StN} {W : World} (h : SOwn base v l W) (hl : l.length ≤ 1000) (hbase : base ≤ W.heap.size) (s : StN) {vb : Nat} (hvb : Blk W vb (stC s) 70) :
    ∃ v' w', (Builtin.append_ #[22, 22] 22 #[v, .slice (some ⟨vb, 0, none⟩) 1 1]).run Try.prog W = .ok v' w' ∧ SOwn base v' (l ++ [s]) w' ∧ Below base W w' ∧ W.grownBy w' v.ownBlock := by
  obtain ⟨i0, hi0, hz0, hzs, hzb⟩ := info_parts infoSt
  obtain ⟨v', w', g1, g2, g3, -, g5⟩ := run_append_own_at W base 22 22 70 i0 _ 3 24 Try.underlying22 hi0 hz0 hzs hzb rfl (by decide) v l.length (flatC l) h ⟨vb, 0, none⟩ 1 1 (stC s).toList (by simp) (fun j u hu => by
    rw [Addr.add_lit, Nat.zero_add]
    rw [Array.getElem?_toList] at hu
    exact (hvb.cell j).trans hu) (fun u hu => flatC_one [s] u (by simpa [flatC] using hu)) (by unfold maxLen; omega) (by omega) hbase
  refine ⟨v', w', g1, ?_, (Below.refl base W).grown g3 hbase fun k hk => (World.ownsRow.lt h k hk).1, g3⟩
  show World.ownsRow _ _ _ _ _ _ _
  rw [List.length_append, ← flatC_snoc]
  exact g2
/-- A row's seats behind an empty one. -/
theorem copy_seats {base : Nat} {v : Value} {W : World} (h : SOwn base v [] W) (hbase : base ≤ W.heap.size) {b off cap : Nat} {l : List StN} (t : Chn W (some ⟨b, off, none⟩) l) (hl : l.length ≤ 1000) :
    ∃ v' w', (Builtin.append_ #[22, 22] 22 #[v, .slice (some ⟨b, off, none⟩) l.length cap]).run Try.prog W = .ok v' w' ∧ SOwn base v' l w' ∧ Below base W w' ∧ W.grownBy w' v.ownBlock := by
  obtain ⟨i0, hi0, hz0, hzs, hzb⟩ := info_parts infoSt
  obtain ⟨v', w', g1, g2, g3, -, g5⟩ := run_append_own_at W base 22 22 70 i0 _ 3 24 Try.underlying22 hi0 hz0 hzs hzb rfl (by decide) v 0 [] h ⟨b, off, none⟩ l.length cap (flatC l) (flatC_len l) (chn_flat t) (flatC_one l) (by unfold maxLen; omega) (by omega) hbase
  refine ⟨v', w', g1, ?_, (Below.refl base W).grown g3 hbase fun k hk => (World.ownsRow.lt h k hk).1, g3⟩
  show World.ownsRow _ _ _ _ _ _ _
  simpa using g2
theorem empty_seats (w : World) : SOwn w.heap.size (.slice (some ⟨w.heap.size, 0, none⟩) 0 0) [] (w.alloc (.cells #[] 70)) := World.ownsRow_lit w #[] 0 (Nat.le_refl _) (by unfold maxLen; omega) rfl
set_option maxHeartbeats 2000000 in
theorem clone_any (b off cap : Nat) (l : List StN) (w : World) (t : Chn w (some ⟨b, off, none⟩) l) (hl : l.length ≤ 1000) :
    Calls Try.prog 50 #[.slice (some ⟨b, off, none⟩) l.length cap] w fun e w' => (∃ v, e = .returned v ∧ SOwn w.heap.size v l w') ∧ Below w.heap.size w w' := by
  have ba := (Below.refl w.heap.size w).alloc (Nat.le_refl _) (.cells #[] 70)
  have o : Hid (World.ownsRow (w.alloc (.cells #[] 70)) w.heap.size 70 3 (.slice (some ⟨w.heap.size, 0, none⟩) 0 0) 0 []) := empty_seats w
  have q22 : ∀ (w : World) (a : Option Addr) (n c n' c' : Nat), (binOp .eql 22 (.slice a n c) (.slice none n' c')).run Try.prog w = .ok (.bool a.isNone) w := fun w a n c n' c' => Lib.run_eql_slice_nil w _ _ a n c n' c' Try.underlying22
  obtain ⟨i0, hi0, hz0, hzs, hzb⟩ := info_parts infoSt
  have t2 := Lib.hid (t.below ba)
  replace t := Lib.hid t
  go_enter Try.func50, Try.ntmps50
  go_wp2_with (at_builtin; refine wpList_append_own _ rfl _ _ 22 rfl w.heap.size 70 i0 _ 3 24 Try.underlying22 hi0 hz0 hzs hzb rfl (by decide) _ _ _ rfl o.out ⟨b, off, none⟩ l.length cap (flatC l) rfl (flatC_len l) (chn_flat t2.out) (flatC_one l) (by unfold maxLen; omega) (by omega) ba.size ?_)
  intro v' w' g2 g3 _
  have b3 := (ba.grown g3 ba.size fun k hk => (World.ownsRow.lt o.out k hk).1)
  have g4 : SOwn w.heap.size v' l w' := by
    show World.ownsRow _ _ _ _ _ _ _
    simpa using g2
  clear g2 g3
  replace g4 := Lib.hid g4
  replace b3 := Lib.hid b3
  go_wp2_with fail
  go_ret
  exact ⟨⟨_, rfl, g4.out⟩, b3.out⟩
end Go.Proofs.Ytnagidgffkffhaa.G
