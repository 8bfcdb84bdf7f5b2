/-
  Layer 11: the first chain (config's First, and the document's); whether two chains are the same. Condition: chains of at most 2^62 seats.
-/
import Derived.Test.YtnagidgffkffhaaGFollow2
set_option linter.unusedVariables false
set_option linter.unusedSimpArgs false
namespace Go.Proofs.Ytnagidgffkffhaa.G
open Go.RowKit Cfg
set_option maxRecDepth 100000

theorem firstN_succ (k : Nat) : (firstN (k + 1)).l = (firstN k).l ++ [⟨⟨(k : Int), 1⟩, true⟩] := by
  unfold firstN
  simp [List.range_succ]
theorem firstN_len (k : Nat) : (firstN k).l.length = k := by simp [firstN]
/-- The chain that grows, and the one of zeros, in their blocks. -/
structure Bg (w : World) (v : Value) (l : List StN) (w3 : World) : Prop where
  k : Blk w3 (w.heap.size + 1) #[.int .i64 1, v] 24
  z : Blk w3 w.heap.size #[.int .i64 0, .slice none 0 0] 24
  o : SOwn w.heap.size v l w3
  b : Below w.heap.size w w3
theorem Bg.new (w : World) : Bg w (.slice none 0 0) [] ((w.alloc (.cells #[.int .i64 0, .slice none 0 0] 24)).alloc (.cells #[.int .i64 1, .slice none 0 0] 24)) := by
  have ba := (Below.refl w.heap.size w).alloc (Nat.le_refl _) (.cells #[.int .i64 0, .slice none 0 0] 24)
  have bb := ba.alloc ba.size (.cells #[.int .i64 1, .slice none 0 0] 24)
  have x1 := Blk.new w #[.int .i64 0, .slice none 0 0] 24
  have x2 := Blk.new (w.alloc (.cells #[.int .i64 0, .slice none 0 0] 24)) #[.int .i64 1, .slice none 0 0] 24
  have y1 := x1.below ((Below.refl _ _).alloc (Nat.le_refl _) (.cells #[.int .i64 1, .slice none 0 0] 24))
  simp only [World.size_alloc] at x2
  exact ⟨x2, y1, World.ownsRow_nil _ _ _ _, bb⟩
theorem Bg.below {w w3 w4 : World} {v : Value} {l : List StN} (h : Bg w v l w3) (k : Below w3.heap.size w3 w4) : Bg w v l w4 := ⟨h.k.below k, h.z.below k, h.o.below k, h.b.trans (k.mono h.b.size)⟩
theorem Bg.push {w w3 w4 : World} {v v' : Value} {l l' : List StN} (h : Bg w v l w3) (g : w3.grownBy w4 v.ownBlock) (o : SOwn w.heap.size v' l' w4) : Bg w v' l' (w4.setCell ⟨w.heap.size + 1, 1, none⟩ v') := by
  have k4 := h.k.grown g (own_apart h.o h.k (by decide))
  have z4 := h.z.grown g (own_apart h.o h.z (by decide))
  have b4 := h.b.trans ((Below.refl w.heap.size w3).grown g h.b.size fun k hk => (World.ownsRow.lt h.o k hk).1)
  refine ⟨k4.set, ?_, o.setz k4 (by decide), b4.setCell (p := ⟨_, _, none⟩) (Nat.le_succ _) _⟩
  exact (heap_setCell_other w4 ⟨w.heap.size + 1, 1, none⟩ w.heap.size v' (by simp)).trans z4

set_option maxHeartbeats 4000000 in
theorem first_any (n : Int) (w : World) : Calls Try.prog 12 #[.int .i64 n] w fun e w' => AnsC (if 1 ≤ n ∧ n ≤ 8 then (firstN n.toNat, 0) else (zeroN, 1)) w e w' := by
  obtain ⟨A, hA⟩ : ∃ A, (if 1 ≤ n ∧ n ≤ 8 then (firstN n.toNat, (0 : Int)) else (zeroN, 1)) = A := ⟨_, rfl⟩
  rw [hA]
  by_cases h : 1 ≤ n ∧ n ≤ 8
  · rw [if_pos h] at hA
    obtain ⟨k, rfl⟩ : ∃ k : Nat, n = k := ⟨n.toNat, by omega⟩
    rw [Int.toNat_natCast] at hA
    have h1 : (1 : Int) ≤ k := h.1
    have h2 : (k : Int) ≤ 8 := h.2
    replace hA := Lib.hid hA
    have hk8 : k ≤ 8 := by omega
    have x := Lib.hid (Bg.new w)
    obtain ⟨i0, hi0, hz0, hzs, hzb⟩ := info_parts infoSt
    clear h
    go_enter Try.func12, Try.ntmps12
    go_upto_region 4 with fail
    generalize ((w.alloc _).alloc _) = w2 at *
    go_wp2_with fail
    go_loopw [15] (fun i wr => ∃ (j : Nat) (v : Value), i = .int .i64 j ∧ (j : Int) ≤ k ∧ Hid (Bg w v (firstN j).l wr)) (fun i _ => ((k : Int) - intOf i).toNat)
    case atStart => exact ⟨0, _, rfl, by omega, x⟩
    case round =>
      obtain ⟨j, v, rfl, hj, x3⟩ := hrel
      clear x
      have y0 := x3.out.k.cell 0
      have y1 := x3.out.k.cell 1
      have fy1 := x3.out.k.fz 1
      try dsimp only at y0 y1
      by_cases hlt : (j : Int) < k
      · have hfl := firstN_len j
        have hj8 : j ≤ 8 := by omega
        have bx := (Below.refl wr.heap.size wr).alloc (Nat.le_refl _) (.cells #[.int .i64 (j : Int), .int .i64 1, .bool true] 70)
        have x4 := Lib.hid (x3.out.below bx)
        have kb := Lib.hid (Blk.new wr #[.int .i64 (j : Int), .int .i64 1, .bool true] 70)
        have hs4 : Hid (w.heap.size ≤ (wr.alloc (.cells #[.int .i64 (j : Int), .int .i64 1, .bool true] 70)).heap.size) := x4.out.b.size
        have hnew : Hid (∀ (i : Nat) (u : Value), (stC ⟨⟨(j : Int), 1⟩, true⟩).toList[i]? = some u → (wr.alloc (.cells #[.int .i64 (j : Int), .int .i64 1, .bool true] 70)).cell? ((⟨wr.heap.size, 0, none⟩ : Addr).add i) = some u) := fun i u hu => by
          rw [Addr.add_lit, Nat.zero_add]
          rw [Array.getElem?_toList] at hu
          exact (kb.out.cell i).trans hu
        clear bx
        go_wp2_with (at_builtin; refine wpList_append_own_at _ rfl _ _ 22 rfl w.heap.size 70 i0 _ 3 24 Try.underlying22 hi0 hz0 hzs hzb rfl (by decide) _ _ _ rfl x4.out.o ⟨wr.heap.size, 0, none⟩ 1 1 (stC ⟨⟨(j : Int), 1⟩, true⟩).toList rfl (by simp) hnew.out (fun u hu => flatC_one [⟨⟨(j : Int), 1⟩, true⟩] u (by simpa [flatC] using hu)) (by unfold maxLen; omega) (by omega) hs4.out ?_)
        intro v' w8 g8 gr8 _ _
        have o8 : SOwn w.heap.size v' (firstN (j + 1)).l w8 := by
          show World.ownsRow _ _ _ _ _ _ _
          rw [firstN_succ, List.length_append, ← flatC_snoc, firstN_len]
          exact g8
        obtain ⟨pv', cv', hv', -, -⟩ := o8.chn
        subst hv'
        have k8 := x4.out.k.grown gr8 (own_apart x4.out.o x4.out.k (by decide))
        have x8 := Lib.hid (x4.out.push gr8 o8)
        have f8 := k8.fz 1
        have z8 := k8.cell 1
        try dsimp only at z8
        clear g8 gr8 hnew kb x4 y0 y1 fy1 x3 o8 k8
        go_wp2_with fail
        exact ⟨⟨j + 1, _, by go_num, by omega, x8⟩, by simp [intOf]; omega⟩
      · obtain rfl : j = k := by omega
        obtain ⟨pv, cv, hvf, hcv, tv⟩ := x3.out.o.chn
        have o3 := Lib.hid x3.out.o
        subst hvf
        have z0 := x3.out.z.cell 0
        have z1 := x3.out.z.cell 1
        have f0 := x3.out.z.fz 0
        have f1 := x3.out.z.fz 1
        have hne : w.heap.size ≠ w.heap.size + 1 := by omega
        clear tv
        go_wp2_with fail
        refine bodyPost_ret (v := .tuple #[.agg #[.int .i64 1, .slice pv (firstN j).l.length cv], .int .i64 0]) ?_ rfl ?_
        · rw [results_cell_tmp rfl]
          go_simp
        · rw [← hA.out]
          exact ⟨⟨pv, cv, rfl, ((o3.out.setz x3.out.z (by decide)).setz x3.out.z.set (by decide)).chn2.1, hcv⟩, bset (bset x3.out.b (Nat.le_refl _)) (Nat.le_refl _)⟩
  · rw [if_neg h] at hA
    replace hA := Lib.hid hA
    have ba := Lib.hid ((Below.refl w.heap.size w).alloc (Nat.le_refl _) (.cells #[.int .i64 0, .slice none 0 0] 24))
    by_cases h1 : n < 1
    · clear h
      go_enter Try.func12, Try.ntmps12
      go_wp2_with fail
      refine bodyPost_ret (v := .tuple #[.agg #[.int .i64 0, .slice none 0 0], .int .i64 1]) ?_ rfl ?_
      · rw [results_cell_tmp rfl]
        go_simp
      · rw [← hA.out]
        exact AnsC.zero ba.out
    · have h2 : 8 < n := by omega
      clear h
      go_enter Try.func12, Try.ntmps12
      go_wp2_with fail
      refine bodyPost_ret (v := .tuple #[.agg #[.int .i64 0, .slice none 0 0], .int .i64 1]) ?_ rfl ?_
      · rw [results_cell_tmp rfl]
        go_simp
      · rw [← hA.out]
        exact AnsC.zero ba.out

theorem results_cellA {fn : Func} {p : Tmp} {ty : TypeId} (h : fn.results = #[.cell p ty]) (tmps : Array Value) (P : Program) (w : World) :
    (results fn tmps).run P w = ((asAddr (tmps.getD p undef)).run P w).andThen fun a w₁ => (loadVar ty a).run P w₁ := by
  simp only [results, h]
  simp [Sem.run_bind, Result.andThen]
/-- A chain alone, as it is answered. -/
def AnsO (x : CfN) (w : World) (e : Ending) (w' : World) : Prop := (∃ p cap, e = .returned (.agg #[.int .i64 x.epoch, .slice p x.l.length cap]) ∧ Chn w' p x.l ∧ x.l.length ≤ cap) ∧ Below w.heap.size w w'
set_option maxHeartbeats 4000000 in
theorem refFirst_any (k : Nat) (w : World) (hk : k ≤ 8) : Calls Try.prog 14 #[.int .i64 (k : Int)] w fun e w' => AnsO (firstN k) w e w' := by
  have h2 : (k : Int) ≤ 8 := by omega
  have x := Lib.hid (Bg.new w)
  obtain ⟨i0, hi0, hz0, hzs, hzb⟩ := info_parts infoSt
  go_enter Try.func14, Try.ntmps14
  go_upto_region 2 with fail
  generalize ((w.alloc _).alloc _) = w2 at *
  go_wp2_with fail
  go_loopw [4] (fun i wr => ∃ (j : Nat) (v : Value), i = .int .i64 j ∧ (j : Int) ≤ k ∧ Hid (Bg w v (firstN j).l wr)) (fun i _ => ((k : Int) - intOf i).toNat)
  case atStart => exact ⟨0, _, rfl, by omega, x⟩
  case round =>
    obtain ⟨j, v, rfl, hj, x3⟩ := hrel
    clear x
    have y0 := x3.out.k.cell 0
    have y1 := x3.out.k.cell 1
    have fy1 := x3.out.k.fz 1
    try dsimp only at y0 y1
    by_cases hlt : (j : Int) < k
    · have hfl := firstN_len j
      have hj8 : j ≤ 8 := by omega
      have bx := (Below.refl wr.heap.size wr).alloc (Nat.le_refl _) (.cells #[.int .i64 (j : Int), .int .i64 1, .bool true] 70)
      have x4 := Lib.hid (x3.out.below bx)
      have kb := Lib.hid (Blk.new wr #[.int .i64 (j : Int), .int .i64 1, .bool true] 70)
      have hs4 : Hid (w.heap.size ≤ (wr.alloc (.cells #[.int .i64 (j : Int), .int .i64 1, .bool true] 70)).heap.size) := x4.out.b.size
      have hnew : Hid (∀ (i : Nat) (u : Value), (stC ⟨⟨(j : Int), 1⟩, true⟩).toList[i]? = some u → (wr.alloc (.cells #[.int .i64 (j : Int), .int .i64 1, .bool true] 70)).cell? ((⟨wr.heap.size, 0, none⟩ : Addr).add i) = some u) := fun i u hu => by
        rw [Addr.add_lit, Nat.zero_add]
        rw [Array.getElem?_toList] at hu
        exact (kb.out.cell i).trans hu
      clear bx
      go_wp2_with (at_builtin; refine wpList_append_own_at _ rfl _ _ 22 rfl w.heap.size 70 i0 _ 3 24 Try.underlying22 hi0 hz0 hzs hzb rfl (by decide) _ _ _ rfl x4.out.o ⟨wr.heap.size, 0, none⟩ 1 1 (stC ⟨⟨(j : Int), 1⟩, true⟩).toList rfl (by simp) hnew.out (fun u hu => flatC_one [⟨⟨(j : Int), 1⟩, true⟩] u (by simpa [flatC] using hu)) (by unfold maxLen; omega) (by omega) hs4.out ?_)
      intro v' w8 g8 gr8 _ _
      have o8 : SOwn w.heap.size v' (firstN (j + 1)).l w8 := by
        show World.ownsRow _ _ _ _ _ _ _
        rw [firstN_succ, List.length_append, ← flatC_snoc, firstN_len]
        exact g8
      obtain ⟨pv', cv', hv', -, -⟩ := o8.chn
      subst hv'
      have k8 := x4.out.k.grown gr8 (own_apart x4.out.o x4.out.k (by decide))
      have x8 := Lib.hid (x4.out.push gr8 o8)
      have f8 := k8.fz 1
      have z8 := k8.cell 1
      try dsimp only at z8
      clear g8 gr8 hnew kb x4 y0 y1 fy1 x3 o8 k8
      go_wp2_with fail
      exact ⟨⟨j + 1, _, by go_num, by omega, x8⟩, by simp [intOf]; omega⟩
    · obtain rfl : j = k := by omega
      obtain ⟨pv, cv, hvf, hcv, tv⟩ := x3.out.o.chn
      have o3 := Lib.hid x3.out.o
      subst hvf
      have z0 := x3.out.z.cell 0
      have z1 := x3.out.z.cell 1
      have f0 := x3.out.z.fz 0
      have f1 := x3.out.z.fz 1
      have hne : w.heap.size ≠ w.heap.size + 1 := by omega
      clear tv
      go_wp2_with fail
      refine bodyPost_ret (v := .agg #[.int .i64 1, .slice pv (firstN j).l.length cv]) ?_ rfl ?_
      · rw [results_cellA rfl]
        go_simp
      · exact ⟨⟨pv, cv, rfl, ((o3.out.setz x3.out.z (by decide)).setz x3.out.z.set (by decide)).chn2.1, hcv⟩, bset (bset x3.out.b (Nat.le_refl _)) (Nat.le_refl _)⟩

set_option maxHeartbeats 4000000 in
theorem same_any (a b : CfN) (p q : Option Addr) (pc qc : Nat) (w : World) (t : Chn w p a.l) (u : Chn w q b.l) (ha : a.l.length ≤ 4611686018427387904) (hb : b.l.length ≤ 4611686018427387904) :
    Calls Try.prog 13 #[cfV a p pc, cfV b q qc] w fun e w' => e = .returned (.bool (decide (a = b))) ∧ Below w.heap.size w w' := by
  have x := Lib.hid (Bw.new w (.slice p a.l.length pc) (.slice q b.l.length qc) a.epoch b.epoch)
  have t2 := Lib.hid (t.below x.out.b)
  have u2 := Lib.hid (u.below x.out.b)
  replace t := Lib.hid t
  replace u := Lib.hid u
  obtain ⟨e0, l⟩ := a
  obtain ⟨e1, m⟩ := b
  obtain ⟨R, hR⟩ : ∃ R, decide ((⟨e0, l⟩ : CfN) = ⟨e1, m⟩) = R := ⟨_, rfl⟩
  rw [hR]
  have hlI : (l.length : Int) ≤ 4611686018427387904 := by have : l.length ≤ 4611686018427387904 := ha; omega
  have hmI : (m.length : Int) ≤ 4611686018427387904 := by have : m.length ≤ 4611686018427387904 := hb; omega
  replace ha := Lib.hid ha
  replace hb := Lib.hid hb
  have y0 := x.out.k.cell 0
  have y1 := x.out.k.cell 1
  have z0 := x.out.z.cell 0
  have z1 := x.out.z.cell 1
  try dsimp only at y0 y1 z0 z1
  by_cases he : e0 = e1
  · subst he
    have hne0 : (e0 != e0) = false := by simp
    by_cases hlen : (l.length : Int) = m.length
    · have hlen2 : l.length = m.length := by omega
      have hno : Hid (∀ k (h : k < l.length) (h2 : k < m.length), l[k] ≠ m[k] → false = R) := fun k h h2 hne => by
        rw [← hR]; symm; apply decide_eq_false; intro e; injection e with _ e; subst e; exact hne rfl
      have hye : Hid ((∀ k (h : k < l.length) (h2 : k < m.length), l[k] = m[k]) → true = R) := fun h => by
        rw [← hR]; symm; apply decide_eq_true; rw [List.ext_getElem hlen2 h]
      clear hR
      have hne : ((l.length : Int) != m.length) = false := by rw [bne_eq_false_iff_eq]; exact hlen
      replace hlen2 := Lib.hid hlen2
      replace hlen := Lib.hid hlen
      go_enter Try.func13, Try.ntmps13
      go_wp2_with fail
      clear hne hne0 y0 y1 z0 z1
      generalize ((w.alloc _).alloc _) = w2 at *
      go_loopw [5] (fun v wr => ∃ k : Nat, v = .int .i64 k ∧ (k : Int) ≤ l.length ∧ Hid (∀ j (h : j < l.length) (h2 : j < m.length), j < k → l[j] = m[j]) ∧ Hid (Bw w (.slice p l.length pc) (.slice q m.length qc) e0 e0 wr)) (fun v _ => ((l.length : Int) - intOf v).toNat)
      case atStart => exact ⟨0, rfl, by omega, Lib.hid fun j h h2 h3 => by omega, x⟩
      case round =>
        obtain ⟨k, rfl, hk, hb, x3⟩ := hrel
        clear x
        have y1 := x3.out.k.cell 1
        have z1 := x3.out.z.cell 1
        try dsimp only at y1 z1
        by_cases hlt : (k : Int) < l.length
        · have hkl : k < l.length := by omega
          have hkm : k < m.length := by rw [← hlen2.out]; exact hkl
          have hltm : (k : Int) < m.length := by omega
          obtain ⟨g, off, rfl, c0, c1, c2⟩ := (t.out.below x3.out.b) k hkl
          obtain ⟨g', off', rfl, d0, d1, d2⟩ := (u.out.below x3.out.b) k hkm
          have hno2 := Lib.hid (hno.out k hkl hkm)
          have hb2 : Hid (l[k] = m[k] → ∀ j (h : j < l.length) (h2 : j < m.length), j < k + 1 → l[j] = m[j]) := fun e j h h2 h3 => by
            rcases Nat.lt_or_ge j k with h1 | h1
            · exact hb.out j h h2 h1
            · obtain rfl : j = k := by omega
              exact e
          generalize l[k] = s at *
          generalize m[k] = r at *
          have hq := st_eq s r
          obtain ⟨⟨s0, s1⟩, s2⟩ := s
          obtain ⟨⟨r0, r1⟩, r2⟩ := r
          simp only at c0 c1 c2 d0 d1 d2
          by_cases he : (⟨⟨s0, s1⟩, s2⟩ : StN) = ⟨⟨r0, r1⟩, r2⟩
          · rw [decide_eq_true he] at hq
            have hb3 := Lib.hid (hb2.out he)
            replace he := Lib.hid he
            go_wp2_with fail
            go_quiet (fail)
            go_wp2_with fail
            exact ⟨⟨k + 1, by go_num, by omega, hb3, Lib.hid (x3.out.below (belowN nq))⟩, by simp [intOf]; omega⟩
          · rw [decide_eq_false he] at hq
            have e := Lib.hid (hno2.out he)
            replace he := Lib.hid he
            go_wp2_with fail
            go_quiet (fail)
            go_wp2_with fail
            go_ret
            exact ⟨by rw [← e.out]; rfl, x3.out.b.trans ((belowN nq).mono x3.out.b.size)⟩
        · have e := Lib.hid (hye.out fun j h h2 => hb.out j h h2 (by omega))
          go_wp2_with fail
          go_ret
          exact ⟨by rw [← e.out]; rfl, x3.out.b⟩
    · have e : Hid (false = R) := Lib.hid (show false = R by rw [← hR]; symm; apply decide_eq_false; intro e; injection e with _ e; exact hlen (by rw [e]))
      clear hR
      have hne : ((l.length : Int) != m.length) = true := by rw [bne_iff_ne]; exact hlen
      replace hlen := Lib.hid hlen
      go_enter Try.func13, Try.ntmps13
      go_wp2_with fail
      go_ret
      exact ⟨by rw [← e.out]; rfl, x.out.b⟩
  · have e : Hid (false = R) := Lib.hid (show false = R by rw [← hR]; symm; apply decide_eq_false; intro e; injection e with e _; exact he e)
    clear hR
    have hne : (e0 != e1) = true := by rw [bne_iff_ne]; exact he
    replace he := Lib.hid he
    go_enter Try.func13, Try.ntmps13
    go_wp2_with fail
    go_ret
    exact ⟨by rw [← e.out]; rfl, x.out.b⟩
end Go.Proofs.Ytnagidgffkffhaa.G
