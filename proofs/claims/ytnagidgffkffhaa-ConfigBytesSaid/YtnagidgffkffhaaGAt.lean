/-
  Layer 11: who sits at a place, at the head, at the tail, behind a member, ahead of it; the document's, too. Condition: chains of at most 2^62 seats.
-/
import Derived.Test.YtnagidgffkffhaaGIdx
import Derived.Deep.RegionHeld3
set_option linter.unusedVariables false
set_option linter.unusedSimpArgs false
namespace Go.Proofs.Ytnagidgffkffhaa.G
open Go.RowKit Cfg
set_option maxRecDepth 100000
theorem bset {B q o : Nat} {x y : World} {v : Value} (h : Below B x y) (hq : B ≤ q) : Below B x (y.setCell ⟨q, o, none⟩ v) := h.setCell (p := ⟨q, o, none⟩) hq v

set_option maxHeartbeats 2000000 in
theorem at_any (c : CfN) (p : Option Addr) (cap : Nat) (i : Int) (w : World) (t : Chn w p c.l) :
    Calls Try.prog 42 #[cfV c p cap, .int .i64 i] w fun e w' => e = .returned (.tuple #[mbV (atN c.l i), .bool (isN c.l i)]) ∧ Below w.heap.size w w' := by
  obtain ⟨e0, l⟩ := c
  replace t : Chn w p l := t
  have z := Blk.new (w.alloc (.cells #[.int .i64 e0, .slice p l.length cap] 24)) #[.int .i64 0, .int .i64 0] 26
  rw [show (w.alloc (.cells #[.int .i64 e0, .slice p l.length cap] 24)).heap.size = w.heap.size + 1 by simp] at z
  have z0 := z.cell 0
  have z1 := z.cell 1
  have f0 := z.fz 0
  have f1 := z.fz 1
  have ba := (Below.refl w.heap.size w).alloc (Nat.le_refl _) (.cells #[.int .i64 e0, .slice p l.length cap] 24)
  have bb := Lib.hid (ba.alloc ba.size (.cells #[.int .i64 0, .int .i64 0] 26))
  clear z ba
  show Calls _ _ _ _ fun e w' => e = .returned (.tuple #[mbV (atN l i), .bool (isN l i)]) ∧ Below w.heap.size w w'
  by_cases h : 0 ≤ i ∧ i < l.length
  · obtain ⟨k, rfl⟩ : ∃ k : Nat, i = k := ⟨i.toNat, by omega⟩
    have hk : k < l.length := by omega
    have h0 : (0 : Int) ≤ k := by omega
    have h1 : (k : Int) < l.length := by omega
    rw [atN_yes hk, isN_yes h]
    obtain ⟨b, off, rfl, c0, c1, c2⟩ := (t.below bb.out) k hk
    replace t := Lib.hid t
    generalize l[k] = s at *
    obtain ⟨⟨s0, s1⟩, s2⟩ := s
    simp only at c0 c1 c2
    clear h
    have b9 := Lib.hid (((Below.refl w.heap.size w).alloc (Nat.le_refl _) (.cells #[.int .i64 e0, .slice (some ⟨b, off, none⟩) l.length cap] 24)).alloc (by simp) (.cells #[.int .i64 s0, .int .i64 s1] 26))
    go_enter Try.func42, Try.ntmps42
    go_wp2_with fail
    refine bodyPost_ret (v := .tuple #[.agg #[.int .i64 s0, .int .i64 s1], .bool true]) ?_ rfl ?_
    · rw [results_cell_tmp rfl]
      go_simp
    · exact ⟨rfl, b9.out⟩
  · rw [atN_no h, isN_no h]
    replace t := Lib.hid t
    have b9 := bb
    by_cases h0 : i < 0
    · clear h
      go_enter Try.func42, Try.ntmps42
      go_wp2_with fail
      refine bodyPost_ret (v := .tuple #[.agg #[.int .i64 0, .int .i64 0], .bool false]) ?_ rfl ?_
      · rw [results_cell_tmp rfl]
        go_simp
      · exact ⟨rfl, b9.out⟩
    · have h1 : ¬ i < (l.length : Int) := fun h1 => h ⟨by omega, h1⟩
      clear h
      go_enter Try.func42, Try.ntmps42
      go_wp2_with fail
      refine bodyPost_ret (v := .tuple #[.agg #[.int .i64 0, .int .i64 0], .bool false]) ?_ rfl ?_
      · rw [results_cell_tmp rfl]
        go_simp
      · exact ⟨rfl, b9.out⟩

set_option maxHeartbeats 2000000 in
theorem refAt_any (c : CfN) (p : Option Addr) (cap : Nat) (i : Int) (w : World) (t : Chn w p c.l) :
    Calls Try.prog 19 #[cfV c p cap, .int .i64 i] w fun e w' => e = .returned (.tuple #[mbV (atN c.l i), .bool (isN c.l i)]) ∧ Below w.heap.size w w' := by
  obtain ⟨e0, l⟩ := c
  replace t : Chn w p l := t
  have z := Blk.new (w.alloc (.cells #[.int .i64 e0, .slice p l.length cap] 24)) #[.int .i64 0, .int .i64 0] 26
  rw [show (w.alloc (.cells #[.int .i64 e0, .slice p l.length cap] 24)).heap.size = w.heap.size + 1 by simp] at z
  have z0 := z.cell 0
  have z1 := z.cell 1
  have f0 := z.fz 0
  have f1 := z.fz 1
  have ba := (Below.refl w.heap.size w).alloc (Nat.le_refl _) (.cells #[.int .i64 e0, .slice p l.length cap] 24)
  have bb := Lib.hid (ba.alloc ba.size (.cells #[.int .i64 0, .int .i64 0] 26))
  clear z ba
  show Calls _ _ _ _ fun e w' => e = .returned (.tuple #[mbV (atN l i), .bool (isN l i)]) ∧ Below w.heap.size w w'
  by_cases h : 0 ≤ i ∧ i < l.length
  · obtain ⟨k, rfl⟩ : ∃ k : Nat, i = k := ⟨i.toNat, by omega⟩
    have hk : k < l.length := by omega
    have h0 : (0 : Int) ≤ k := by omega
    have h1 : (k : Int) < l.length := by omega
    rw [atN_yes hk, isN_yes h]
    obtain ⟨b, off, rfl, c0, c1, c2⟩ := (t.below bb.out) k hk
    replace t := Lib.hid t
    generalize l[k] = s at *
    obtain ⟨⟨s0, s1⟩, s2⟩ := s
    simp only at c0 c1 c2
    clear h
    have b9 := Lib.hid (((Below.refl w.heap.size w).alloc (Nat.le_refl _) (.cells #[.int .i64 e0, .slice (some ⟨b, off, none⟩) l.length cap] 24)).alloc (by simp) (.cells #[.int .i64 s0, .int .i64 s1] 26))
    go_enter Try.func19, Try.ntmps19
    go_wp2_with fail
    refine bodyPost_ret (v := .tuple #[.agg #[.int .i64 s0, .int .i64 s1], .bool true]) ?_ rfl ?_
    · rw [results_cell_tmp rfl]
      go_simp
    · exact ⟨rfl, b9.out⟩
  · rw [atN_no h, isN_no h]
    replace t := Lib.hid t
    have b9 := bb
    by_cases h0 : i < 0
    · clear h
      go_enter Try.func19, Try.ntmps19
      go_wp2_with fail
      refine bodyPost_ret (v := .tuple #[.agg #[.int .i64 0, .int .i64 0], .bool false]) ?_ rfl ?_
      · rw [results_cell_tmp rfl]
        go_simp
      · exact ⟨rfl, b9.out⟩
    · have h1 : ¬ i < (l.length : Int) := fun h1 => h ⟨by omega, h1⟩
      clear h
      go_enter Try.func19, Try.ntmps19
      go_wp2_with fail
      refine bodyPost_ret (v := .tuple #[.agg #[.int .i64 0, .int .i64 0], .bool false]) ?_ rfl ?_
      · rw [results_cell_tmp rfl]
        go_simp
      · exact ⟨rfl, b9.out⟩

/-- A chain and a member in blocks of their own, and a third block for the answer. -/
structure Bx3 (w : World) (e0 : Int) (p : Option Addr) (n cap : Nat) (m0 m1 : Int) (w3 : World) : Prop where
  c0 : w3.cell? ⟨w.heap.size, 0, none⟩ = some (.int .i64 e0)
  c1 : w3.cell? ⟨w.heap.size, 1, none⟩ = some (.slice p n cap)
  d0 : w3.cell? ⟨w.heap.size + 1, 0, none⟩ = some (.int .i64 m0)
  d1 : w3.cell? ⟨w.heap.size + 1, 1, none⟩ = some (.int .i64 m1)
  z : Blk w3 (w.heap.size + 1 + 1) #[.int .i64 0, .int .i64 0] 26
  b : Below w.heap.size w w3
theorem Bx3.new (w : World) (e0 : Int) (p : Option Addr) (n cap : Nat) (m0 m1 : Int) : Bx3 w e0 p n cap m0 m1 (((w.alloc (.cells #[.int .i64 e0, .slice p n cap] 24)).alloc (.cells #[.int .i64 m0, .int .i64 m1] 26)).alloc (.cells #[.int .i64 0, .int .i64 0] 26)) := by
  have ba := (Below.refl w.heap.size w).alloc (Nat.le_refl _) (.cells #[.int .i64 e0, .slice p n cap] 24)
  have bb := ba.alloc ba.size (.cells #[.int .i64 m0, .int .i64 m1] 26)
  have bc := bb.alloc bb.size (.cells #[.int .i64 0, .int .i64 0] 26)
  have x1 := Blk.new w #[.int .i64 e0, .slice p n cap] 24
  have x2 := Blk.new (w.alloc (.cells #[.int .i64 e0, .slice p n cap] 24)) #[.int .i64 m0, .int .i64 m1] 26
  have x3 := Blk.new ((w.alloc (.cells #[.int .i64 e0, .slice p n cap] 24)).alloc (.cells #[.int .i64 m0, .int .i64 m1] 26)) #[.int .i64 0, .int .i64 0] 26
  have y1 := (x1.below ((Below.refl _ _).alloc (Nat.le_refl _) (.cells #[.int .i64 m0, .int .i64 m1] 26))).below ((Below.refl _ _).alloc (Nat.le_refl _) (.cells #[.int .i64 0, .int .i64 0] 26))
  have y2 := x2.below ((Below.refl _ _).alloc (Nat.le_refl _) (.cells #[.int .i64 0, .int .i64 0] 26))
  simp only [World.size_alloc] at x2 x3 y1 y2
  exact ⟨y1.cell 0, y1.cell 1, y2.cell 0, y2.cell 1, x3, bc⟩
theorem Bx3.below {w w3 w4 : World} {e0 : Int} {p : Option Addr} {n cap : Nat} {m0 m1 : Int} (h : Bx3 w e0 p n cap m0 m1 w3) (k : Below w3.heap.size w3 w4) : Bx3 w e0 p n cap m0 m1 w4 :=
  have h1 : w.heap.size < w3.heap.size := by have := h.z.lt; omega
  have h2 : w.heap.size + 1 < w3.heap.size := by have := h.z.lt; omega
  ⟨(k.cell (p := ⟨_, 0, none⟩) h1).trans h.c0, (k.cell (p := ⟨_, 1, none⟩) h1).trans h.c1, (k.cell (p := ⟨_, 0, none⟩) h2).trans h.d0, (k.cell (p := ⟨_, 1, none⟩) h2).trans h.d1, h.z.below k, h.b.trans (k.mono h.b.size)⟩

set_option maxHeartbeats 2000000 in
theorem head_any (c : CfN) (p : Option Addr) (cap : Nat) (w : World) (t : Chn w p c.l) :
    Calls Try.prog 15 #[cfV c p cap] w fun e w' => e = .returned (.tuple #[mbV (atN c.l 0), .bool (isN c.l 0)]) ∧ Below w.heap.size w w' := by
  obtain ⟨e0, l⟩ := c
  replace t : Chn w p l := t
  have z := Blk.new (w.alloc (.cells #[.int .i64 e0, .slice p l.length cap] 24)) #[.int .i64 0, .int .i64 0] 26
  rw [show (w.alloc (.cells #[.int .i64 e0, .slice p l.length cap] 24)).heap.size = w.heap.size + 1 by simp] at z
  have ba := (Below.refl w.heap.size w).alloc (Nat.le_refl _) (.cells #[.int .i64 e0, .slice p l.length cap] 24)
  have bb := ba.alloc ba.size (.cells #[.int .i64 0, .int .i64 0] 26)
  have hc := Lib.hid (at_any ⟨e0, l⟩ p cap 0 _ (t.below bb))
  replace bb := Lib.hid bb
  replace z := Lib.hid z
  replace t := Lib.hid t
  clear ba
  show Calls _ _ _ _ fun e w' => e = .returned (.tuple #[mbV (atN l 0), .bool (isN l 0)]) ∧ Below w.heap.size w w'
  dsimp only at hc
  generalize atN l 0 = m at *
  obtain ⟨s0, s1⟩ := m
  generalize isN l 0 = q at *
  go_enter Try.func15, Try.ntmps15
  go_wp2_with fail
  refine hc.out.mono ?_
  rintro e wc ⟨rfl, b2⟩
  have z2 := z.out.below b2
  have z0 := z2.cell 0
  have z1 := z2.cell 1
  have f0 := z2.fz 0
  have f1 := z2.fz 1
  have bc := Lib.hid (bb.out.trans (b2.mono bb.out.size))
  clear b2 hc z2 z
  go_wp2_with fail
  refine bodyPost_ret (v := .tuple #[.agg #[.int .i64 s0, .int .i64 s1], .bool q]) ?_ rfl ?_
  · rw [results_cell_tmp rfl]
    go_simp
  · exact ⟨rfl, bset (bset bc.out (Nat.le_succ _)) (Nat.le_succ _)⟩
set_option maxHeartbeats 2000000 in
theorem tail_any (c : CfN) (p : Option Addr) (cap : Nat) (w : World) (t : Chn w p c.l) (hl : c.l.length ≤ 4611686018427387904) :
    Calls Try.prog 16 #[cfV c p cap] w fun e w' => e = .returned (.tuple #[mbV (atN c.l ((c.l.length : Int) - 1)), .bool (isN c.l ((c.l.length : Int) - 1))]) ∧ Below w.heap.size w w' := by
  obtain ⟨e0, l⟩ := c
  replace t : Chn w p l := t
  replace hl : l.length ≤ 4611686018427387904 := hl
  have z := Blk.new (w.alloc (.cells #[.int .i64 e0, .slice p l.length cap] 24)) #[.int .i64 0, .int .i64 0] 26
  rw [show (w.alloc (.cells #[.int .i64 e0, .slice p l.length cap] 24)).heap.size = w.heap.size + 1 by simp] at z
  have ba := (Below.refl w.heap.size w).alloc (Nat.le_refl _) (.cells #[.int .i64 e0, .slice p l.length cap] 24)
  have bb := ba.alloc ba.size (.cells #[.int .i64 0, .int .i64 0] 26)
  have hc := Lib.hid (at_any ⟨e0, l⟩ p cap ((l.length : Int) - 1) _ (t.below bb))
  have hw : IntKind.i64.wrap ((l.length : Int) - 1) = (l.length : Int) - 1 := IntWalk.i64_in _ (by omega)
  replace bb := Lib.hid bb
  replace z := Lib.hid z
  replace t := Lib.hid t
  replace hl := Lib.hid hl
  clear ba
  show Calls _ _ _ _ fun e w' => e = .returned (.tuple #[mbV (atN l ((l.length : Int) - 1)), .bool (isN l ((l.length : Int) - 1))]) ∧ Below w.heap.size w w'
  dsimp only at hc
  generalize atN l ((l.length : Int) - 1) = m at *
  obtain ⟨s0, s1⟩ := m
  generalize isN l ((l.length : Int) - 1) = q at *
  go_enter Try.func16, Try.ntmps16
  go_wp2_with fail
  refine hc.out.mono ?_
  rintro e wc ⟨rfl, b2⟩
  have z2 := z.out.below b2
  have z0 := z2.cell 0
  have z1 := z2.cell 1
  have f0 := z2.fz 0
  have f1 := z2.fz 1
  have bc := Lib.hid (bb.out.trans (b2.mono bb.out.size))
  clear b2 hc z2 z
  go_wp2_with fail
  refine bodyPost_ret (v := .tuple #[.agg #[.int .i64 s0, .int .i64 s1], .bool q]) ?_ rfl ?_
  · rw [results_cell_tmp rfl]
    go_simp
  · exact ⟨rfl, bset (bset bc.out (Nat.le_succ _)) (Nat.le_succ _)⟩

end Go.Proofs.Ytnagidgffkffhaa.G
