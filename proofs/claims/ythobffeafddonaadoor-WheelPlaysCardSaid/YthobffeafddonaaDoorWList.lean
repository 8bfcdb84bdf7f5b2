/-
  Layer 6: a list of pairs as it lies in memory; slices.Index, BinarySearchFunc, MinFunc at it, and the program's least.
-/
import Derived.Test.YthobffeafddonaaDoorWCmp
import Derived.DeepKeys
import Derived.OwnWalk
import Derived.Laws.OwnMore
import Derived.Laws.ResultCell
import Derived.Maps.AppendAt
set_option linter.unusedVariables false
namespace Go.Proofs.YthobffeafddonaaDoor
open Go.RowKit Whl

/-- The cells of a list of pairs. -/
def flat (l : List ItemN) : List Value := l.flatMap fun p => [.int .i64 p.1, .int .i64 p.2]
theorem flat_len (l : List ItemN) : (flat l).length = l.length * 2 := by
  induction l with
  | nil => rfl
  | cons p r ih => simp only [flat, List.flatMap_cons, List.length_append, List.length_cons, List.length_nil] at ih ⊢; omega
theorem flat_app (l m : List ItemN) : flat (l ++ m) = flat l ++ flat m := by simp [flat]
theorem flat_cons (p : ItemN) (l : List ItemN) : flat (p :: l) = [.int .i64 (p.1 : Int), .int .i64 (p.2 : Int)] ++ flat l := by simp [flat]
theorem flat_take (l : List ItemN) (k : Nat) (hk : k ≤ l.length) : flat (l.take k) = (flat l).take (k * 2) := by
  have e := flat_app (l.take k) (l.drop k)
  rw [List.take_append_drop] at e
  rw [e, List.take_left' (by rw [flat_len, List.length_take]; omega)]
theorem flat_drop (l : List ItemN) (k : Nat) (hk : k ≤ l.length) : flat (l.drop k) = (flat l).drop (k * 2) := by
  have e := flat_app (l.take k) (l.drop k)
  rw [List.take_append_drop] at e
  rw [e, List.drop_left' (by rw [flat_len, List.length_take]; omega)]
theorem flat_at (l : List ItemN) (i : Nat) (hi : i < l.length) : (flat l)[i * 2]? = some (.int .i64 (l[i].1 : Int)) ∧ (flat l)[i * 2 + 1]? = some (.int .i64 (l[i].2 : Int)) := by
  have e : l = l.take i ++ l[i] :: l.drop (i + 1) := by rw [List.getElem_cons_drop, List.take_append_drop]
  have h : flat l = flat (l.take i) ++ ([.int .i64 (l[i].1 : Int), .int .i64 (l[i].2 : Int)] ++ flat (l.drop (i + 1))) := by
    rw [← flat_cons, ← flat_app, ← e]
  have hl : (flat (l.take i)).length = i * 2 := by rw [flat_len, List.length_take]; omega
  rw [h]
  constructor
  · rw [List.getElem?_append_right (by omega), hl]; simp
  · rw [List.getElem?_append_right (by omega), hl]; simp [show i * 2 + 1 - i * 2 = 1 by omega]
theorem flat_one (l : List ItemN) : ∀ u ∈ flat l, u.oneCell' = true := by
  intro u hu
  simp only [flat, List.mem_flatMap] at hu
  obtain ⟨p, _, hp⟩ := hu
  simp only [List.mem_cons, List.not_mem_nil, or_false] at hp
  rcases hp with rfl | rfl <;> rfl

/-- A list of pairs of one's own in the world. -/
def Rw (base : Nat) (w : World) (v : Value) (l : List ItemN) : Prop := w.ownsRow base 52 2 v l.length (flat l)

theorem Rw.form {base : Nat} {w : World} {v : Value} {l : List ItemN} (h : Rw base w v l) : (v = .slice none 0 0 ∧ l = []) ∨ ∃ g cap, v = .slice (some ⟨g, 0, none⟩) l.length cap ∧ base ≤ g ∧ g < w.heap.size := by
  rcases h.2 with ⟨h1, h2⟩ | ⟨g, cap, cur, h1, h2, h3, _⟩
  · exact .inl ⟨h1, List.length_eq_zero_iff.1 h2⟩
  · exact .inr ⟨g, cap, h1, h2, (Array.getElem?_eq_some_iff.1 h3).1⟩
theorem Rw.cells {base : Nat} {w : World} {l : List ItemN} {g cap : Nat} (h : Rw base w (.slice (some ⟨g, 0, none⟩) l.length cap) l) (i : Nat) (hi : i < l.length) :
    w.cell? ⟨g, i * 2, none⟩ = some (.int .i64 (l[i].1 : Int)) ∧ w.cell? ⟨g, i * 2 + 1, none⟩ = some (.int .i64 (l[i].2 : Int)) := by
  have hf := flat_at l i hi
  rw [World.ownsRow.cellAt h _ (by omega), World.ownsRow.cellAt h _ (by omega)]
  exact hf
theorem Rw.nil (base : Nat) (w : World) : Rw base w (.slice none 0 0) [] := World.ownsRow_nil w base 52 2
theorem Rw.below {base : Nat} {w w' : World} {v : Value} {l : List ItemN} (h : Rw base w v l) (k : Below w.heap.size w w') : Rw base w' v l :=
  World.ownsRow.kept h (row := none) ⟨k.os, k.tape, k.output, k.size, fun i hi _ => k.block i hi⟩ (by cases v.ownBlock <;> simp)

theorem Rw.look {base : Nat} {w : World} {v : Value} {l : List ItemN} (h : Rw base w v l) : ∃ a cap, v = .slice a l.length cap ∧ l.length ≤ cap ∧ cap ≤ maxLen ∧ ∀ i (hi : i < l.length), ∃ g, a = some ⟨g, 0, none⟩ := by
  rcases h.2 with ⟨h1, h2⟩ | ⟨g, cap, cur, h1, h2, h3, h4, h5, _⟩
  · exact ⟨none, 0, by rw [h1, h2], by omega, by omega, fun i hi => by omega⟩
  · exact ⟨some ⟨g, 0, none⟩, cap, h1, h4, h5, fun i hi => ⟨g, rfl⟩⟩
theorem below_drewN {B : Nat} {w w' : World} (h : Below B w w') : ∀ n, Below B w (w'.drewN n)
  | 0 => h
  | n + 1 => (below_drewN h n).drew
theorem cells3 : Tryd.prog.cellsOf 3 = 1 := by kernel_rfl
theorem info3 : ∃ i, Tryd.prog.info? 3 = some i := info_of_underlying Tryd.underlying3
theorem info52 : (Tryd.prog.info? 52).map (fun i => (i.zero, i.size, i.bytes)) = some (some (.agg #[.int .i64 0, .int .i64 0]), 2, 16) := by kernel_rfl
theorem equal_two (a0 a1 b0 b1 : Int) (w : World) :
    Sem.run Tryd.prog (Op.equalIn 10000 52 (.agg #[.int .i64 a0, .int .i64 a1]) (.agg #[.int .i64 b0, .int .i64 b1])) w = .ok (a0 == b0 && a1 == b1) w := by
  obtain ⟨i, hi⟩ := info3
  rw [show (10000 : Nat) = 9999 + 1 from rfl, run_equalIn_array w 9999 _ _ Tryd.underlying52 hi, cells3, show List.range 2 = [0, 1] from rfl]
  simp [Op.eqItems, part, go_sem, Tryd.underlying3]
  by_cases h0 : a0 = b0 <;> by_cases h1 : a1 = b1 <;> simp [h0, h1]

/-- A pair's box. -/
structure Bx (g : Nat) (w : World) (p : ItemN) : Prop where
  c0 : w.cell? ⟨g, 0, none⟩ = some (.int .i64 (p.1 : Int))
  c1 : w.cell? ⟨g, 1, none⟩ = some (.int .i64 (p.2 : Int))
theorem Bx.below {g : Nat} {w w' : World} {p : ItemN} (h : Bx g w p) (k : Below w.heap.size w w') : Bx g w' p :=
  ⟨(k.cell (p := ⟨g, 0, none⟩) (World.block_lt_of_cell? w _ h.c0)).trans h.c0, (k.cell (p := ⟨g, 1, none⟩) (World.block_lt_of_cell? w _ h.c1)).trans h.c1⟩
theorem Bx.start (w : World) (p : ItemN) : Bx w.heap.size (w.alloc (.cells #[.int .i64 (p.1 : Int), .int .i64 (p.2 : Int)] 52)) p := ⟨by go_simp, by go_simp⟩

set_option maxRecDepth 100000 in
set_option maxHeartbeats 1000000 in
theorem index_any (base : Nat) (v : Value) (l : List ItemN) (p : ItemN) (w : World) (hr : Rw base w v l) (hp : p ∈ l) (hlen : l.length ≤ 1000000) :
    Calls Tryd.prog 44 #[v, pairV p] w fun e w' => e = .returned (.int .i64 (l.idxOf p : Nat)) ∧ Below w.heap.size w w' := by
  have hl : 0 < l.length := List.length_pos_of_mem hp
  rcases hr.form with ⟨_, h0⟩ | ⟨g, cap, rfl, hg1, hg2⟩
  · subst h0; simp at hl
  have hx : l.idxOf p < l.length := List.idxOf_lt_length_of_mem hp
  have B1 := Lib.hid (Bx.start w p)
  have b1 := Lib.hid ((Below.refl w.heap.size w).alloc (Nat.le_refl _) (.cells #[.int .i64 (p.1 : Int), .int .i64 (p.2 : Int)] 52))
  have R1 := Lib.hid (hr.below b1.out)
  have hn : (l.length : Int) ≤ 1000000 := by omega
  have hat : Hid (∀ j (hj : j < l.length), j < l.idxOf p → l[j] ≠ p) := fun j hj hlt e => by
    have := List.not_of_lt_findIdx (p := (· == p)) (xs := l) (show j < l.findIdx (· == p) from hlt)
    simp [e] at this
  have hat2 : Hid (l[l.idxOf p] = p) := List.getElem_idxOf hx
  replace hx := Lib.hid hx
  have heq := equal_two
  generalize l.idxOf p = X at *
  obtain ⟨p0, p1⟩ := p
  unfold pairV
  clear hr
  go_enter Tryd.func44, Tryd.ntmps44
  go_wp2_with fail
  go_loopw [8] (fun v wr => ∃ k : Nat, v = .int .i64 k ∧ (k : Int) ≤ l.length ∧ Hid (k ≤ X) ∧ Hid (Bx w.heap.size wr (p0, p1)) ∧ Hid (Below w.heap.size w wr) ∧ Hid (Rw base wr (.slice (some ⟨g, 0, none⟩) l.length cap) l)) (fun v _ => ((l.length : Int) - intOf v).toNat)
  case atStart => exact ⟨0, rfl, by omega, Nat.zero_le _, B1, b1, R1⟩
  case round =>
    obtain ⟨k, rfl, hk, hkX, B2, b2, R2⟩ := hrel
    clear B1 b1 R1
    have hkl : (k : Int) < l.length := by have := hkX.out; have := hx.out; omega
    obtain ⟨c0, c1⟩ := R2.out.cells k (by omega)
    have d0 := B2.out.c0
    have d1 := B2.out.c1
    generalize hq : l[k] = q at *
    obtain ⟨q0, q1⟩ := q
    simp only at c0 c1 d0 d1
    cases hb : ((p0 : Int) == (q0 : Int) && (p1 : Int) == (q1 : Int)) with
    | true =>
      have hXk : Hid (k = X) := by
        have h2 : q0 = p0 ∧ q1 = p1 := by simp at hb; omega
        rcases Nat.lt_or_ge k X with h3 | h3
        · exact absurd (by rw [hq, h2.1, h2.2]) (hat.out k (by omega) h3)
        · exact Nat.le_antisymm hkX.out h3
      clear hq
      go_wp2_with fail
      go_quiet (fail)
      go_wp2_with fail
      go_ret
      exact ⟨by rw [← hXk.out]; rfl, below_drewN b2.out nq⟩
    | false =>
      have hXk : Hid (k + 1 ≤ X) := by
        rcases Nat.lt_or_ge k X with h3 | h3
        · exact h3
        · have e : k = X := Nat.le_antisymm hkX.out h3
          subst e
          have h4 := hat2.out
          rw [hq] at h4
          injection h4 with h5 h6
          subst h5 h6
          simp at hb
      clear hq
      go_wp2_with fail
      go_quiet (fail)
      go_wp2_with fail
      exact ⟨⟨k + 1, by go_num, by omega, hXk, B2.out.below (below_drewN (Below.refl _ _) nq), below_drewN b2.out nq, R2.out.below (below_drewN (Below.refl _ _) nq)⟩, by simp [intOf]; omega⟩

theorem cmpP_lt (p q : ItemN) : (cmpP p q < 0) ↔ ltB p q = true := by
  rw [ltB_iff]
  unfold cmpP cmpI orI
  split <;> (try split) <;> (try split) <;> omega
def FoundAt (X : Nat) (e : Ending) : Prop := ∃ b, e = .returned (.tuple #[.int .i64 (X : Int), .bool b])
/-- All ahead of i are less, none from j on. -/
def Mid (l : List ItemN) (p : ItemN) (i j : Nat) : Prop := (∀ k (hk : k < l.length), k < i → ltB l[k] p = true) ∧ ∀ k (hk : k < l.length), j ≤ k → ltB l[k] p = false
theorem Mid.count {l : List ItemN} {p : ItemN} {i : Nat} (h : Mid l p i i) (hi : i ≤ l.length) : l.countP (ltB · p) = i := by
  have e : l.countP (ltB · p) = (l.take i).countP (ltB · p) + (l.drop i).countP (ltB · p) := by rw [← List.countP_append, List.take_append_drop]
  have e1 : (l.take i).countP (ltB · p) = (l.take i).length := by
    rw [List.countP_eq_length]
    intro q hq
    obtain ⟨k, hk, rfl⟩ := List.mem_iff_getElem.1 hq
    rw [List.length_take] at hk
    rw [List.getElem_take]
    exact h.1 k (by omega) (by omega)
  have e2 : (l.drop i).countP (ltB · p) = 0 := by
    rw [List.countP_eq_zero]
    intro q hq
    obtain ⟨k, hk, rfl⟩ := List.mem_iff_getElem.1 hq
    rw [List.length_drop] at hk
    rw [List.getElem_drop, h.2 (i + k) (by omega) (by omega)]
    simp
  rw [e, e1, e2, List.length_take]
  omega
theorem Mid.low {l : List ItemN} {p : ItemN} {i j h : Nat} (m : Mid l p i j) (hu : Up l) (hh : h < l.length) (hl : ltB l[h] p = true) : Mid l p (h + 1) j := by
  refine ⟨fun k hk hlt => ?_, m.2⟩
  rcases Nat.lt_or_ge k h with g | g
  · exact ltB_trans (List.pairwise_iff_getElem.1 hu k h hk hh g) hl
  · have e : k = h := by omega
    subst e; exact hl
theorem Mid.high {l : List ItemN} {p : ItemN} {i j h : Nat} (m : Mid l p i j) (hu : Up l) (hh : h < l.length) (hl : ltB l[h] p = false) : Mid l p i h := by
  refine ⟨m.1, fun k hk hge => ?_⟩
  rcases Nat.lt_or_ge h k with g | g
  · cases hb : ltB l[k] p with
    | false => rfl
    | true => rw [ltB_trans (List.pairwise_iff_getElem.1 hu h k hh hk g) hb] at hl; cases hl
  · have e : k = h := by omega
    subst e; exact hl

set_option maxRecDepth 100000 in
set_option maxHeartbeats 2000000 in
/-- The place at which a pair is to stand. -/
theorem search_any (base : Nat) (v : Value) (l : List ItemN) (p : ItemN) (w : World) (hr : Rw base w v l) (hup : Up l) (hlen : l.length ≤ 1000000) :
    Calls Tryd.prog 34 #[v, pairV p, .func (.func 35) #[] #[]] w fun e w' => FoundAt (l.countP (ltB · p)) e ∧ Below w.heap.size w w' := by
  obtain ⟨a, cap, rfl, _, _, ha⟩ := hr.look
  have B1 := Lib.hid (Bx.start w p)
  have b1 := Lib.hid ((Below.refl w.heap.size w).alloc (Nat.le_refl _) (.cells #[.int .i64 (p.1 : Int), .int .i64 (p.2 : Int)] 52))
  have R1 := Lib.hid (hr.below b1.out)
  have hn : (l.length : Int) ≤ 1000000 := by omega
  have m0 : Hid (Mid l p 0 l.length) := ⟨fun k hk h => by omega, fun k hk h => by omega⟩
  have hc : Hid (∀ i, i ≤ l.length → Mid l p i i → l.countP (ltB · p) = i) := fun i hi m => m.count hi
  have hlo : Hid (∀ i j h (hh : h < l.length), Mid l p i j → ltB l[h] p = true → Mid l p (h + 1) j) := fun i j h hh m => m.low hup hh
  have hhi : Hid (∀ i j h (hh : h < l.length), Mid l p i j → ltB l[h] p = false → Mid l p i h) := fun i j h hh m => m.high hup hh
  have cc := Lib.hid (fun W q => compare_any q p W)
  generalize l.countP (ltB · p) = X at *
  replace ha := Lib.hid ha
  clear hr hup hlen
  obtain ⟨p0, p1⟩ := p
  unfold pairV at *
  go_enter Tryd.func34, Tryd.ntmps34
  go_wp2_with fail
  go_loopw [9, 10] (fun vi vj wr => ∃ i j : Nat, vi = .int .i64 i ∧ vj = .int .i64 j ∧ (i : Int) ≤ j ∧ (j : Int) ≤ l.length ∧ Hid (Mid l (p0, p1) i j) ∧ Hid (Bx w.heap.size wr (p0, p1)) ∧ Hid (Below w.heap.size w wr) ∧ Hid (Rw base wr (.slice a l.length cap) l)) (fun vi vj _ => (intOf vj - intOf vi).toNat)
  case atStart => exact ⟨0, l.length, rfl, rfl, by omega, by omega, m0, B1, b1, R1⟩
  case round =>
    obtain ⟨i, j, rfl, rfl, hij, hj, m1, B2, b2, R2⟩ := hrel
    clear B1 b1 R1
    have d0 := B2.out.c0
    have d1 := B2.out.c1
    by_cases hlt : (i : Int) < j
    · obtain ⟨h, hh⟩ : ∃ h : Nat, ((i : Int) + j) / 2 = (h : Int) := ⟨(i + j) / 2, by omega⟩
      have hhl : h < l.length := by omega
      obtain ⟨g, rfl⟩ := ha.out h hhl
      obtain ⟨c0, c1⟩ := R2.out.cells h hhl
      generalize hq : l[h] = q at *
      have hcm := cmpP_lt q (p0, p1)
      obtain ⟨q0, q1⟩ := q
      simp only at c0 c1 d0 d1
      have cq := Lib.hid (fun W => cc.out W (q0, q1))
      simp only at cq
      have hi0 : (0 : Int) ≤ h := by omega
      have hhl2 : (h : Int) < l.length := by omega
      go_upto_region 5 with (simp only [hh])
      have hg : g < wr.heap.size := World.block_lt_of_cell? wr _ c0
      have hw : w.heap.size < wr.heap.size := World.block_lt_of_cell? wr _ d0
      have hS : Hid (∀ W, Below wr.heap.size wr W → W.cell? ⟨g, h * 2, none⟩ = some (.int .i64 (q0 : Int)) ∧ W.cell? ⟨g, h * 2 + 1, none⟩ = some (.int .i64 (q1 : Int)) ∧ W.cell? ⟨w.heap.size, 0, none⟩ = some (.int .i64 (p0 : Int)) ∧ W.cell? ⟨w.heap.size, 1, none⟩ = some (.int .i64 (p1 : Int))) := fun W hW =>
        ⟨(hW.cell (p := ⟨g, h * 2, none⟩) hg).trans c0, (hW.cell (p := ⟨g, h * 2 + 1, none⟩) hg).trans c1, (hW.cell (p := ⟨w.heap.size, 0, none⟩) hw).trans d0, (hW.cell (p := ⟨w.heap.size, 1, none⟩) hw).trans d1⟩
      have hb : Hid (Below wr.heap.size wr wr.drew) := (Below.refl _ _).drew
      have hcA := hS.out _ hb.out
      clear c0 c1 d0 d1 hg hw
      generalize hC : cmpP (q0, q1) (p0, p1) = C at *
      replace hcm := Lib.hid hcm
      replace hq := Lib.hid hq
      clear hC
      go_region_held3 (fun W => W.cell? ⟨g, h * 2, none⟩ = some (.int .i64 (q0 : Int)) ∧ W.cell? ⟨g, h * 2 + 1, none⟩ = some (.int .i64 (q1 : Int)) ∧ W.cell? ⟨w.heap.size, 0, none⟩ = some (.int .i64 (p0 : Int)) ∧ W.cell? ⟨w.heap.size, 1, none⟩ = some (.int .i64 (p1 : Int))) (first | (with_reducible exact hc6) | (with_reducible exact hcA) | go_keep)
        (first
          | (go_at_call 35; (with_reducible refine (cq.out _).mono ?_); rintro e w6 ⟨rfl, k6⟩; replace hb := Lib.hid (hb.out.trans (k6.mono hb.out.size)); have hc6 := hS.out _ hb.out; clear k6))
      have b3 := Lib.hid (b2.out.trans (hb.out.mono b2.out.size))
      have B3 := Lib.hid (B2.out.below hb.out)
      have R3 := Lib.hid (R2.out.below hb.out)
      by_cases hC0 : C < 0
      · have m2 : Hid (Mid l (p0, p1) (h + 1) j) := hlo.out i j h hhl m1.out (by rw [hq.out]; exact hcm.out.1 hC0)
        go_wp2_with fail
        exact ⟨⟨h + 1, j, by go_num, rfl, by omega, by omega, m2, B3, b3, R3⟩, by simp [intOf]; omega⟩
      · have m2 : Hid (Mid l (p0, p1) i h) := hhi.out i j h hhl m1.out (by
          rw [hq.out]
          cases hx : ltB (q0, q1) (p0, p1) with
          | false => rfl
          | true => exact absurd (hcm.out.2 hx) hC0)
        go_wp2_with fail
        exact ⟨⟨i, h, rfl, rfl, by omega, by omega, m2, B3, b3, R3⟩, by simp [intOf]; omega⟩
    · have hX : Hid (X = i) := hc.out i (by omega) (by have e : j = i := by omega
                                                       rw [e] at m1; exact m1.out)
      by_cases hin : (i : Int) < l.length
      · obtain ⟨g, rfl⟩ := ha.out i (by omega)
        obtain ⟨c0, c1⟩ := R2.out.cells i (by omega)
        generalize l[i] = q at *
        obtain ⟨q0, q1⟩ := q
        simp only at c0 c1 d0 d1
        have cq := Lib.hid (fun W => cc.out W (q0, q1))
        simp only at cq
        have hg : g < wr.heap.size := World.block_lt_of_cell? wr _ c0
        have hw : w.heap.size < wr.heap.size := World.block_lt_of_cell? wr _ d0
        have hS : Hid (∀ W, Below wr.heap.size wr W → W.cell? ⟨g, i * 2, none⟩ = some (.int .i64 (q0 : Int)) ∧ W.cell? ⟨g, i * 2 + 1, none⟩ = some (.int .i64 (q1 : Int)) ∧ W.cell? ⟨w.heap.size, 0, none⟩ = some (.int .i64 (p0 : Int)) ∧ W.cell? ⟨w.heap.size, 1, none⟩ = some (.int .i64 (p1 : Int))) := fun W hW =>
          ⟨(hW.cell (p := ⟨g, i * 2, none⟩) hg).trans c0, (hW.cell (p := ⟨g, i * 2 + 1, none⟩) hg).trans c1, (hW.cell (p := ⟨w.heap.size, 0, none⟩) hw).trans d0, (hW.cell (p := ⟨w.heap.size, 1, none⟩) hw).trans d1⟩
        have hb : Hid (Below wr.heap.size wr wr.drew) := (Below.refl _ _).drew
        have hcA := hS.out _ hb.out
        clear c0 c1 d0 d1 hg hw
        generalize cmpP (q0, q1) (p0, p1) = C at *
        go_upto_region 8 with fail
        go_region_held3 (fun W => W.cell? ⟨g, i * 2, none⟩ = some (.int .i64 (q0 : Int)) ∧ W.cell? ⟨g, i * 2 + 1, none⟩ = some (.int .i64 (q1 : Int)) ∧ W.cell? ⟨w.heap.size, 0, none⟩ = some (.int .i64 (p0 : Int)) ∧ W.cell? ⟨w.heap.size, 1, none⟩ = some (.int .i64 (p1 : Int))) (first | (with_reducible exact hc6) | (with_reducible exact hcA) | go_keep)
          (first
            | (go_at_call 35; (with_reducible refine (cq.out _).mono ?_); rintro e w6 ⟨rfl, k6⟩; replace hb := Lib.hid (hb.out.trans (k6.mono hb.out.size)); have hc6 := hS.out _ hb.out; clear k6))
        all_goals
          go_wp2_with fail
          go_ret2
          exact ⟨⟨_, by rw [hX.out]; rfl⟩, b2.out.trans (hb.out.mono b2.out.size)⟩
      · have hb : Hid (Below wr.heap.size wr wr.drew) := (Below.refl _ _).drew
        go_upto_region 8 with fail
        go_quiet (fail)
        go_wp2_with fail
        go_ret2
        exact ⟨⟨_, by rw [hX.out]; rfl⟩, below_drewN b2.out nq⟩
end Go.Proofs.YthobffeafddonaaDoor
