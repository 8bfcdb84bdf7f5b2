/-
  Layer 6: the document's own Due and Advance.
-/
import Derived.Test.YthobffeafddonaaDoorWRefA
import Derived.Deep.QuietTactic
import Derived.BigQuiet
set_option linter.unusedVariables false
namespace Go.Proofs.YthobffeafddonaaDoor
open Go.RowKit Whl
set_option maxRecDepth 100000

theorem below_drewNi {B : Nat} {a w : World} (h : Below B a w) (n : Nat) : Below B a (w.drewN n) := ⟨h.os, h.tape, h.output, h.size, h.block⟩

/-- A row of pairs of one's own, grown by one that lies in a new block. -/
theorem grow_pair (B : Nat) (v : Value) (m : List ItemN) (x : ItemN) (w : World) (hr : Rw B w v m) (hB : B ≤ w.heap.size) (hm : m.length ≤ 1000) :
    ∃ v' w', (Builtin.append_ #[39, 39] 39 #[v, .slice (some ⟨w.heap.size, 0, none⟩) 1 1]).run Tryd.prog (w.alloc (.cells #[.int .i64 (x.1 : Int), .int .i64 (x.2 : Int)] 52)).drew = .ok v' w' ∧ Rw B w' v' (m ++ [x]) ∧ Kp (fun k => v.ownBlock = some k) w w' := by
  have kA : Below w.heap.size w (w.alloc (.cells #[.int .i64 (x.1 : Int), .int .i64 (x.2 : Int)] 52)).drew := ((Below.refl _ _).alloc (Nat.le_refl _) _).drew
  obtain ⟨v', w', h1, T⟩ := append_pair B v m x w.heap.size (w.alloc (.cells #[.int .i64 (x.1 : Int), .int .i64 (x.2 : Int)] 52)).drew (hr.below kA) (Go.heap_alloc_new w _) (Nat.le_trans hB kA.size) (by omega)
  refine ⟨v', w', h1, T.row, ⟨T.grown.os.trans kA.os, T.grown.tape.trans kA.tape, T.grown.output.trans kA.output, Nat.le_trans kA.size T.grown.size, fun k hk hn => (T.grown.block k (Nat.lt_of_lt_of_le hk kA.size) (fun e => hn e.symm)).trans (kA.block k hk)⟩⟩

/-- Where the loop of Due ends. -/
theorem due_fin {l : List ItemN} {T k m : Nat} (hup : Up l) (hall : ∀ j (hj : j < l.length), j < k → (l[j]).1 ≤ T) (hk : k ≤ l.length) (h : k = m ∨ (k ≤ m ∧ (k = l.length ∨ ∃ h : k < l.length, T < (l[k]).1))) : (dueBy l T).take m = l.take k := by
  have e1 : dueBy l T = dueBy (l.take k) T ++ dueBy (l.drop k) T := by
    unfold dueBy
    rw [← List.filter_append, List.take_append_drop]
  have e2 : dueBy (l.take k) T = l.take k := by
    unfold dueBy
    rw [List.filter_eq_self]
    intro p hp
    obtain ⟨i, hi, rfl⟩ := List.mem_iff_getElem.1 hp
    rw [List.length_take] at hi
    simp only [List.getElem_take, decide_eq_true_eq]
    exact hall i (by omega) (by omega)
  have hl : (l.take k).length = k := by rw [List.length_take]; omega
  rcases h with h | ⟨h1, h2⟩
  · subst h
    rw [e1, e2, List.take_left' hl]
  · have e3 : dueBy (l.drop k) T = [] := by
      unfold dueBy
      rw [List.filter_eq_nil_iff]
      intro p hp
      obtain ⟨i, hi, rfl⟩ := List.mem_iff_getElem.1 hp
      rw [List.length_drop] at hi
      simp only [List.getElem_drop, decide_eq_true_eq]
      rcases h2 with h2 | ⟨h3, h4⟩
      · omega
      · by_cases e : i = 0
        · subst e
          simp only [Nat.add_zero]
          omega
        · have := List.pairwise_iff_getElem.1 hup k (k + i) h3 (by omega) (by omega)
          rw [ltB_iff] at this
          omega
    rw [e1, e2, e3, List.append_nil, List.take_of_length_le (by omega)]

set_option maxHeartbeats 4000000 in
theorem refDue (base : Nat) (w : World) (r T : Nat) (l : List ItemN) (p : Option Addr) (cap : Nat) (most : Int) (hmo : most ≤ 9223372036854775807) (t : Rv base w r T l p cap) (hup : Up l) :
    Calls Tryd.prog 19 #[.pointer (some ⟨r, 0, none⟩), .int .i64 most] w fun e w' => ∃ v, e = .returned v ∧ Rw w.heap.size w' v ((dueBy l T).take most.toNat) ∧ Below w.heap.size w w' := by
  have hlen := t.len
  have t0 := Lib.hid t
  have hup0 := Lib.hid hup
  clear t hup
  obtain ⟨n, hnn⟩ : ∃ n, n = l.length := ⟨_, rfl⟩
  have hnn0 := Lib.hid hnn
  rw [← hnn] at hlen
  clear hnn
  go_enter Tryd.func19, Tryd.ntmps19
  go_wp2_with fail
  go_loopw [5, 6] (fun v i wr => ∃ k : Nat, k ≤ n ∧ i = .int .i64 k ∧ Hid (∀ j (hj : j < l.length), j < k → (l[j]).1 ≤ T) ∧ (k : Int) ≤ max most 0 ∧ Hid (Rw w.heap.size wr v (l.take k)) ∧ Hid (Below w.heap.size w wr)) (fun _ i _ => n - (intOf i).toNat)
  case atStart => exact ⟨0, by omega, rfl, fun j hj h => by omega, by omega, by rw [List.take_zero]; exact Rw.nil _ _, Below.refl _ _⟩
  case round =>
    obtain ⟨k, hk, rfl, hall, hkm, hr, br⟩ := hrel
    have tr := Lib.hid (t0.out.below br.out)
    have c0 := tr.out.c0
    have c1 := tr.out.c1
    rw [← hnn0.out] at c1
    obtain ⟨av, cv, hv, _, _, _⟩ := hr.out.look
    rw [show (l.take k).length = k by rw [List.length_take]; have := hnn0.out; omega] at hv
    subst hv
    by_cases hkn : k < n
    · obtain ⟨g, hp, ca, cb⟩ := tr.out.at k (by rw [← hnn0.out]; exact hkn)
      subst hp
      have hkn2 : (k : Int) < n := by omega
      have hk2 : (0 : Int) ≤ (k : Int) := by omega
      have hlk : k < l.length := by rw [← hnn0.out]; exact hkn
      by_cases hT : (l[k]).1 ≤ T
      · have hd : decide ((l[k]).1 ≤ T) = true := by simpa using hT
        by_cases hmost : (k : Int) < most
        · have hd2 : decide ((k : Int) < most) = true := by simpa using hmost
          have hall2 : Hid (∀ j (hj : j < l.length), j < k + 1 → (l[j]).1 ≤ T) := fun j hj h => by
            by_cases e : j = k
            · subst e; exact hT
            · exact hall.out j hj (by omega)
          have htk : Hid (l.take (k + 1) = l.take k ++ [((l[k]).1, (l[k]).2)]) := by show _ = _; rw [← List.take_append_getElem hlk]
          have hlt : (l.take k).length ≤ 1000 := by rw [List.length_take]; omega
          clear hall hT
          generalize (l[k]).1 = x1 at *
          generalize (l[k]).2 = x2 at *
          go_wp2_with fail
          go_quiet (fail)
          have hr1 := Lib.hid (hr.out.below (below_drewNi (Below.refl _ _) nq))
          have br1 := Lib.hid (below_drewNi br.out nq)
          have tr1 := Lib.hid (tr.out.below (below_drewNi (Below.refl _ _) nq))
          have ca1 : (wr.drewN nq).cell? ⟨g, k * 2, none⟩ = some (.int .i64 (x2 : Int)) := ca
          have cb1 : (wr.drewN nq).cell? ⟨g, k * 2 + 1, none⟩ = some (.int .i64 (x1 : Int)) := cb
          clear c0 c1 ca cb hr br tr
          generalize wr.drewN nq = w5 at *
          have c1 := tr1.out.c1
          rw [← hnn0.out] at c1
          have hgl : g < w5.heap.size := World.block_lt_of_cell? _ _ ca1
          have hrl := tr1.out.lt
          obtain ⟨v6, w6, hrun, hr6, kp6⟩ := grow_pair w.heap.size (.slice av k cv) (l.take k) (x1, x2) w5 hr1.out br1.out.size hlt
          have br6 : Hid (Below w.heap.size w w6) := ⟨kp6.os.trans br1.out.os, kp6.tape.trans br1.out.tape, kp6.output.trans br1.out.output, Nat.le_trans br1.out.size kp6.size, fun i hi => (kp6.block i (Nat.lt_of_lt_of_le hi br1.out.size) (fun e => by have := (World.ownsRow.lt hr1.out i e).1; omega)).trans (br1.out.block i hi)⟩
          have hr6' : Hid (Rw w.heap.size w6 v6 (l.take (k + 1))) := by show Rw _ _ _ _; rw [htk.out]; exact hr6
          have zA : Below w5.heap.size w5 (w5.alloc (.cells #[.int .i64 (x1 : Int), .int .i64 (x2 : Int)] 52)) := (Below.refl _ _).alloc (Nat.le_refl _) _
          have c1a : (w5.alloc (.cells #[.int .i64 (x1 : Int), .int .i64 (x2 : Int)] 52)).cell? ⟨r, 1, none⟩ = some (.slice (some ⟨g, 0, none⟩) n cap) := (zA.cell (p := ⟨r, 1, none⟩) hrl).trans c1
          have ca1a : (w5.alloc (.cells #[.int .i64 (x1 : Int), .int .i64 (x2 : Int)] 52)).cell? ⟨g, k * 2, none⟩ = some (.int .i64 (x2 : Int)) := (zA.cell (p := ⟨g, k * 2, none⟩) hgl).trans ca1
          have cb1a : (w5.alloc (.cells #[.int .i64 (x1 : Int), .int .i64 (x2 : Int)] 52)).cell? ⟨g, k * 2 + 1, none⟩ = some (.int .i64 (x1 : Int)) := (zA.cell (p := ⟨g, k * 2 + 1, none⟩) hgl).trans cb1
          replace hrun := Lib.hid hrun
          clear hr1 kp6 hr6 zA tr1 br1
          go_wp2_with fail
          go_region_law (refine step_append_at (by rfl) _ _ 39 39 (by rfl) _ _ (by rfl) (by rfl) hrun.out ?_)
          all_goals
            clear hrun c1 ca1 cb1 c1a ca1a cb1a
            go_wp2_with fail
            refine ⟨⟨k + 1, by omega, by go_num, hall2, by omega, hr6', br6⟩, ?_⟩
            simp [intOf]; omega
        · have hd2 : decide ((k : Int) < most) = false := by simpa using hmost
          have hfin : Hid ((dueBy l T).take most.toNat = l.take k) := due_fin hup0.out hall.out (by omega) (Or.inl (by omega))
          clear hall hT
          generalize (l[k]).1 = x1 at *
          generalize (l[k]).2 = x2 at *
          go_wp2_with fail
          go_quiet (fail)
          have hr1 := Lib.hid (hr.out.below (below_drewNi (Below.refl _ _) nq))
          have br1 := Lib.hid (below_drewNi br.out nq)
          clear c0 c1 ca cb hr br tr
          generalize wr.drewN nq = w5 at *
          go_wp2_with fail
          go_ret
          exact ⟨_, rfl, by rw [hfin.out]; exact hr1.out, br1.out⟩
      · have hd : decide ((l[k]).1 ≤ T) = false := by simpa using hT
        have hfin : Hid ((dueBy l T).take most.toNat = l.take k) := due_fin hup0.out hall.out (by omega) (Or.inr ⟨by omega, Or.inr ⟨hlk, by omega⟩⟩)
        clear hall hT
        generalize (l[k]).1 = x1 at *
        generalize (l[k]).2 = x2 at *
        go_wp2_with fail
        go_quiet (fail)
        have hr1 := Lib.hid (hr.out.below (below_drewNi (Below.refl _ _) nq))
        have br1 := Lib.hid (below_drewNi br.out nq)
        clear c0 c1 ca cb hr br tr
        generalize wr.drewN nq = w5 at *
        go_wp2_with fail
        go_ret
        exact ⟨_, rfl, by rw [hfin.out]; exact hr1.out, br1.out⟩
    · have hkn2 : decide ((k : Int) < n) = false := by simp; omega
      have hkn3 : ¬ (k : Int) < n := by omega
      have hfin : Hid ((dueBy l T).take most.toNat = l.take k) := due_fin hup0.out hall.out (by have := hnn0.out; omega) (Or.inr ⟨by omega, Or.inl (by have := hnn0.out; omega)⟩)
      clear hall
      go_wp2_with fail
      go_quiet (fail)
      have hr1 := Lib.hid (hr.out.below (below_drewNi (Below.refl _ _) nq))
      have br1 := Lib.hid (below_drewNi br.out nq)
      clear c0 c1 hr br tr
      generalize wr.drewN nq = w5 at *
      go_wp2_with fail
      go_ret
      exact ⟨_, rfl, by rw [hfin.out]; exact hr1.out, br1.out⟩
end Go.Proofs.YthobffeafddonaaDoor
