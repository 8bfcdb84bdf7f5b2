/-
  Layer 6: the document's own Advance.
-/
import Derived.Test.YthobffeafddonaaDoorWRefB
import Derived.Test.YthobffeafddonaaDoorWRefC
set_option linter.unusedVariables false
namespace Go.Proofs.YthobffeafddonaaDoor
open Go.RowKit Whl
set_option maxRecDepth 100000

theorem Rv.setT {base : Nat} {w : World} {r T cap : Nat} {p : Option Addr} {l : List ItemN} (t : Rv base w r T l p cap) (N : Nat) : Rv base (w.setCell ⟨r, 0, none⟩ (.int .i64 (N : Int))) r N l p cap := by
  refine ⟨?_, own_samei t.own fun g hg => Below.heap_setCell _ _ _ _ (fun e => ?_), t.len, t.hb⟩
  · rw [heap_setCell_same w r 0 _ _ _ t.blk]; rfl
  · obtain ⟨cur, hc⟩ := own_ati t.own hg
    exact type_nei hc t.blk (by decide) e
theorem come_step (l : List ItemN) (T N k : Nat) (hk : k < l.length) : comeBy (l.take (k + 1)) T N = comeBy (l.take k) T N ++ (if T < (l[k]).1 ∧ (l[k]).1 ≤ N then [((l[k]).1, (l[k]).2)] else []) := by
  unfold comeBy
  rw [← List.take_append_getElem hk, List.filter_append]
  congr 1
  by_cases h : T < (l[k]).1 ∧ (l[k]).1 ≤ N
  · rw [if_pos h, List.filter_cons_of_pos (by simp [h])]; rfl
  · rw [if_neg h, List.filter_cons_of_neg (by simpa using h)]; rfl

set_option maxHeartbeats 4000000 in
theorem refAdv (base : Nat) (w : World) (r T : Nat) (l : List ItemN) (p : Option Addr) (cap : Nat) (n : Int) (t : Rv base w r T l p cap) :
    Calls Tryd.prog 17 #[.pointer (some ⟨r, 0, none⟩), .int .i64 n] w fun e w' => ∃ v, e = .returned v ∧ Rw w.heap.size w' v (comeBy l T (max T (min n 1099511627776).toNat)) ∧ Rv base w' r (max T (min n 1099511627776).toNat) l p cap ∧ Kp (fun k => k = r) w w' := by
  have hlen := t.len
  have t0 := Lib.hid t
  clear t
  obtain ⟨z, hz⟩ : ∃ z, min n 1099511627776 = z := ⟨_, rfl⟩
  rw [hz]
  obtain ⟨N, hN⟩ : ∃ N, N = max T z.toNat := ⟨_, rfl⟩
  rw [← hN]
  have hmax : max (T : Int) z = (N : Int) := by omega
  have hcm : Hid (∀ x : Nat, T < x → ((x : Int) ≤ z ↔ x ≤ N)) := fun x hx => by omega
  clear hN
  obtain ⟨m, hnn⟩ : ∃ m, m = l.length := ⟨_, rfl⟩
  have hnn0 := Lib.hid hnn
  rw [← hnn] at hlen
  clear hnn
  go_enter Tryd.func17, Tryd.ntmps17
  go_wp2_with fail
  go_loopw [5, 6] (fun v i wr => ∃ k : Nat, k ≤ m ∧ i = .int .i64 k ∧ Hid (Rw w.heap.size wr v (comeBy (l.take k) T N)) ∧ Hid (Below w.heap.size w wr)) (fun _ i _ => m - (intOf i).toNat)
  case atStart => exact ⟨0, by omega, rfl, by rw [List.take_zero]; exact Rw.nil _ _, Below.refl _ _⟩
  case round =>
    obtain ⟨k, hk, rfl, hr, br⟩ := hrel
    have tr := Lib.hid (t0.out.below br.out)
    have c0 := tr.out.c0
    have c1 := tr.out.c1
    rw [← hnn0.out] at c1
    by_cases hkn : k < m
    · obtain ⟨g, hp, ca, cb⟩ := tr.out.at k (by rw [← hnn0.out]; exact hkn)
      subst hp
      have hkn2 : (k : Int) < m := by omega
      have hlk : k < l.length := by rw [← hnn0.out]; exact hkn
      have hst := Lib.hid (come_step l T N k hlk)
      have hlt : (comeBy (l.take k) T N).length ≤ 1000 := by
        unfold comeBy
        exact Nat.le_trans (List.length_filter_le _ _) (by rw [List.length_take]; omega)
      have hcm1 := Lib.hid (hcm.out (l[k]).1)
      clear hcm
      generalize (l[k]).1 = x1 at *
      generalize (l[k]).2 = x2 at *
      by_cases hT : T < x1
      · have hd : decide (T < x1) = true := by simpa using hT
        have hd0 : decide ((T : Int) < (x1 : Int)) = true := by simp; omega
        by_cases hz1 : (x1 : Int) ≤ z
        · have hd2 : decide ((x1 : Int) ≤ z) = true := by simpa using hz1
          have htk : Hid (comeBy (l.take (k + 1)) T N = comeBy (l.take k) T N ++ [(x1, x2)]) := by show _ = _; rw [hst.out, if_pos ⟨hT, (hcm1.out hT).1 hz1⟩]
          clear hst hcm1 hT
          go_wp2_with fail
          go_quiet (fail)
          have hr1 := Lib.hid (hr.out.below (below_drewNi (Below.refl _ _) nq))
          have br1 := Lib.hid (below_drewNi br.out nq)
          have tr1 := Lib.hid (tr.out.below (below_drewNi (Below.refl _ _) nq))
          have ca1 : (wr.drewN nq).cell? ⟨g, k * 2, none⟩ = some (.int .i64 (x2 : Int)) := ca
          have cb1 : (wr.drewN nq).cell? ⟨g, k * 2 + 1, none⟩ = some (.int .i64 (x1 : Int)) := cb
          clear c0 c1 ca cb hr br tr
          generalize wr.drewN nq = w5 at *
          have c1 := tr1.out.c1
          rw [← hnn0.out] at c1
          have hgl : g < w5.heap.size := World.block_lt_of_cell? _ _ ca1
          have hrl := tr1.out.lt
          obtain ⟨v6, w6, hrun, hr6, kp6⟩ := grow_pair w.heap.size u5 (comeBy (l.take k) T N) (x1, x2) w5 hr1.out br1.out.size hlt
          have br6 : Hid (Below w.heap.size w w6) := ⟨kp6.os.trans br1.out.os, kp6.tape.trans br1.out.tape, kp6.output.trans br1.out.output, Nat.le_trans br1.out.size kp6.size, fun i hi => (kp6.block i (Nat.lt_of_lt_of_le hi br1.out.size) (fun e => by have := (World.ownsRow.lt hr1.out i e).1; omega)).trans (br1.out.block i hi)⟩
          have hr6' : Hid (Rw w.heap.size w6 v6 (comeBy (l.take (k + 1)) T N)) := by show Rw _ _ _ _; rw [htk.out]; exact hr6
          have zA : Below w5.heap.size w5 (w5.alloc (.cells #[.int .i64 (x1 : Int), .int .i64 (x2 : Int)] 52)) := (Below.refl _ _).alloc (Nat.le_refl _) _
          have c1a : (w5.alloc (.cells #[.int .i64 (x1 : Int), .int .i64 (x2 : Int)] 52)).cell? ⟨r, 1, none⟩ = some (.slice (some ⟨g, 0, none⟩) m cap) := (zA.cell (p := ⟨r, 1, none⟩) hrl).trans c1
          have ca1a : (w5.alloc (.cells #[.int .i64 (x1 : Int), .int .i64 (x2 : Int)] 52)).cell? ⟨g, k * 2, none⟩ = some (.int .i64 (x2 : Int)) := (zA.cell (p := ⟨g, k * 2, none⟩) hgl).trans ca1
          have cb1a : (w5.alloc (.cells #[.int .i64 (x1 : Int), .int .i64 (x2 : Int)] 52)).cell? ⟨g, k * 2 + 1, none⟩ = some (.int .i64 (x1 : Int)) := (zA.cell (p := ⟨g, k * 2 + 1, none⟩) hgl).trans cb1
          replace hrun := Lib.hid hrun
          clear hr1 kp6 hr6 zA tr1 br1
          go_wp2_with fail
          go_region_law (refine step_append_at (by rfl) _ _ 39 39 (by rfl) _ _ (by rfl) (by rfl) hrun.out ?_)
          all_goals
            clear hrun c1 ca1 cb1 c1a ca1a cb1a
            go_wp2_with fail
            refine ⟨⟨k + 1, by omega, by go_num, hr6', br6⟩, ?_⟩
            simp [intOf]; omega
        · have hd2 : decide ((x1 : Int) ≤ z) = false := by simpa using hz1
          have htk : Hid (comeBy (l.take (k + 1)) T N = comeBy (l.take k) T N) := by show _ = _; rw [hst.out, if_neg (fun h => hz1 ((hcm1.out hT).2 h.2)), List.append_nil]
          clear hst hcm1 hT
          go_wp2_with fail
          go_quiet (fail)
          have hr1 : Hid (Rw w.heap.size (wr.drewN nq) u5 (comeBy (l.take (k + 1)) T N)) := by show Rw _ _ _ _; rw [htk.out]; exact hr.out.below (below_drewNi (Below.refl _ _) nq)
          have br1 := Lib.hid (below_drewNi br.out nq)
          clear c0 c1 ca cb hr br tr
          generalize wr.drewN nq = w5 at *
          go_wp2_with fail
          refine ⟨⟨k + 1, by omega, by go_num, hr1, br1⟩, ?_⟩
          simp [intOf]; omega
      · have hd : decide (T < x1) = false := by simpa using hT
        have hd0 : decide ((T : Int) < (x1 : Int)) = false := by simp; omega
        have htk : Hid (comeBy (l.take (k + 1)) T N = comeBy (l.take k) T N) := by show _ = _; rw [hst.out, if_neg (fun h => hT h.1), List.append_nil]
        clear hst hcm1 hT
        go_wp2_with fail
        go_quiet (fail)
        have hr1 : Hid (Rw w.heap.size (wr.drewN nq) u5 (comeBy (l.take (k + 1)) T N)) := by show Rw _ _ _ _; rw [htk.out]; exact hr.out.below (below_drewNi (Below.refl _ _) nq)
        have br1 := Lib.hid (below_drewNi br.out nq)
        clear c0 c1 ca cb hr br tr
        generalize wr.drewN nq = w5 at *
        go_wp2_with fail
        refine ⟨⟨k + 1, by omega, by go_num, hr1, br1⟩, ?_⟩
        simp [intOf]; omega
    · obtain rfl : k = m := by omega
      have hkn3 : ¬ (k : Int) < k := by omega
      have f0 := tr.out.fz 0
      have t6 := Lib.hid (tr.out.setT N)
      have e : comeBy (l.take k) T N = comeBy l T N := by rw [hnn0.out, List.take_length]
      have hvr : u5.ownBlock ≠ some r := fun e => by have := (World.ownsRow.lt hr.out r e).1; have := t0.out.lt; omega
      have hr6 : Hid (Rw w.heap.size (wr.setCell ⟨r, 0, none⟩ (.int .i64 (N : Int))) u5 (comeBy l T N)) := by
        show Rw _ _ _ _
        rw [← e]
        exact own_samei hr.out fun g hg => Below.heap_setCell _ _ _ _ (fun e => hvr (by rw [← (show g = r from e)]; exact hg))
      have kp6 : Hid (Kp (fun k => k = r) w (wr.setCell ⟨r, 0, none⟩ (.int .i64 (N : Int)))) := ⟨br.out.os, br.out.tape, br.out.output, by simp [World.setCell]; exact br.out.size, fun i hi hn => (Below.heap_setCell _ _ _ _ hn).trans (br.out.block i hi)⟩
      clear e hvr hr tr br hcm
      go_wp2_with fail
      go_ret
      exact ⟨_, rfl, hr6.out, t6.out, kp6.out⟩
end Go.Proofs.YthobffeafddonaaDoor
