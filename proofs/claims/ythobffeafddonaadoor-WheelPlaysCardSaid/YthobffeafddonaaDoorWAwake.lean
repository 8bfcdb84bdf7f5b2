/-
  Layer 6: two lists of pairs held against each other, a wheel that is none, and the answers that the document fixes.
-/
import Derived.Test.YthobffeafddonaaDoorWApi
set_option linter.unusedVariables false
namespace Go.Proofs.YthobffeafddonaaDoor
open Go.RowKit Whl

theorem take_next {l m : List ItemN} {k : Nat} (h1 : k < l.length) (h2 : k < m.length) (h : l.take k = m.take k) (he : l[k] = m[k]) : l.take (k + 1) = m.take (k + 1) := by
  rw [List.take_succ_eq_append_getElem h1, List.take_succ_eq_append_getElem h2, h, he]
set_option maxHeartbeats 2000000 in
set_option maxRecDepth 100000 in
theorem same_any (b1 b2 : Nat) (v1 v2 : Value) (l1 l2 : List ItemN) (w : World) (h1 : Rw b1 w v1 l1) (h2 : Rw b2 w v2 l2) (hl1 : l1.length ≤ 1000000) (hl2 : l2.length ≤ 1000000) (r : Bool) (hr : decide (l1 = l2) = r) :
    Calls Tryd.prog 15 #[v1, v2] w fun e w' => e = .returned (.bool r) ∧ Below w.heap.size w w' := by
  obtain ⟨a1, cap1, rfl, _, _, ha1⟩ := h1.look
  obtain ⟨a2, cap2, rfl, _, _, ha2⟩ := h2.look
  have hn1 : (l1.length : Int) ≤ 1000000 := by omega
  have hn2 : (l2.length : Int) ≤ 1000000 := by omega
  by_cases hne : l1.length = l2.length
  · have heq := equal_two
    replace ha1 := Lib.hid ha1
    replace ha2 := Lib.hid ha2
    have hyes : Hid (l1 = l2 → r = true) := fun e => by rw [← hr, e]; simp
    have hno : Hid (l1 ≠ l2 → r = false) := fun e => by rw [← hr]; simp [e]
    have hb0 : Hid (Below w.heap.size w w) := Below.refl _ _
    replace h1 := Lib.hid h1
    replace h2 := Lib.hid h2
    clear hr
    have hq : ((l1.length : Int) != (l2.length : Int)) = false := by rw [hne]; simp
    replace hne := Lib.hid hne
    go_enter Tryd.func15, Tryd.ntmps15
    go_wp2_with fail
    go_loopw [5] (fun v wr => ∃ k : Nat, v = .int .i64 k ∧ (k : Int) ≤ l1.length ∧ Hid (l1.take k = l2.take k) ∧ Hid (Below w.heap.size w wr) ∧ Hid (Rw b1 wr (.slice a1 l1.length cap1) l1) ∧ Hid (Rw b2 wr (.slice a2 l2.length cap2) l2)) (fun v _ => ((l1.length : Int) - intOf v).toNat)
    case atStart => exact ⟨0, rfl, by omega, rfl, hb0, h1, h2⟩
    case round =>
      obtain ⟨k, rfl, hk, ht, hb, r1, r2⟩ := hrel
      clear h1 h2 hb0
      by_cases hlt : (k : Int) < l1.length
      · have hlt2 : (k : Int) < l2.length := by have := hne.out; omega
        obtain ⟨g1, rfl⟩ := ha1.out k (by omega)
        obtain ⟨g2, rfl⟩ := ha2.out k (by omega)
        obtain ⟨c0, c1⟩ := r1.out.cells k (by omega)
        obtain ⟨d0, d1⟩ := r2.out.cells k (by omega)
        have hnx : Hid (l1[k] = l2[k] → l1.take (k + 1) = l2.take (k + 1)) := fun e => take_next (by omega) (by omega) ht.out e
        have hdf : Hid (l1[k] ≠ l2[k] → r = false) := fun e => hno.out (fun e2 => e (by simp only [e2]))
        generalize l1[k] = p at *
        generalize l2[k] = q at *
        obtain ⟨p0, p1⟩ := p
        obtain ⟨q0, q1⟩ := q
        simp only at c0 c1 d0 d1
        cases he : ((p0 : Int) == (q0 : Int) && (p1 : Int) == (q1 : Int)) with
        | true =>
          have hpq : Hid (((p0, p1) : ItemN) = (q0, q1)) := by
            have : p0 = q0 ∧ p1 = q1 := by simp at he; omega
            unfold Hid
            rw [this.1, this.2]
          have ht2 := Lib.hid (hnx.out hpq.out)
          clear hnx hdf hpq
          go_wp2_with fail
          go_quiet (fail)
          go_wp2_with fail
          exact ⟨⟨k + 1, by go_num, by omega, ht2, below_drewN hb.out nq, r1.out.below (below_drewN (Below.refl _ _) nq), r2.out.below (below_drewN (Below.refl _ _) nq)⟩, by simp [intOf]; omega⟩
        | false =>
          have hpq : Hid (((p0, p1) : ItemN) ≠ (q0, q1)) := fun e => by
            injection e with e1 e2
            subst e1 e2
            simp at he
          have hrf := Lib.hid (hdf.out hpq.out)
          clear hnx hdf hpq
          go_wp2_with fail
          go_quiet (fail)
          go_wp2_with fail
          go_ret
          exact ⟨by rw [hrf.out]; rfl, below_drewN hb.out nq⟩
      · have hall : Hid (r = true) := hyes.out (by
          have h3 := ht.out
          rw [List.take_of_length_le (by omega), List.take_of_length_le (by have := hne.out; omega)] at h3
          exact h3)
        go_wp2_with fail
        go_ret
        exact ⟨by rw [hall.out]; rfl, hb.out⟩
  · have hrf : Hid (r = false) := by
      unfold Hid
      rw [← hr]
      simp
      intro e
      exact hne (by rw [e])
    have hq : ((l1.length : Int) != (l2.length : Int)) = true := by
      rw [bne_iff_ne]; omega
    clear hne hr h1 h2
    go_enter Tryd.func15, Tryd.ntmps15
    go_wp2_with fail
    go_ret
    exact ⟨by rw [hrf.out]; rfl, Below.refl _ _⟩

theorem at_nil (id : Int) (w : World) : Calls Tryd.prog 23 #[.pointer none, .int .i64 id] w fun e w' => e = .returned (.tuple #[.int .i64 0, .bool false]) ∧ w = w' := by
  go_enter Tryd.func23, Tryd.ntmps23
  go_wp2_with fail
  go_ret2
  exact ⟨rfl, rfl⟩
theorem next_nil (w : World) : Calls Tryd.prog 20 #[.pointer none] w fun e w' => e = .returned (.tuple #[.int .i64 0, .bool false]) ∧ w = w' := by
  go_enter Tryd.func20, Tryd.ntmps20
  go_wp2_with fail
  go_ret2
  exact ⟨rfl, rfl⟩
theorem remove_nil (id : Int) (w : World) : Calls Tryd.prog 13 #[.pointer none, .int .i64 id] w fun e w' => e = .returned (.bool false) ∧ w = w' := by
  have c := Lib.hid (fun W => at_nil id W)
  go_enter Tryd.func13, Tryd.ntmps13
  go_wp2_with fail
  refine (c.out _).mono ?_
  rintro e w1 ⟨rfl, rfl⟩
  go_wp2_with fail
  go_ret
  exact ⟨rfl, rfl⟩
theorem due_nil (n : Int) (w : World) : Calls Tryd.prog 18 #[.pointer none, .int .i64 n] w fun e w' => e = .returned (.slice none 0 0) ∧ w = w' := by
  go_enter Tryd.func18, Tryd.ntmps18
  go_wp2_with fail
  go_ret
  exact ⟨rfl, rfl⟩
theorem advance_nil (n : Int) (w : World) : Calls Tryd.prog 16 #[.pointer none, .int .i64 n] w fun e w' => e = .returned (.slice none 0 0) ∧ w = w' := by
  go_enter Tryd.func16, Tryd.ntmps16
  go_wp2_with fail
  go_ret
  exact ⟨rfl, rfl⟩
theorem now_nil (w : World) : Calls Tryd.prog 21 #[.pointer none] w fun e w' => e = .returned (.int .i64 0) ∧ w = w' := by
  go_enter Tryd.func21, Tryd.ntmps21
  go_wp2_with fail
  go_ret
  exact ⟨rfl, rfl⟩
theorem len_nil (w : World) : Calls Tryd.prog 22 #[.pointer none] w fun e w' => e = .returned (.int .i64 0) ∧ w = w' := by
  go_enter Tryd.func22, Tryd.ntmps22
  go_wp2_with fail
  go_ret
  exact ⟨rfl, rfl⟩
end Go.Proofs.YthobffeafddonaaDoor
