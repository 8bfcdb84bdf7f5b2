/-
  Layer 10: Read: the operation of bytes, or none. Condition: at most 100000 bytes.
-/
import Derived.Test.YtaemoojhmknicaaPTake
import Derived.Test.YtaemoojhmknicaaPPut
import Derived.Laws.ResultCell
set_option linter.unusedVariables false
namespace Go.Proofs.Ytaemoojhmknicaa
open Go.RowKit Cod

/-- Whether bytes are an operation. -/
def readB (s : ByteArray) : Bool := tookB ⟨s, 0⟩ && decide ((takeT ⟨s, 0⟩).rest.size = 0)
def readO (s : ByteArray) : OpN := if readB s = true then takeO ⟨s, 0⟩ else opZ
def readE (s : ByteArray) : Int := if readB s = true then 0 else 3

theorem readB_iff (s : ByteArray) : readB s = true ↔ (takeE ⟨s, 0⟩).e = 0 ∧ (takeE ⟨s, 0⟩).rest.size = 0 := by
  have h1 := takeE_e ⟨s, 0⟩
  unfold readB
  cases ht : tookB ⟨s, 0⟩
  · rw [ht] at h1
    have := of_decide_eq_false h1
    simp [this]
  · rw [ht] at h1
    have h2 := of_decide_eq_true h1
    have h3 : okOp (takeO ⟨s, 0⟩) = true := by unfold tookB at ht; simp at ht; exact ht.2
    have h4 : takeE ⟨s, 0⟩ = takeT ⟨s, 0⟩ := by unfold takeE; rw [if_pos h3]
    rw [h4] at h2
    simp [h4, h2]
theorem readO_yes {s : ByteArray} (h : readB s = true) : readO s = takeA ⟨s, 0⟩ := by
  unfold readO takeA
  unfold readB at h
  simp at h
  rw [h.1, if_pos]
  · simp
  · unfold readB; simp [h]
theorem readO_no {s : ByteArray} (h : readB s = false) : readO s = opZ := by unfold readO; rw [h]; rfl

theorem bset {B q o : Nat} {x y : World} {v : Value} (h : Below B x y) (hq : B ≤ q) : Below B x (y.setCell ⟨q, o, none⟩ v) := h.setCell (p := ⟨q, o, none⟩) hq v

set_option maxHeartbeats 4000000 in
set_option maxRecDepth 100000 in
theorem opread_any (s : ByteArray) (w : World) (hs : s.size ≤ 100000) :
    Calls Try.prog 10 #[.string s] w fun e w' => e = .returned (.tuple #[opV (readO s), .int .i64 (readE s)]) ∧ Below w.heap.size w w' := by
  go_enter Try.func10, Try.ntmps10
  go_wp2_with fail
  have z := OpAt.new w 0 23
  have k0 := (Below.refl w.heap.size w).alloc (Nat.le_refl w.heap.size) (Obj.cells (opC opZ) 23)
  refine (read_any s _ hs).mono ?_
  rintro e w1 ⟨b, rfl, hb, t1, b1⟩
  have hq : w.heap.size < b := Nat.lt_of_lt_of_le z.lt hb
  replace z := Lib.hid (z.below b1)
  replace k0 := Lib.hid (k0.trans (b1.mono k0.size))
  replace t1 := Lib.hid t1
  have hzb : Hid (w.heap.size ≠ b) := by show _ ≠ _; omega
  replace hb : Hid (w.heap.size ≤ b) := by show _ ≤ _; omega
  clear b1 hq
  go_wp2_with fail
  refine (take_any b ⟨s, 0⟩ _ t1.out).mono ?_
  rintro e w2 ⟨rfl, t2, k2⟩
  have z2 := z.out.kept k2 hzb.out
  have k02 := k0.out.trans (k2.below hb.out k0.out.size)
  have hiff := Lib.hid (readB_iff s)
  have hA := Lib.hid (fun h => @readO_yes s h)
  rcases hv : takeA ⟨s, 0⟩ with ⟨v0, v1, v2, v3, v4, v5, v6, v7, v8, v9⟩
  have o3 := OpBox.new w2 ⟨v0, v1, v2, v3, v4, v5, v6, v7, v8, v9⟩ 23
  have ba := (Below.refl w2.heap.size w2).alloc (Nat.le_refl _) (Obj.cells (opC ⟨v0, v1, v2, v3, v4, v5, v6, v7, v8, v9⟩) 23)
  have t3 := Lib.hid (t2.below ba)
  have z3 := Lib.hid (z2.below ba)
  have k3 := Lib.hid (k02.trans (ba.mono k02.size))
  generalize hT : takeE ⟨s, 0⟩ = T at *
  rw [hv] at hA
  replace hT := Lib.hid hT
  replace hv := Lib.hid hv
  have hn : Hid (readB s = false → readO s = opZ ∧ readE s = 3) := fun h => ⟨readO_no h, by unfold readE; rw [h]; rfl⟩
  have hy : Hid (readB s = true → readO s = ⟨v0, v1, v2, v3, v4, v5, v6, v7, v8, v9⟩ ∧ readE s = 0) := fun h => ⟨hA.out h, by unfold readE; rw [if_pos h]⟩
  clear z t1 k0 t2 k2 z2 k02 ba hA
  go_upto_region 3 with fail
  generalize hw3 : w2.alloc (Obj.cells (opC ⟨v0, v1, v2, v3, v4, v5, v6, v7, v8, v9⟩) 23) = w3 at *
  generalize hq : w.heap.size = q0 at *
  generalize w2.heap.size = q at *
  replace hw3 := Lib.hid hw3
  replace hq := Lib.hid hq
  replace o3 := Lib.hid o3
  by_cases he : T.e = 0
  · have hne : (T.e != 0) = false := by simp [he]
    have hl : leftS T = (T.rest.size : Int) := by unfold leftS; rw [if_pos he]
    by_cases hr : T.rest.size = 0
    · obtain ⟨a1, a2⟩ := hy.out (hiff.out.2 ⟨he, hr⟩)
      replace a1 := Lib.hid a1
      replace a2 := Lib.hid a2
      have hl0 : leftS T = 0 := by rw [hl, hr]; rfl
      clear hl hiff hn hy
      replace he := Lib.hid he
      replace hr := Lib.hid hr
      have x0 : w3.cell? ⟨q, 0, none⟩ = some (.int .i64 v0) := o3.out.cell 0 _ rfl
      obtain ⟨x1, x2, x3, x4, x5, x6, x7, x8, x9⟩ := o3.out.nine
      have y0 := z3.out.c0
      have g0 := z3.out.fz 0
      have y1 : w3.cell? ⟨q0, 1, none⟩ = some (.int .i64 0) := z3.out.cm 0 (by omega)
      have g1 := z3.out.fz 1
      have y2 : w3.cell? ⟨q0, 2, none⟩ = some (.int .i64 0) := z3.out.cm 1 (by omega)
      have g2 := z3.out.fz 2
      have y3 : w3.cell? ⟨q0, 3, none⟩ = some (.int .i64 0) := z3.out.cm 2 (by omega)
      have g3 := z3.out.fz 3
      have y4 : w3.cell? ⟨q0, 4, none⟩ = some (.int .i64 0) := z3.out.cm 3 (by omega)
      have g4 := z3.out.fz 4
      have y5 : w3.cell? ⟨q0, 5, none⟩ = some (.int .i64 0) := z3.out.cm 4 (by omega)
      have g5 := z3.out.fz 5
      have y6 : w3.cell? ⟨q0, 6, none⟩ = some (.int .i64 0) := z3.out.cm 5 (by omega)
      have g6 := z3.out.fz 6
      have y7 : w3.cell? ⟨q0, 7, none⟩ = some (.int .i64 0) := z3.out.cm 6 (by omega)
      have g7 := z3.out.fz 7
      have y8 : w3.cell? ⟨q0, 8, none⟩ = some (.int .i64 0) := z3.out.cm 7 (by omega)
      have g8 := z3.out.fz 8
      have y9 := z3.out.c9
      have g9 := z3.out.fz 9
      go_wp2_with (first | (go_at_call 16; refine (err_any b T _ t3.out).mono ?_; rintro e w8 ⟨rfl, rfl⟩) | (go_at_call 18; refine (left_any b T _ t3.out).mono ?_; rintro e w8 ⟨rfl, rfl⟩))
      refine bodyPost_ret (v := .tuple #[.agg #[.int .i64 v0, .int .i64 v1, .int .i64 v2, .int .i64 v3, .int .i64 v4, .int .i64 v5, .int .i64 v6, .int .i64 v7, .int .i64 v8, .string v9], .int .i64 0]) ?_ rfl ?_
      · rw [results_cell_tmp rfl]
        go_simp
      · exact ⟨by rw [a1.out, a2.out], by rw [hq.out]; exact (bset (bset (bset (bset (bset (bset (bset (bset (bset (bset k3.out (Nat.le_refl q0)) (Nat.le_refl q0)) (Nat.le_refl q0)) (Nat.le_refl q0)) (Nat.le_refl q0)) (Nat.le_refl q0)) (Nat.le_refl q0)) (Nat.le_refl q0)) (Nat.le_refl q0)) (Nat.le_refl q0))⟩
    · have a0 := Bool.eq_false_iff.2 fun h => hr (hiff.out.1 h).2
      obtain ⟨a1, a2⟩ := hn.out a0
      replace a1 := Lib.hid a1
      replace a2 := Lib.hid a2
      have hl0 : (0 : Int) < leftS T := by rw [hl]; omega
      clear hl hiff hn hy a0
      replace he := Lib.hid he
      replace hr := Lib.hid hr
      have y0 := z3.out.c0
      have g0 := z3.out.fz 0
      have y1 : w3.cell? ⟨q0, 1, none⟩ = some (.int .i64 0) := z3.out.cm 0 (by omega)
      have g1 := z3.out.fz 1
      have y2 : w3.cell? ⟨q0, 2, none⟩ = some (.int .i64 0) := z3.out.cm 1 (by omega)
      have g2 := z3.out.fz 2
      have y3 : w3.cell? ⟨q0, 3, none⟩ = some (.int .i64 0) := z3.out.cm 2 (by omega)
      have g3 := z3.out.fz 3
      have y4 : w3.cell? ⟨q0, 4, none⟩ = some (.int .i64 0) := z3.out.cm 3 (by omega)
      have g4 := z3.out.fz 4
      have y5 : w3.cell? ⟨q0, 5, none⟩ = some (.int .i64 0) := z3.out.cm 4 (by omega)
      have g5 := z3.out.fz 5
      have y6 : w3.cell? ⟨q0, 6, none⟩ = some (.int .i64 0) := z3.out.cm 5 (by omega)
      have g6 := z3.out.fz 6
      have y7 : w3.cell? ⟨q0, 7, none⟩ = some (.int .i64 0) := z3.out.cm 6 (by omega)
      have g7 := z3.out.fz 7
      have y8 : w3.cell? ⟨q0, 8, none⟩ = some (.int .i64 0) := z3.out.cm 7 (by omega)
      have g8 := z3.out.fz 8
      have y9 := z3.out.c9
      have g9 := z3.out.fz 9
      go_wp2_with (first | (go_at_call 16; refine (err_any b T _ t3.out).mono ?_; rintro e w8 ⟨rfl, rfl⟩) | (go_at_call 18; refine (left_any b T _ t3.out).mono ?_; rintro e w8 ⟨rfl, rfl⟩))
      refine bodyPost_ret (v := .tuple #[.agg #[.int .i64 0, .int .i64 0, .int .i64 0, .int .i64 0, .int .i64 0, .int .i64 0, .int .i64 0, .int .i64 0, .int .i64 0, .string ⟨#[]⟩], .int .i64 3]) ?_ rfl ?_
      · rw [results_cell_tmp rfl]
        go_simp
      · exact ⟨by rw [a1.out, a2.out]; rfl, by rw [hq.out]; exact (bset (bset (bset (bset (bset (bset (bset (bset (bset (bset k3.out (Nat.le_refl q0)) (Nat.le_refl q0)) (Nat.le_refl q0)) (Nat.le_refl q0)) (Nat.le_refl q0)) (Nat.le_refl q0)) (Nat.le_refl q0)) (Nat.le_refl q0)) (Nat.le_refl q0)) (Nat.le_refl q0))⟩
  · have hne : (T.e != 0) = true := by simp [he]
    have a0 := Bool.eq_false_iff.2 fun h => he (hiff.out.1 h).1
    obtain ⟨a1, a2⟩ := hn.out a0
    replace a1 := Lib.hid a1
    replace a2 := Lib.hid a2
    clear hiff hn hy a0
    replace he := Lib.hid he
    have y0 := z3.out.c0
    have g0 := z3.out.fz 0
    have y1 : w3.cell? ⟨q0, 1, none⟩ = some (.int .i64 0) := z3.out.cm 0 (by omega)
    have g1 := z3.out.fz 1
    have y2 : w3.cell? ⟨q0, 2, none⟩ = some (.int .i64 0) := z3.out.cm 1 (by omega)
    have g2 := z3.out.fz 2
    have y3 : w3.cell? ⟨q0, 3, none⟩ = some (.int .i64 0) := z3.out.cm 2 (by omega)
    have g3 := z3.out.fz 3
    have y4 : w3.cell? ⟨q0, 4, none⟩ = some (.int .i64 0) := z3.out.cm 3 (by omega)
    have g4 := z3.out.fz 4
    have y5 : w3.cell? ⟨q0, 5, none⟩ = some (.int .i64 0) := z3.out.cm 4 (by omega)
    have g5 := z3.out.fz 5
    have y6 : w3.cell? ⟨q0, 6, none⟩ = some (.int .i64 0) := z3.out.cm 5 (by omega)
    have g6 := z3.out.fz 6
    have y7 : w3.cell? ⟨q0, 7, none⟩ = some (.int .i64 0) := z3.out.cm 6 (by omega)
    have g7 := z3.out.fz 7
    have y8 : w3.cell? ⟨q0, 8, none⟩ = some (.int .i64 0) := z3.out.cm 7 (by omega)
    have g8 := z3.out.fz 8
    have y9 := z3.out.c9
    have g9 := z3.out.fz 9
    go_wp2_with (first | (go_at_call 16; refine (err_any b T _ t3.out).mono ?_; rintro e w8 ⟨rfl, rfl⟩) | (go_at_call 18; refine (left_any b T _ t3.out).mono ?_; rintro e w8 ⟨rfl, rfl⟩))
    refine bodyPost_ret (v := .tuple #[.agg #[.int .i64 0, .int .i64 0, .int .i64 0, .int .i64 0, .int .i64 0, .int .i64 0, .int .i64 0, .int .i64 0, .int .i64 0, .string ⟨#[]⟩], .int .i64 3]) ?_ rfl ?_
    · rw [results_cell_tmp rfl]
      go_simp
    · exact ⟨by rw [a1.out, a2.out]; rfl, by rw [hq.out]; exact (bset (bset (bset (bset (bset (bset (bset (bset (bset (bset k3.out (Nat.le_refl q0)) (Nat.le_refl q0)) (Nat.le_refl q0)) (Nat.le_refl q0)) (Nat.le_refl q0)) (Nat.le_refl q0)) (Nat.le_refl q0)) (Nat.le_refl q0)) (Nat.le_refl q0)) (Nat.le_refl q0))⟩
end Go.Proofs.Ytaemoojhmknicaa
