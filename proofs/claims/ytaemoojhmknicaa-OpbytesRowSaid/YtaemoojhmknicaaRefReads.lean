/-
  The reading methods of the document's own Reader: Uint, Int, Byte, Str, Left, as the same functions of what is left and of the first error. Condition: at most 100000 bytes.
-/
import Derived.Test.YtaemoojhmknicaaRef
namespace Go.Proofs.Ytaemoojhmknicaa
open Go.RowKit Cod

theorem cut_cut (S : ByteArray) (a k : Nat) : cutS (cutS S a) k = cutS S (a + k) := text_inj (by rw [bytes_cut, bytes_cut, bytes_cut, List.drop_drop])

theorem refUint_err (b : Nat) (S : ByteArray) (a : Nat) (x : Int) (w : World) (t : Rf w b S a x) (hx : x ≠ 0) :
    Calls Try.prog 44 #[.pointer (some ⟨b, 0, none⟩)] w fun e w' => e = .returned (.int .u64 0) ∧ w = w' := by
  have hc := t.c2
  have ex : (x == 0) = false := by simpa using hx
  replace t := Lib.hid t
  replace hx := Lib.hid hx
  go_enter Try.func44, Try.ntmps44
  go_wp2_with fail
  go_loop [3, 4] (fun n i => n = .int .u64 0 ∧ i = .int .i64 0) (fun _ _ => 0)
  case atStart => exact ⟨rfl, rfl⟩
  case round =>
    obtain ⟨rfl, rfl⟩ := hrel
    go_wp2_with fail
    go_ret
    exact ⟨rfl, rfl⟩

theorem refUint_all (b : Nat) (S : ByteArray) (st : St) (w : World) (t : RfS w b S st) :
    Calls Try.prog 44 #[.pointer (some ⟨b, 0, none⟩)] w fun e w' => e = .returned (.int .u64 (uintS st).1) ∧ RfS w' b S (uintS st).2 ∧ Kept b w w' := by
  obtain ⟨⟨a, rf, ha, hr⟩, hs⟩ := t
  by_cases h0 : st.e = 0
  · rw [h0] at rf
    refine (refUint_run b S a w rf ha hs).mono fun e w' ⟨he, t1, k1⟩ => ?_
    have hb : bytesOf st.rest = (bytesOf S).drop a := by rw [hr h0, bytes_cut]
    rw [← hb] at he t1
    have hsz := num_size (bytesOf st.rest) 0 0
    rw [bytesOf_len, hr h0, cutS_size] at hsz
    rw [← hr h0] at hsz
    rcases num_err (bytesOf st.rest) 0 0 with h | h | h
    · have hn : num 0 0 (bytesOf st.rest) = ((num 0 0 (bytesOf st.rest)).1, (num 0 0 (bytesOf st.rest)).2.1, 0) := Prod.ext rfl (Prod.ext rfl h)
      rw [uintS_ok h0 hn]
      rw [h] at t1
      exact ⟨he, ⟨⟨_, t1, by omega, fun _ => by show cutS st.rest _ = _; rw [hr h0, cut_cut, ← hr h0]⟩, hs⟩, k1⟩
    · rw [uintS_bad h0 (by decide) h]
      rw [h] at he t1
      exact ⟨he, ⟨⟨_, t1, by simpa using ha, fun h => by simp at h⟩, hs⟩, k1⟩
    · rw [uintS_bad h0 (by decide) h]
      rw [h] at he t1
      exact ⟨he, ⟨⟨_, t1, by simpa using ha, fun h => by simp at h⟩, hs⟩, k1⟩
  · rw [uintS_err h0]
    exact (refUint_err b S a st.e w rf h0).mono fun e w' ⟨he, hw⟩ => ⟨he, hw ▸ ⟨⟨a, rf, ha, hr⟩, hs⟩, hw ▸ Kept.refl b w⟩

theorem refInt_by (p : Value) (d : Nat) (R : World → Prop) (w : World) (hd : d < 18446744073709551616) (hu : Hid (Calls Try.prog 44 #[p] w fun e w' => e = .returned (.int .u64 d) ∧ R w')) :
    Calls Try.prog 31 #[p] w fun e w' => e = .returned (.int .i64 (unzig d)) ∧ R w' := by
  by_cases h1 : d % 2 = 1
  · have e1 : ((d : Int) % 2 == 0) = false := by simp; omega
    have hz : Hid (unzig d = -((d : Int) / 2) - 1) := by show unzig d = _; rw [unzig, if_pos h1]; omega
    replace h1 := Lib.hid h1
    go_enter Try.func31, Try.ntmps31
    go_wp2_with fail
    refine hu.out.mono ?_
    rintro e w1 ⟨rfl, r1⟩
    replace r1 := Lib.hid r1
    go_wp2_with fail
    go_ret
    exact ⟨by rw [hz.out]; rfl, r1.out⟩
  · have e1 : ((d : Int) % 2 == 0) = true := by simp; omega
    have hz : Hid (unzig d = (d : Int) / 2) := by show unzig d = _; rw [unzig, if_neg h1]; omega
    replace h1 := Lib.hid h1
    go_enter Try.func31, Try.ntmps31
    go_wp2_with fail
    refine hu.out.mono ?_
    rintro e w1 ⟨rfl, r1⟩
    replace r1 := Lib.hid r1
    go_wp2_with fail
    go_ret
    exact ⟨by rw [hz.out]; rfl, r1.out⟩

theorem refInt_all (b : Nat) (S : ByteArray) (st : St) (w : World) (t : RfS w b S st) :
    Calls Try.prog 31 #[.pointer (some ⟨b, 0, none⟩)] w fun e w' => e = .returned (.int .i64 (intS st).1) ∧ RfS w' b S (intS st).2 ∧ Kept b w w' := by
  obtain ⟨d, hd, hl⟩ := uintS_nat st
  have hu := refUint_all b S st w t
  rw [hd] at hu
  have := refInt_by _ d _ w hl hu
  unfold intS
  rw [hd]
  exact this

theorem refByte_err (b : Nat) (S : ByteArray) (a : Nat) (x : Int) (w : World) (t : Rf w b S a x) (hx : x ≠ 0) :
    Calls Try.prog 30 #[.pointer (some ⟨b, 0, none⟩)] w fun e w' => e = .returned (.int .u8 0) ∧ Rf w' b S a x ∧ Kept b w w' := by
  have c2 := t.c2
  have ex : (x == 0) = false := by simpa using hx
  have ex2 : (x != 0) = true := by simpa using hx
  replace t := Lib.hid t
  replace hx := Lib.hid hx
  go_enter Try.func30, Try.ntmps30
  go_wp2_with fail
  go_quiet (fail)
  go_wp2_with fail
  go_ret
  exact ⟨rfl, t.out.drewN _, (Kept.refl b w).drewN _⟩

theorem refByte_none (b : Nat) (S : ByteArray) (a : Nat) (w : World) (t : Rf w b S a 0) (ha : a = S.size) :
    Calls Try.prog 30 #[.pointer (some ⟨b, 0, none⟩)] w fun e w' => e = .returned (.int .u8 0) ∧ Rf w' b S a 4 ∧ Kept b w w' := by
  have c2 := t.c2
  have c1 := t.c1
  have c0 := t.c0
  have hge : (S.size : Int) ≤ a := by omega
  replace ha := Lib.hid ha
  replace t := Lib.hid t
  go_enter Try.func30, Try.ntmps30
  go_wp2_with fail
  go_quiet (fail)
  have t1 := Lib.hid (t.out.drewN nq)
  have k1 := Lib.hid ((Kept.refl b w).drewN nq)
  clear c0 c1 c2 t
  generalize w.drewN nq = w1 at *
  go_wp2_with fail
  refine (refFail_hit b S a 4 _ t1.out).mono ?_
  rintro e w2 ⟨rfl, t2, k2⟩
  have c2 := t2.c2
  replace t2 := Lib.hid t2
  replace k2 := Lib.hid (k1.out.trans k2)
  clear t1 k1
  go_wp2_with fail
  go_ret
  exact ⟨rfl, t2.out, k2.out⟩

theorem refByte_one (b : Nat) (S : ByteArray) (a : Nat) (w : World) (t : Rf w b S a 0) (ha : a < S.size) (hs : S.size ≤ 100000) :
    Calls Try.prog 30 #[.pointer (some ⟨b, 0, none⟩)] w fun e w' => e = .returned (.int .u8 (S[a].toNat : Int)) ∧ Rf w' b S (a + 1) 0 ∧ Kept b w w' := by
  have c2 := t.c2
  have c1 := t.c1
  have c0 := t.c0
  have hge : ¬ (S.size : Int) ≤ a := by omega
  replace t := Lib.hid t
  go_enter Try.func30, Try.ntmps30
  go_wp2_with fail
  go_quiet (fail)
  have t1 := Lib.hid (t.out.drewN nq)
  have k1 := Lib.hid ((Kept.refl b w).drewN nq)
  clear c0 c1 c2 t
  generalize w.drewN nq = w1 at *
  have c0 := t1.out.c0
  have c1 := t1.out.c1
  have c2 := t1.out.c2
  have z1 := t1.out.fz 1
  go_wp2_with fail
  have t2 : Hid (Rf (w1.setCell ⟨b, 1, none⟩ (.int .i64 ((a : Int) + 1))) b S (a + 1) 0) := by
    have h := t1.out.setAt (a + 1)
    rw [show ((a + 1 : Nat) : Int) = (a : Int) + 1 by omega] at h
    exact h
  have k2 := Lib.hid (k1.out.setCell 1 (.int .i64 ((a : Int) + 1)))
  clear t1 k1 c0 c1 c2 z1
  generalize w1.setCell ⟨b, 1, none⟩ (.int .i64 ((a : Int) + 1)) = w2 at *
  have c0 := t2.out.c0
  have c1 : w2.cell? ⟨b, 1, none⟩ = some (.int .i64 ((a : Int) + 1)) := t2.out.c1
  have hw1 : IntKind.i64.wrap ((a : Int) + 1 - 1) = a := by rw [IntWalk.i64_in _ (by omega)]; omega
  have hw2 : IntKind.i64.wrap (a : Int) = a := IntWalk.i64_in _ (by omega)
  go_quiet (fail)
  go_wp2_with fail
  go_ret
  exact ⟨rfl, t2.out.drewN _, k2.out.drewN _⟩

theorem refByte_all (b : Nat) (S : ByteArray) (st : St) (w : World) (t : RfS w b S st) :
    Calls Try.prog 30 #[.pointer (some ⟨b, 0, none⟩)] w fun e w' => e = .returned (.int .u8 (byteS st).1) ∧ RfS w' b S (byteS st).2 ∧ Kept b w w' := by
  obtain ⟨⟨a, rf, ha, hr⟩, hs⟩ := t
  by_cases h0 : st.e = 0
  · rw [h0] at rf
    have hsz : st.rest.size = S.size - a := by rw [hr h0, cutS_size]
    by_cases hl : a = S.size
    · rw [byteS_none h0 (by omega)]
      exact (refByte_none b S a w rf hl).mono fun e w' ⟨he, t1, k1⟩ => ⟨he, ⟨⟨a, t1, ha, fun h => by simp at h⟩, hs⟩, k1⟩
    · have hlt : a < S.size := by omega
      rw [byteS_one h0 (by omega)]
      have hb : (bytesOf st.rest) = (bytesOf S).drop a := by rw [hr h0, bytes_cut]
      have h1 := bytesOf_drop S a hlt
      have h2 := bytesOf_drop st.rest 0 (by omega)
      rw [List.drop_zero, hb, h1] at h2
      have h3 : (S[a]).toNat = (st.rest[0]'(by omega)).toNat := (List.cons.inj h2).1
      rw [← h3]
      exact (refByte_one b S a w rf hlt hs).mono fun e w' ⟨he, t1, k1⟩ => ⟨he, ⟨⟨a + 1, t1, by omega, fun _ => by show cutS st.rest 1 = _; rw [hr h0, cut_cut]⟩, hs⟩, k1⟩
  · rw [byteS_err h0]
    exact (refByte_err b S a st.e w rf h0).mono fun e w' ⟨he, t1, k1⟩ => ⟨he, ⟨⟨a, t1, ha, hr⟩, hs⟩, k1⟩

/-- Str behind its Uint. -/
theorem refStr_by (b : Nat) (S : ByteArray) (a a1 : Nat) (n : Nat) (x : Int) (most : Int) (w : World) (ha : a ≤ S.size) (ha1 : a1 ≤ S.size) (hs : S.size ≤ 100000) (hn : n < 18446744073709551616) (hm1 : -9223372036854775808 ≤ most) (hm2 : most ≤ 9223372036854775807)
    (c1 : w.cell? ⟨b, 1, none⟩ = some (.int .i64 a))
    (hu : Hid (Calls Try.prog 44 #[.pointer (some ⟨b, 0, none⟩)] w fun e w' => e = .returned (.int .u64 n) ∧ Rf w' b S a1 x ∧ Kept b w w')) :
    Calls Try.prog 32 #[.pointer (some ⟨b, 0, none⟩), .int .i64 most] w fun e w' => e = .returned (.string (strT n ⟨cutS S a1, x⟩ most).1) ∧ RfS w' b S (strT n ⟨cutS S a1, x⟩ most).2 ∧ Kept b w w' := by
  by_cases h0 : x = 0
  · subst h0
    by_cases hl : tooLong n most = true
    · have hst := Lib.hid (strT_long (st := ⟨cutS S a1, 0⟩) rfl hl)
      have hl2 := of_decide_eq_true hl
      replace hl := Lib.hid hl
      by_cases hneg : most < 0
      · clear hl2
        go_enter Try.func32, Try.ntmps32
        go_wp2_with fail
        refine hu.out.mono ?_
        rintro e w1 ⟨rfl, t1, k1⟩
        clear c1
        have c1 := t1.c1
        have c2 := t1.c2
        have z1 := t1.fz 1
        replace t1 := Lib.hid t1
        replace k1 := Lib.hid k1
        go_wp2_with fail
        have t3 := Lib.hid (t1.out.setAt a)
        have k3 := Lib.hid (k1.out.setCell 1 (.int .i64 (a : Int)))
        clear t1 k1 c1 c2 z1
        generalize w1.setCell ⟨b, 1, none⟩ (.int .i64 (a : Int)) = w3 at *
        refine (refFail_hit b S a 15 _ t3.out).mono ?_
        rintro e w4 ⟨rfl, t4, k4⟩
        have c2 := t4.c2
        replace t4 := Lib.hid t4
        replace k4 := Lib.hid (k3.out.trans k4)
        clear t3 k3
        go_wp2_with fail
        go_quiet (fail)
        have t5 := Lib.hid (t4.out.drewN nq)
        have k5 := Lib.hid (k4.out.drewN nq)
        clear t4 k4 c2
        generalize w4.drewN nq = w5 at *
        have c2 := t5.out.c2
        go_wp2_with fail
        go_ret
        exact ⟨by rw [hst.out]; rfl, by rw [hst.out]; exact ⟨⟨a, t5.out, ha, fun h => by simp at h⟩, hs⟩, k5.out⟩
      · have hgt : most < (n : Int) := by omega
        clear hl2
        go_enter Try.func32, Try.ntmps32
        go_wp2_with fail
        refine hu.out.mono ?_
        rintro e w1 ⟨rfl, t1, k1⟩
        clear c1
        have c1 := t1.c1
        have c2 := t1.c2
        have z1 := t1.fz 1
        replace t1 := Lib.hid t1
        replace k1 := Lib.hid k1
        go_wp2_with fail
        have t3 := Lib.hid (t1.out.setAt a)
        have k3 := Lib.hid (k1.out.setCell 1 (.int .i64 (a : Int)))
        clear t1 k1 c1 c2 z1
        generalize w1.setCell ⟨b, 1, none⟩ (.int .i64 (a : Int)) = w3 at *
        refine (refFail_hit b S a 15 _ t3.out).mono ?_
        rintro e w4 ⟨rfl, t4, k4⟩
        have c2 := t4.c2
        replace t4 := Lib.hid t4
        replace k4 := Lib.hid (k3.out.trans k4)
        clear t3 k3
        go_wp2_with fail
        go_quiet (fail)
        have t5 := Lib.hid (t4.out.drewN nq)
        have k5 := Lib.hid (k4.out.drewN nq)
        clear t4 k4 c2
        generalize w4.drewN nq = w5 at *
        have c2 := t5.out.c2
        go_wp2_with fail
        go_ret
        exact ⟨by rw [hst.out]; rfl, by rw [hst.out]; exact ⟨⟨a, t5.out, ha, fun h => by simp at h⟩, hs⟩, k5.out⟩
    · have hl2 : ¬ (most < 0 ∨ most < (n : Int)) := of_decide_eq_false (Bool.eq_false_iff.2 hl)
      have hneg : ¬ most < 0 := by omega
      have hgt : ¬ most < (n : Int) := by omega
      by_cases ht : (((cutS S a1).size : Nat) : Int) < n
      · have hst := Lib.hid (strT_torn (st := ⟨cutS S a1, 0⟩) rfl hl ht)
        rw [cutS_size] at ht
        replace hl := Lib.hid hl
        clear hl2
        go_enter Try.func32, Try.ntmps32
        go_wp2_with fail
        refine hu.out.mono ?_
        rintro e w1 ⟨rfl, t1, k1⟩
        clear c1
        have c0 := t1.c0
        have c1 := t1.c1
        have c2 := t1.c2
        have z1 := t1.fz 1
        replace t1 := Lib.hid t1
        replace k1 := Lib.hid k1
        go_wp2_with fail
        obtain ⟨d, hd⟩ : ∃ d : Nat, (S.size : Int) - a1 = (d : Int) := ⟨S.size - a1, by omega⟩
        have hcmp : (d : Int) < n := by omega
        have hw2 : IntKind.u64.wrap (d : Int) = d := IntWalk.u64_in _ (by omega)
        have hw1 : IntKind.i64.wrap ((S.size : Int) - a1) = d := by rw [hd]; exact IntWalk.i64_in _ (by omega)
        replace hd := Lib.hid hd
        replace ht := Lib.hid ht
        go_quiet (fail)
        have t2 := Lib.hid (t1.out.drewN nq)
        have k2 := Lib.hid (k1.out.drewN nq)
        clear t1 k1 c0 c1 c2 z1 hw1 hw2
        generalize w1.drewN nq = w2 at *
        have c1 := t2.out.c1
        have z1 := t2.out.fz 1
        go_wp2_with fail
        have t3 := Lib.hid (t2.out.setAt a)
        have k3 := Lib.hid (k2.out.setCell 1 (.int .i64 (a : Int)))
        clear t2 k2 c1 z1
        generalize w2.setCell ⟨b, 1, none⟩ (.int .i64 (a : Int)) = w3 at *
        refine (refFail_hit b S a 4 _ t3.out).mono ?_
        rintro e w4 ⟨rfl, t4, k4⟩
        have c2 := t4.c2
        replace t4 := Lib.hid t4
        replace k4 := Lib.hid (k3.out.trans k4)
        clear t3 k3
        go_wp2_with fail
        go_ret
        exact ⟨by rw [hst.out]; rfl, by rw [hst.out]; exact ⟨⟨a, t4.out, ha, fun h => by simp at h⟩, hs⟩, k4.out⟩
      · have hst := Lib.hid (strT_ok (st := ⟨cutS S a1, 0⟩) rfl hl ht)
        rw [cutS_size] at ht
        have hle : a1 + n ≤ S.size := by omega
        replace hl := Lib.hid hl
        clear hl2
        go_enter Try.func32, Try.ntmps32
        go_wp2_with fail
        refine hu.out.mono ?_
        rintro e w1 ⟨rfl, t1, k1⟩
        clear c1
        have c0 := t1.c0
        have c1 := t1.c1
        have c2 := t1.c2
        have z1 := t1.fz 1
        replace t1 := Lib.hid t1
        replace k1 := Lib.hid k1
        go_wp2_with fail
        obtain ⟨d, hd⟩ : ∃ d : Nat, (S.size : Int) - a1 = (d : Int) := ⟨S.size - a1, by omega⟩
        have hcmp : ¬ (d : Int) < n := by omega
        have hw2 : IntKind.u64.wrap (d : Int) = d := IntWalk.u64_in _ (by omega)
        have hw1 : IntKind.i64.wrap ((S.size : Int) - a1) = d := by rw [hd]; exact IntWalk.i64_in _ (by omega)
        have hw3 : IntKind.i64.wrap (d : Int) = d := IntWalk.i64_in _ (by omega)
        replace hd := Lib.hid hd
        go_quiet (fail)
        have t2 := Lib.hid (t1.out.drewN nq)
        have k2 := Lib.hid (k1.out.drewN nq)
        clear t1 k1 c0 c1 c2 z1 hw1 hw2 hw3
        generalize w1.drewN nq = w2 at *
        have c0 := t2.out.c0
        have c1 := t2.out.c1
        have c2 := t2.out.c2
        have z1 := t2.out.fz 1
        go_wp2_with fail
        obtain ⟨E, hE⟩ : ∃ E : Nat, a1 + n = E := ⟨_, rfl⟩
        have hE2 : E ≤ S.size := by omega
        have hE3 : a1 ≤ E := by omega
        have t3 : Hid (Rf (w2.setCell ⟨b, 1, none⟩ (.int .i64 ((a1 : Int) + n))) b S E 0) := by
          have h := t2.out.setAt E
          rw [show ((E : Nat) : Int) = (a1 : Int) + n by omega] at h
          exact h
        have k3 := Lib.hid (k2.out.setCell 1 (.int .i64 ((a1 : Int) + n)))
        clear t2 k2 c0 c1 c2 z1
        generalize w2.setCell ⟨b, 1, none⟩ (.int .i64 ((a1 : Int) + n)) = w3 at *
        have c0 := t3.out.c0
        have c1 := t3.out.c1
        have hw1 : IntKind.i64.wrap (n : Int) = n := IntWalk.i64_in _ (by omega)
        have hw2 : IntKind.i64.wrap ((E : Int) - n) = a1 := by rw [IntWalk.i64_in _ (by omega)]; omega
        have hx : Hid ((cutS S a1).extract 0 n = S.extract a1 E) := by
          refine text_inj ?_
          rw [bytes_take, bytes_cut, bytes_extract, show E - a1 = n by omega]
        replace hE := Lib.hid hE
        go_quiet (fail)
        clear hw1 hw2
        go_wp2_with fail
        go_ret
        refine ⟨by rw [hst.out]; show _ = Ending.returned (.string ((cutS S a1).extract 0 n)); rw [hx.out]; rfl, ?_, k3.out.drewN _⟩
        rw [hst.out]
        exact ⟨⟨E, t3.out.drewN _, hE2, fun _ => by show cutS (cutS S a1) n = _; rw [cut_cut, hE.out]⟩, hs⟩
  · have ex : (x == 0) = false := by simpa using h0
    have ex2 : (x != 0) = true := by simpa using h0
    have hst := Lib.hid (strT_err (n := n) (st := ⟨cutS S a1, x⟩) most h0)
    replace h0 := Lib.hid h0
    go_enter Try.func32, Try.ntmps32
    go_wp2_with fail
    refine hu.out.mono ?_
    rintro e w1 ⟨rfl, t1, k1⟩
    clear c1
    have c2 := t1.c2
    replace t1 := Lib.hid t1
    replace k1 := Lib.hid k1
    go_wp2_with fail
    go_quiet (fail)
    have t2 := Lib.hid (t1.out.drewN nq)
    have k2 := Lib.hid (k1.out.drewN nq)
    clear t1 k1 c2
    generalize w1.drewN nq = w2 at *
    have c2 := t2.out.c2
    go_wp2_with fail
    go_ret
    exact ⟨by rw [hst.out]; rfl, by rw [hst.out]; exact ⟨⟨a1, t2.out, ha1, fun h => absurd h h0.out⟩, hs⟩, k2.out⟩

theorem strT_same {n : Int} {st : St} {r : ByteArray} (m : Int) (h : st.e = 0 → st.rest = r) : (strT n ⟨r, st.e⟩ m).1 = (strT n st m).1 ∧ (strT n ⟨r, st.e⟩ m).2.e = (strT n st m).2.e ∧ ((strT n st m).2.e = 0 → (strT n ⟨r, st.e⟩ m).2.rest = (strT n st m).2.rest) := by
  by_cases h0 : st.e = 0
  · have e : (⟨r, st.e⟩ : St) = st := by rw [← h h0]
    rw [e]; simp
  · rw [strT_err m h0, strT_err (st := ⟨r, st.e⟩) m h0]
    exact ⟨rfl, rfl, fun h => absurd h h0⟩

theorem RfS.congr {w : World} {b : Nat} {S : ByteArray} {st st' : St} (t : RfS w b S st) (he : st.e = st'.e) (hr : st'.e = 0 → st.rest = st'.rest) : RfS w b S st' := by
  obtain ⟨⟨a, rf, ha, h⟩, hs⟩ := t
  exact ⟨⟨a, he ▸ rf, ha, fun h0 => (hr h0) ▸ h (he.trans h0)⟩, hs⟩

theorem refStr_from (b : Nat) (S : ByteArray) (a a1 n : Nat) (st1 : St) (most : Int) (w : World) (ha : a ≤ S.size) (ha1 : a1 ≤ S.size) (hs : S.size ≤ 100000) (hn : n < 18446744073709551616) (hm1 : -9223372036854775808 ≤ most) (hm2 : most ≤ 9223372036854775807)
    (c1 : w.cell? ⟨b, 1, none⟩ = some (.int .i64 a)) (hr : st1.e = 0 → st1.rest = cutS S a1)
    (hu : Calls Try.prog 44 #[.pointer (some ⟨b, 0, none⟩)] w fun e w' => e = .returned (.int .u64 n) ∧ Rf w' b S a1 st1.e ∧ Kept b w w') :
    Calls Try.prog 32 #[.pointer (some ⟨b, 0, none⟩), .int .i64 most] w fun e w' => e = .returned (.string (strT n st1 most).1) ∧ RfS w' b S (strT n st1 most).2 ∧ Kept b w w' := by
  obtain ⟨h1, h2, h3⟩ := strT_same (n := n) (st := st1) (r := cutS S a1) most hr
  exact (refStr_by b S a a1 n st1.e most w ha ha1 hs hn hm1 hm2 c1 hu).mono fun e w' ⟨he, t1, k1⟩ => ⟨by rw [he, h1], t1.congr h2 h3, k1⟩

theorem refStr_all (b : Nat) (S : ByteArray) (st : St) (most : Int) (w : World) (hm1 : -9223372036854775808 ≤ most) (hm2 : most ≤ 9223372036854775807) (t : RfS w b S st) :
    Calls Try.prog 32 #[.pointer (some ⟨b, 0, none⟩), .int .i64 most] w fun e w' => e = .returned (.string (strS st most).1) ∧ RfS w' b S (strS st most).2 ∧ Kept b w w' := by
  obtain ⟨⟨a, rf, ha, hr⟩, hs⟩ := t
  have c1 := rf.c1
  unfold strS
  by_cases h0 : st.e = 0
  · rw [h0] at rf
    have hb : bytesOf st.rest = (bytesOf S).drop a := by rw [hr h0, bytes_cut]
    have hsz := num_size (bytesOf st.rest) 0 0
    have hlt := num_lt (bytesOf_lt st.rest)
    rw [bytesOf_len, hr h0, cutS_size] at hsz
    rw [← hr h0] at hsz
    have hu := refUint_run b S a w rf ha hs
    rw [← hb] at hu
    rcases num_err (bytesOf st.rest) 0 0 with h | h
    · have hn : num 0 0 (bytesOf st.rest) = ((num 0 0 (bytesOf st.rest)).1, (num 0 0 (bytesOf st.rest)).2.1, 0) := Prod.ext rfl (Prod.ext rfl h)
      rw [uintS_ok h0 hn]
      refine refStr_from b S a (a + (num 0 0 (bytesOf st.rest)).2.1) _ _ most w ha (by omega) hs hlt hm1 hm2 c1 (fun _ => by show cutS st.rest _ = _; rw [hr h0, cut_cut, ← hr h0]) ?_
      exact hu.mono fun e w' ⟨he, t1, k1⟩ => ⟨he, by rw [h] at t1; exact t1, k1⟩
    · obtain ⟨x, hx, h⟩ : ∃ x : Nat, x ≠ 0 ∧ num 0 0 (bytesOf st.rest) = (0, 0, x) := by
        rcases h with h | h
        · exact ⟨3, by decide, h⟩
        · exact ⟨4, by decide, h⟩
      rw [uintS_bad h0 hx h]
      rw [h] at hu
      refine refStr_from b S a a 0 ⟨st.rest, (x : Int)⟩ most w ha ha hs (by omega) hm1 hm2 c1 (fun h => by simp at h; exact absurd h hx) ?_
      exact hu.mono fun e w' ⟨he, t1, k1⟩ => ⟨he, t1, k1⟩
  · rw [uintS_err h0]
    refine refStr_from b S a a 0 st most w ha ha hs (by omega) hm1 hm2 c1 (fun h => absurd h h0) ?_
    exact (refUint_err b S a st.e w rf h0).mono fun e w' ⟨he, hw⟩ => ⟨he, hw ▸ rf, hw ▸ Kept.refl b w⟩
end Go.Proofs.Ytaemoojhmknicaa
