/-
  The reading methods of the document's own Reader: Uint, Int, Byte, Str, Left, as the same functions of what is left and of the first error. Condition: at most 100000 bytes.
-/
import Derived.Test.YtnagidgffkffhaaRef
namespace Go.Proofs.Ytnagidgffkffhaa
open Go.RowKit Cod

theorem cut_cut (S : ByteArray) (a k : Nat) : cutS (cutS S a) k = cutS S (a + k) := text_inj (by rw [bytes_cut, bytes_cut, bytes_cut, List.drop_drop])

theorem refUint_err (b : Nat) (S : ByteArray) (a : Nat) (x : Int) (w : World) (t : Rf w b S a x) (hx : x ≠ 0) :
    Calls Try.prog 77 #[.pointer (some ⟨b, 0, none⟩)] w fun e w' => e = .returned (.int .u64 0) ∧ w = w' := by
  have hc := t.c2
  have ex : (x == 0) = false := by simpa using hx
  replace t := Lib.hid t
  replace hx := Lib.hid hx
  go_enter Try.func77, Try.ntmps77
  go_wp2_with fail
  go_loop [3, 4] (fun n i => n = .int .u64 0 ∧ i = .int .i64 0) (fun _ _ => 0)
  case atStart => exact ⟨rfl, rfl⟩
  case round =>
    obtain ⟨rfl, rfl⟩ := hrel
    go_wp2_with fail
    go_ret
    exact ⟨rfl, rfl⟩

theorem refUint_all (b : Nat) (S : ByteArray) (st : St) (w : World) (t : RfS w b S st) :
    Calls Try.prog 77 #[.pointer (some ⟨b, 0, none⟩)] w fun e w' => e = .returned (.int .u64 (uintS st).1) ∧ RfS w' b S (uintS st).2 ∧ Kept b w w' := by
  obtain ⟨⟨a, rf, ha, hr⟩, hs⟩ := t
  by_cases h0 : st.e = 0
  · rw [h0] at rf
    refine (refUint_run b S a w rf ha hs).mono fun e w' ⟨he, t1, k1⟩ => ?_
    have hb : bytesOf st.rest = (bytesOf S).drop a := by rw [hr h0, bytes_cut]
    rw [← hb] at he t1
    have hsz := num_size (bytesOf st.rest) 0 0
    rw [bytesOf_len, hr h0, cutS_size] at hsz
    rw [← hr h0] at hsz
    rcases num_err (bytesOf st.rest) 0 0 with h | h | h
    · have hn : num 0 0 (bytesOf st.rest) = ((num 0 0 (bytesOf st.rest)).1, (num 0 0 (bytesOf st.rest)).2.1, 0) := Prod.ext rfl (Prod.ext rfl h)
      rw [uintS_ok h0 hn]
      rw [h] at t1
      exact ⟨he, ⟨⟨_, t1, by omega, fun _ => by show cutS st.rest _ = _; rw [hr h0, cut_cut, ← hr h0]⟩, hs⟩, k1⟩
    · rw [uintS_bad h0 (by decide) h]
      rw [h] at he t1
      exact ⟨he, ⟨⟨_, t1, by simpa using ha, fun h => by simp at h⟩, hs⟩, k1⟩
    · rw [uintS_bad h0 (by decide) h]
      rw [h] at he t1
      exact ⟨he, ⟨⟨_, t1, by simpa using ha, fun h => by simp at h⟩, hs⟩, k1⟩
  · rw [uintS_err h0]
    exact (refUint_err b S a st.e w rf h0).mono fun e w' ⟨he, hw⟩ => ⟨he, hw ▸ ⟨⟨a, rf, ha, hr⟩, hs⟩, hw ▸ Kept.refl b w⟩

theorem refByte_err (b : Nat) (S : ByteArray) (a : Nat) (x : Int) (w : World) (t : Rf w b S a x) (hx : x ≠ 0) :
    Calls Try.prog 60 #[.pointer (some ⟨b, 0, none⟩)] w fun e w' => e = .returned (.int .u8 0) ∧ Rf w' b S a x ∧ Kept b w w' := by
  have c2 := t.c2
  have ex : (x == 0) = false := by simpa using hx
  have ex2 : (x != 0) = true := by simpa using hx
  replace t := Lib.hid t
  replace hx := Lib.hid hx
  go_enter Try.func60, Try.ntmps60
  go_wp2_with fail
  go_quiet (fail)
  go_wp2_with fail
  go_ret
  exact ⟨rfl, t.out.drewN _, (Kept.refl b w).drewN _⟩

theorem refByte_none (b : Nat) (S : ByteArray) (a : Nat) (w : World) (t : Rf w b S a 0) (ha : a = S.size) :
    Calls Try.prog 60 #[.pointer (some ⟨b, 0, none⟩)] w fun e w' => e = .returned (.int .u8 0) ∧ Rf w' b S a 4 ∧ Kept b w w' := by
  have c2 := t.c2
  have c1 := t.c1
  have c0 := t.c0
  have hge : (S.size : Int) ≤ a := by omega
  replace ha := Lib.hid ha
  replace t := Lib.hid t
  go_enter Try.func60, Try.ntmps60
  go_wp2_with fail
  go_quiet (fail)
  have t1 := Lib.hid (t.out.drewN nq)
  have k1 := Lib.hid ((Kept.refl b w).drewN nq)
  clear c0 c1 c2 t
  generalize w.drewN nq = w1 at *
  go_wp2_with fail
  refine (refFail_hit b S a 4 _ t1.out).mono ?_
  rintro e w2 ⟨rfl, t2, k2⟩
  have c2 := t2.c2
  replace t2 := Lib.hid t2
  replace k2 := Lib.hid (k1.out.trans k2)
  clear t1 k1
  go_wp2_with fail
  go_ret
  exact ⟨rfl, t2.out, k2.out⟩

theorem refByte_one (b : Nat) (S : ByteArray) (a : Nat) (w : World) (t : Rf w b S a 0) (ha : a < S.size) (hs : S.size ≤ 100000) :
    Calls Try.prog 60 #[.pointer (some ⟨b, 0, none⟩)] w fun e w' => e = .returned (.int .u8 (S[a].toNat : Int)) ∧ Rf w' b S (a + 1) 0 ∧ Kept b w w' := by
  have c2 := t.c2
  have c1 := t.c1
  have c0 := t.c0
  have hge : ¬ (S.size : Int) ≤ a := by omega
  replace t := Lib.hid t
  go_enter Try.func60, Try.ntmps60
  go_wp2_with fail
  go_quiet (fail)
  have t1 := Lib.hid (t.out.drewN nq)
  have k1 := Lib.hid ((Kept.refl b w).drewN nq)
  clear c0 c1 c2 t
  generalize w.drewN nq = w1 at *
  have c0 := t1.out.c0
  have c1 := t1.out.c1
  have c2 := t1.out.c2
  have z1 := t1.out.fz 1
  go_wp2_with fail
  have t2 : Hid (Rf (w1.setCell ⟨b, 1, none⟩ (.int .i64 ((a : Int) + 1))) b S (a + 1) 0) := by
    have h := t1.out.setAt (a + 1)
    rw [show ((a + 1 : Nat) : Int) = (a : Int) + 1 by omega] at h
    exact h
  have k2 := Lib.hid (k1.out.setCell 1 (.int .i64 ((a : Int) + 1)))
  clear t1 k1 c0 c1 c2 z1
  generalize w1.setCell ⟨b, 1, none⟩ (.int .i64 ((a : Int) + 1)) = w2 at *
  have c0 := t2.out.c0
  have c1 : w2.cell? ⟨b, 1, none⟩ = some (.int .i64 ((a : Int) + 1)) := t2.out.c1
  have hw1 : IntKind.i64.wrap ((a : Int) + 1 - 1) = a := by rw [IntWalk.i64_in _ (by omega)]; omega
  have hw2 : IntKind.i64.wrap (a : Int) = a := IntWalk.i64_in _ (by omega)
  go_quiet (fail)
  go_wp2_with fail
  go_ret
  exact ⟨rfl, t2.out.drewN _, k2.out.drewN _⟩

theorem refByte_all (b : Nat) (S : ByteArray) (st : St) (w : World) (t : RfS w b S st) :
    Calls Try.prog 60 #[.pointer (some ⟨b, 0, none⟩)] w fun e w' => e = .returned (.int .u8 (byteS st).1) ∧ RfS w' b S (byteS st).2 ∧ Kept b w w' := by
  obtain ⟨⟨a, rf, ha, hr⟩, hs⟩ := t
  by_cases h0 : st.e = 0
  · rw [h0] at rf
    have hsz : st.rest.size = S.size - a := by rw [hr h0, cutS_size]
    by_cases hl : a = S.size
    · rw [byteS_none h0 (by omega)]
      exact (refByte_none b S a w rf hl).mono fun e w' ⟨he, t1, k1⟩ => ⟨he, ⟨⟨a, t1, ha, fun h => by simp at h⟩, hs⟩, k1⟩
    · have hlt : a < S.size := by omega
      rw [byteS_one h0 (by omega)]
      have hb : (bytesOf st.rest) = (bytesOf S).drop a := by rw [hr h0, bytes_cut]
      have h1 := bytesOf_drop S a hlt
      have h2 := bytesOf_drop st.rest 0 (by omega)
      rw [List.drop_zero, hb, h1] at h2
      have h3 : (S[a]).toNat = (st.rest[0]'(by omega)).toNat := (List.cons.inj h2).1
      rw [← h3]
      exact (refByte_one b S a w rf hlt hs).mono fun e w' ⟨he, t1, k1⟩ => ⟨he, ⟨⟨a + 1, t1, by omega, fun _ => by show cutS st.rest 1 = _; rw [hr h0, cut_cut]⟩, hs⟩, k1⟩
  · rw [byteS_err h0]
    exact (refByte_err b S a st.e w rf h0).mono fun e w' ⟨he, t1, k1⟩ => ⟨he, ⟨⟨a, t1, ha, hr⟩, hs⟩, k1⟩

theorem strT_same {n : Int} {st : St} {r : ByteArray} (m : Int) (h : st.e = 0 → st.rest = r) : (strT n ⟨r, st.e⟩ m).1 = (strT n st m).1 ∧ (strT n ⟨r, st.e⟩ m).2.e = (strT n st m).2.e ∧ ((strT n st m).2.e = 0 → (strT n ⟨r, st.e⟩ m).2.rest = (strT n st m).2.rest) := by
  by_cases h0 : st.e = 0
  · have e : (⟨r, st.e⟩ : St) = st := by rw [← h h0]
    rw [e]; simp
  · rw [strT_err m h0, strT_err (st := ⟨r, st.e⟩) m h0]
    exact ⟨rfl, rfl, fun h => absurd h h0⟩

theorem RfS.congr {w : World} {b : Nat} {S : ByteArray} {st st' : St} (t : RfS w b S st) (he : st.e = st'.e) (hr : st'.e = 0 → st.rest = st'.rest) : RfS w b S st' := by
  obtain ⟨⟨a, rf, ha, h⟩, hs⟩ := t
  exact ⟨⟨a, he ▸ rf, ha, fun h0 => (hr h0) ▸ h (he.trans h0)⟩, hs⟩

end Go.Proofs.Ytnagidgffkffhaa
