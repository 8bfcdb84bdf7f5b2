/-
  The reading methods of a codec.Reader: Uint, Int, Byte, Str, each as a function of what is left and of the first error. Condition: at most 100000 bytes.
-/
import Derived.Test.YtnagidgffkffhaaReader
import Derived.Laws.DeepNot64
namespace Go.Proofs.Ytnagidgffkffhaa
open Go.RowKit Cod

/-- What is behind the first k bytes. -/
def cutS (s : ByteArray) (k : Nat) : ByteArray := s.extract k s.size

theorem cutS_size (s : ByteArray) (k : Nat) : (cutS s k).size = s.size - k := by simp [cutS]

def uintS (st : St) : Int × St :=
  if st.e = 0 then
    if (num 0 0 (bytesOf st.rest)).2.2 = 0 then (((num 0 0 (bytesOf st.rest)).1 : Nat), ⟨cutS st.rest (num 0 0 (bytesOf st.rest)).2.1, 0⟩)
    else (0, ⟨st.rest, ((num 0 0 (bytesOf st.rest)).2.2 : Nat)⟩)
  else (0, st)

theorem uintS_err {st : St} (h : st.e ≠ 0) : uintS st = (0, st) := by rw [uintS, if_neg h]
theorem uintS_ok {st : St} {n k : Nat} (h : st.e = 0) (hn : num 0 0 (bytesOf st.rest) = (n, k, 0)) : uintS st = ((n : Int), ⟨cutS st.rest k, 0⟩) := by
  rw [uintS, if_pos h, hn, if_pos rfl]
theorem uintS_bad {st : St} {x : Nat} (h : st.e = 0) (hx : x ≠ 0) (hn : num 0 0 (bytesOf st.rest) = (0, 0, x)) : uintS st = (0, ⟨st.rest, (x : Int)⟩) := by
  rw [uintS, if_pos h, hn, if_neg hx]

theorem number_at {s : ByteArray} {t : Nat × Nat × Nat} (h : num 0 0 (bytesOf s) = t) (w : World) (hs : s.size ≤ 100000) :
    Calls Try.prog 74 #[.string s] w fun e w' => e = .returned (.tuple #[.int .u64 t.1, .int .i64 t.2.1, .int .i64 t.2.2]) ∧ w = w' := by
  subst h; exact number_any s w hs

theorem uint_err (b : Nat) (st : St) (w : World) (t : Rd w b st) (h0 : st.e ≠ 0) :
    Calls Try.prog 56 #[.pointer (some ⟨b, 0, none⟩)] w fun e w' => e = .returned (.int .u64 0) ∧ w = w' := by
  have e0 : (st.e != 0) = true := by simp [h0]
  replace h0 := Lib.hid h0
  go_enter Try.func56, Try.ntmps56
  go_wp2_with (go_at_call 38; refine (err_any b st _ t).mono ?_; rintro e w' ⟨rfl, rfl⟩)
  go_ret
  exact ⟨rfl, rfl⟩
theorem uint_nil (w : World) : Calls Try.prog 56 #[.pointer none] w fun e w' => e = .returned (.int .u64 0) ∧ w = w' := by
  go_enter Try.func56, Try.ntmps56
  go_wp2_with (go_at_call 38; refine (err_nil _).mono ?_; rintro e w' ⟨rfl, rfl⟩)
  go_ret
  exact ⟨rfl, rfl⟩

theorem uint_ok (b : Nat) (st : St) (n k : Nat) (w : World) (t : Rd w b st) (h0 : st.e = 0) (hn : num 0 0 (bytesOf st.rest) = (n, k, 0)) :
    Calls Try.prog 56 #[.pointer (some ⟨b, 0, none⟩)] w fun e w' => e = .returned (.int .u64 n) ∧ Rd w' b ⟨cutS st.rest k, 0⟩ ∧ Kept b w w' := by
  have e0 : (st.e != 0) = false := by simp [h0]
  have hc := t.cell h0
  have hz := t.fz 0
  have hsz := t.sz h0
  have hk : k ≤ st.rest.size := by have := num_size (bytesOf st.rest) 0 0; rw [hn, bytesOf_len] at this; simpa using this
  have hk2 : (k : Int) ≤ st.rest.size := by omega
  replace h0 := Lib.hid h0
  replace hn := Lib.hid hn
  go_enter Try.func56, Try.ntmps56
  go_wp2_with fail
  refine (err_any b st _ t).mono ?_
  rintro e w' ⟨rfl, rfl⟩
  go_wp2_with fail
  refine (number_at hn.out _ hsz).mono ?_
  rintro e w' ⟨rfl, rfl⟩
  go_wp2_with fail
  go_ret
  refine ⟨rfl, ?_, (Kept.refl b w).setCell _ _⟩
  have := t.setRest (cutS st.rest k) (by rw [cutS_size]; omega)
  rw [h0.out] at this
  exact this

theorem uint_bad (b : Nat) (st : St) (x : Nat) (w : World) (t : Rd w b st) (h0 : st.e = 0) (hx : x ≠ 0) (hn : num 0 0 (bytesOf st.rest) = (0, 0, x)) :
    Calls Try.prog 56 #[.pointer (some ⟨b, 0, none⟩)] w fun e w' => e = .returned (.int .u64 0) ∧ Rd w' b ⟨st.rest, (x : Int)⟩ ∧ Kept b w w' := by
  have e0 : (st.e != 0) = false := by simp [h0]
  have ex : ((x : Int) != 0) = true := by simp [hx]
  have hc := t.cell h0
  have hsz := t.sz h0
  have hf : Hid (failS st x = ⟨st.rest, (x : Int)⟩) := by show failS st x = _; rw [failS, if_pos h0]
  replace h0 := Lib.hid h0
  replace hn := Lib.hid hn
  replace hx := Lib.hid hx
  go_enter Try.func56, Try.ntmps56
  go_wp2_with fail
  refine (err_any b st _ t).mono ?_
  rintro e w' ⟨rfl, rfl⟩
  go_wp2_with fail
  refine (number_at hn.out _ hsz).mono ?_
  rintro e w' ⟨rfl, rfl⟩
  go_wp2_with fail
  refine (fail_any b st x _ t).mono ?_
  rintro e w1 ⟨rfl, t1, k1⟩
  replace t1 := Lib.hid t1
  replace k1 := Lib.hid k1
  go_wp2_with fail
  go_ret
  exact ⟨rfl, hf.out ▸ t1.out, k1.out⟩

theorem uint_all (b : Nat) (st : St) (w : World) (t : Rd w b st) :
    Calls Try.prog 56 #[.pointer (some ⟨b, 0, none⟩)] w fun e w' => e = .returned (.int .u64 (uintS st).1) ∧ Rd w' b (uintS st).2 ∧ Kept b w w' := by
  by_cases h0 : st.e = 0
  · obtain ⟨n, k, x, hn⟩ : ∃ n k x, num 0 0 (bytesOf st.rest) = (n, k, x) := ⟨_, _, _, rfl⟩
    by_cases hx : x = 0
    · subst hx
      rw [uintS_ok h0 hn]
      exact uint_ok b st n k w t h0 hn
    · have hn' : num 0 0 (bytesOf st.rest) = (0, 0, x) := by
        rcases num_err (bytesOf st.rest) 0 0 with h | h | h
        · rw [hn] at h; exact absurd h hx
        · rw [hn] at h; simp at h; rw [hn]; simp [h]
        · rw [hn] at h; simp at h; rw [hn]; simp [h]
      rw [uintS_bad h0 hx hn']
      exact uint_bad b st x w t h0 hx hn'
  · rw [uintS_err h0]
    exact (uint_err b st w t h0).mono fun _ _ ⟨he, hw⟩ => ⟨he, hw ▸ t, hw ▸ Kept.refl b w⟩

theorem uintS_nat (st : St) : ∃ d : Nat, (uintS st).1 = (d : Int) ∧ d < 18446744073709551616 := by
  unfold uintS
  split
  · split
    · exact ⟨_, rfl, num_lt (bytesOf_lt _)⟩
    · exact ⟨0, rfl, by omega⟩
  · exact ⟨0, rfl, by omega⟩

/-- A number without a sign as one with. -/
def unzig (d : Nat) : Int := if d % 2 = 1 then -1 - ((d / 2 : Nat) : Int) else ((d / 2 : Nat) : Int)
theorem unzig_zig (i : Int) : unzig (zig i) = i := by unfold unzig zig; split <;> split <;> omega

def intS (st : St) : Int × St := (unzig (uintS st).1.toNat, (uintS st).2)

def byteS (st : St) : Int × St :=
  if st.e = 0 then if st.rest.size = 0 then (0, ⟨st.rest, 4⟩) else (((bytesOf st.rest).headD 0 : Nat), ⟨cutS st.rest 1, 0⟩) else (0, st)

theorem byteS_err {st : St} (h : st.e ≠ 0) : byteS st = (0, st) := by rw [byteS, if_neg h]
theorem byteS_none {st : St} (h : st.e = 0) (h0 : st.rest.size = 0) : byteS st = (0, ⟨st.rest, 4⟩) := by rw [byteS, if_pos h, if_pos h0]
theorem byteS_one {st : St} (h : st.e = 0) (h0 : 0 < st.rest.size) : byteS st = (((st.rest[0]).toNat : Int), ⟨cutS st.rest 1, 0⟩) := by
  rw [byteS, if_pos h, if_neg (by omega)]
  have := bytesOf_drop st.rest 0 h0
  rw [List.drop_zero] at this
  rw [this]; rfl

theorem isEmpty_size (s : ByteArray) : s.toList.isEmpty = decide (s.size = 0) := by
  rw [ByteArray.toList_eq]
  obtain ⟨⟨l⟩⟩ := s
  cases l <;> simp [ByteArray.size]

theorem byte_all (b : Nat) (st : St) (w : World) (t : Rd w b st) :
    Calls Try.prog 76 #[.pointer (some ⟨b, 0, none⟩)] w fun e w' => e = .returned (.int .u8 (byteS st).1) ∧ Rd w' b (byteS st).2 ∧ Kept b w w' := by
  by_cases h0 : st.e = 0
  · have e0 : (st.e != 0) = false := by simp [h0]
    have hc := t.cell h0
    have hz := t.fz 0
    have hsz := t.sz h0
    by_cases hl : st.rest.size = 0
    · have hs := Lib.hid (byteS_none h0 hl)
      have ee := isEmpty_size st.rest
      rw [show decide (st.rest.size = 0) = true by simpa using hl] at ee
      have hf : Hid (failS st 4 = ⟨st.rest, 4⟩) := by show failS st 4 = _; rw [failS, if_pos h0]
      replace h0 := Lib.hid h0
      replace hl := Lib.hid hl
      go_enter Try.func76, Try.ntmps76
      go_wp2_with fail
      refine (err_any b st _ t).mono ?_
      rintro e w' ⟨rfl, rfl⟩
      go_wp2_with fail
      refine (fail_any b st 4 _ t).mono ?_
      rintro e w1 ⟨rfl, t1, k1⟩
      replace t1 := Lib.hid t1
      replace k1 := Lib.hid k1
      go_wp2_with fail
      go_ret
      exact ⟨by rw [hs.out]; rfl, by rw [hs.out]; exact hf.out ▸ t1.out, k1.out⟩
    · have hs := Lib.hid (byteS_one h0 (by omega))
      have ee := isEmpty_size st.rest
      rw [show decide (st.rest.size = 0) = false by simpa using hl] at ee
      have hp : 0 < st.rest.size := by omega
      have hp1 : 1 ≤ st.rest.size := by omega
      replace h0 := Lib.hid h0
      replace hl := Lib.hid hl
      go_enter Try.func76, Try.ntmps76
      go_wp2_with fail
      refine (err_any b st _ t).mono ?_
      rintro e w' ⟨rfl, rfl⟩
      go_wp2_with fail
      go_ret
      refine ⟨by rw [hs.out]; rfl, ?_, (Kept.refl b w).setCell _ _⟩
      have := t.setRest (cutS st.rest 1) (by rw [cutS_size]; omega)
      rw [h0.out] at this
      rw [hs.out]
      exact this
  · have e0 : (st.e != 0) = true := by simp [h0]
    have hs := Lib.hid (byteS_err h0)
    replace h0 := Lib.hid h0
    go_enter Try.func76, Try.ntmps76
    go_wp2_with (go_at_call 38; refine (err_any b st _ t).mono ?_; rintro e w' ⟨rfl, rfl⟩)
    go_ret
    exact ⟨by rw [hs.out]; rfl, hs.out ▸ t, Kept.refl b w⟩

/-- A text of at most so many bytes: the test of its length. -/
def tooLong (n : Int) (most : Int) : Bool := decide (most < 0 ∨ most < n)
def strT (n : Int) (st : St) (most : Int) : ByteArray × St :=
  if st.e = 0 then
    if tooLong n most = true then (⟨#[]⟩, ⟨st.rest, 15⟩)
    else if (st.rest.size : Int) < n then (⟨#[]⟩, ⟨st.rest, 4⟩)
    else (st.rest.extract 0 n.toNat, ⟨cutS st.rest n.toNat, 0⟩)
  else (⟨#[]⟩, st)
def strS (st : St) (most : Int) : ByteArray × St := strT (uintS st).1 (uintS st).2 most

theorem strT_err {n : Int} {st : St} (m : Int) (h : st.e ≠ 0) : strT n st m = (⟨#[]⟩, st) := by rw [strT, if_neg h]
theorem strT_long {n : Int} {st : St} {m : Int} (h : st.e = 0) (hl : tooLong n m = true) : strT n st m = (⟨#[]⟩, ⟨st.rest, 15⟩) := by rw [strT, if_pos h, if_pos hl]
theorem strT_torn {n : Int} {st : St} {m : Int} (h : st.e = 0) (hl : ¬ tooLong n m = true) (ht : (st.rest.size : Int) < n) : strT n st m = (⟨#[]⟩, ⟨st.rest, 4⟩) := by rw [strT, if_pos h, if_neg hl, if_pos ht]
theorem strT_ok {n : Nat} {st : St} {m : Int} (h : st.e = 0) (hl : ¬ tooLong n m = true) (ht : ¬ (st.rest.size : Int) < n) : strT n st m = (st.rest.extract 0 n, ⟨cutS st.rest n, 0⟩) := by rw [strT, if_pos h, if_neg hl, if_neg ht]; rfl

end Go.Proofs.Ytnagidgffkffhaa
