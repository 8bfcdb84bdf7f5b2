/-
  What is written is read as it was, and what stands behind it is left; cut off it is torn: of the bytes and of the reader's functions, no program. Condition: a text of at most 100000 bytes.
-/
import Derived.Test.YtnagidgffkffhaaReads
namespace Go.Proofs.Ytnagidgffkffhaa
open Go.RowKit Cod

theorem text_inj {x y : ByteArray} (h : bytesOf x = bytesOf y) : x = y := by
  apply WideShapes.bytes_inj
  have h2 : x.data.toList.map UInt8.toNat = y.data.toList.map UInt8.toNat := h
  exact (List.map_inj_right (fun a b e => UInt8.toNat_inj.1 e)).1 h2
theorem bytes_enc (n : Nat) : bytesOf (encB n) = enc n := by
  have h := enc_byte n
  unfold bytesOf encB
  rw [strOfNums_data, nums, List.map_map, List.map_map]
  refine (List.map_congr_left fun x hx => ?_).trans (List.map_id _)
  have := h x hx
  simp
  omega
theorem bytes_extract (s : ByteArray) (a b : Nat) : bytesOf (s.extract a b) = ((bytesOf s).drop a).take (b - a) := by
  unfold bytesOf
  rw [ByteArray.data_extract]
  simp [List.map_take, List.map_drop, List.take_drop, List.extract]
theorem bytes_append (x y : ByteArray) : bytesOf (x ++ y) = bytesOf x ++ bytesOf y := by
  unfold bytesOf
  rw [ByteArray.data_append]
  simp
theorem bytes_cut (s : ByteArray) (k : Nat) : bytesOf (cutS s k) = (bytesOf s).drop k := by
  rw [cutS, bytes_extract, List.take_of_length_le (by rw [List.length_drop, bytesOf_len]; omega)]
theorem bytes_take (s : ByteArray) (k : Nat) : bytesOf (s.extract 0 k) = (bytesOf s).take k := by
  rw [bytes_extract]; rfl

theorem app_assoc (x y z : ByteArray) : x ++ y ++ z = x ++ (y ++ z) := text_inj (by simp only [bytes_append, List.append_assoc])
theorem cut_append (x y : ByteArray) (k : Nat) (h : k = x.size) : cutS (x ++ y) k = y :=
  text_inj (by rw [bytes_cut, bytes_append, h, ← bytesOf_len, List.drop_left])
theorem take_append (x y : ByteArray) (k : Nat) (h : k = x.size) : (x ++ y).extract 0 k = x :=
  text_inj (by rw [bytes_take, bytes_append, h, ← bytesOf_len, List.take_left])
theorem take_in (x y : ByteArray) (k : Nat) (h : k < x.size) : (x ++ y).extract 0 k = x.extract 0 k :=
  text_inj (by rw [bytes_take, bytes_take, bytes_append, List.take_append_of_le_length (by rw [bytesOf_len]; omega)])
theorem take_past (x y : ByteArray) (k : Nat) (h : ¬ k < x.size) : (x ++ y).extract 0 k = x ++ y.extract 0 (k - x.size) :=
  text_inj (by rw [bytes_take, bytes_append, bytes_append, bytes_take, List.take_append, List.take_of_length_le (l := bytesOf x) (by rw [bytesOf_len]; omega), bytesOf_len])
theorem size_append' (x y : ByteArray) : (x ++ y).size = x.size + y.size := by rw [← bytesOf_len, bytes_append, List.length_append, bytesOf_len, bytesOf_len]
theorem size_take (x : ByteArray) (k : Nat) (h : k ≤ x.size) : (x.extract 0 k).size = k := by rw [← bytesOf_len, bytes_take, List.length_take, bytesOf_len]; omega

theorem uint_back (n : Nat) (R : ByteArray) (hn : n < 18446744073709551616) : uintS ⟨encB n ++ R, 0⟩ = ((n : Int), ⟨R, 0⟩) := by
  have h := num_enc n 0 0 (bytesOf R) (by omega) (by simpa using hn) (by omega)
  rw [uintS_ok (st := ⟨encB n ++ R, 0⟩) (n := n) (k := (enc n).length) rfl (by rw [bytes_append, bytes_enc, h]; simp)]
  rw [cut_append _ _ _ (encB_size n).symm]
theorem int_back (i : Int) (R : ByteArray) (h1 : -9223372036854775808 ≤ i) (h2 : i ≤ 9223372036854775807) : intS ⟨encB (zig i) ++ R, 0⟩ = (i, ⟨R, 0⟩) := by
  rw [intS, uint_back _ R (zig_lt h1 h2)]
  show (unzig (((zig i : Nat) : Int)).toNat, _) = _
  rw [Int.toNat_natCast, unzig_zig]
theorem long_not (n : Nat) : ¬ tooLong n n = true := by
  unfold tooLong; simp
theorem str_back (s R : ByteArray) (hs : s.size ≤ 100000) : strS ⟨strB s ++ R, 0⟩ s.size = (s, ⟨R, 0⟩) := by
  rw [strS, strB, app_assoc, uint_back _ _ (by omega)]
  dsimp only
  rw [strT_ok rfl (long_not _) (by dsimp only; rw [size_append']; omega)]
  dsimp only
  rw [take_append _ _ _ rfl, cut_append _ _ _ rfl]

theorem uint_cut (n k : Nat) (hn : n < 18446744073709551616) (hk : k < (encB n).size) : (uintS ⟨(encB n).extract 0 k, 0⟩).2.e = 4 := by
  have h := num_cut n 0 0 k (by omega) (by simpa using hn) (by rw [← encB_size]; exact hk)
  rw [uintS_bad (st := ⟨(encB n).extract 0 k, 0⟩) (x := 4) rfl (by omega) (by rw [bytes_take, bytes_enc, h])]
  rfl
theorem int_err {st : St} (h : st.e = 4) : (intS st).2.e = 4 := by
  have h4 : st.e ≠ 0 := by rw [h]; decide
  unfold intS; dsimp only
  rw [uintS_err h4]; exact h
theorem int_of_err {st : St} (h : (uintS st).2.e = 4) : (intS st).2.e = 4 := by unfold intS; exact h
theorem str_of_err {st : St} (m : Int) (h : (uintS st).2.e = 4) : (strS st m).2.e = 4 := by
  have h4 : (uintS st).2.e ≠ 0 := by rw [h]; decide
  unfold strS
  rw [strT_err m h4]; exact h
theorem str_err {st : St} (m : Int) (h : st.e = 4) : (strS st m).2.e = 4 := by
  have h4 : st.e ≠ 0 := by rw [h]; decide
  refine str_of_err m ?_
  rw [uintS_err h4]; exact h

/-- Cut off anywhere it is torn. -/
theorem cut_torn (n : Nat) (i : Int) (s : ByteArray) (c : Nat) (hn : n < 18446744073709551616) (h1 : -9223372036854775808 ≤ i) (h2 : i ≤ 9223372036854775807) (hs : s.size ≤ 100000)
    (hc : c < (encB n ++ encB (zig i) ++ strB s).size) : (strS (intS (uintS ⟨(encB n ++ encB (zig i) ++ strB s).extract 0 c, 0⟩).2).2 s.size).2.e = 4 := by
  rw [app_assoc, size_append', size_append', strB, size_append'] at hc
  rw [app_assoc]
  by_cases hA : c < (encB n).size
  · rw [take_in _ _ _ hA]
    exact str_err _ (int_err (uint_cut n c hn hA))
  · rw [take_past _ _ _ hA, uint_back _ _ hn]
    dsimp only
    by_cases hB : c - (encB n).size < (encB (zig i)).size
    · rw [take_in _ _ _ hB]
      exact str_err _ (int_of_err (uint_cut (zig i) _ (zig_lt h1 h2) hB))
    · rw [take_past _ _ _ hB, int_back _ _ h1 h2]
      dsimp only
      rw [strB]
      by_cases hE : c - (encB n).size - (encB (zig i)).size < (encB s.size).size
      · rw [take_in _ _ _ hE]
        exact str_of_err _ (uint_cut s.size _ (by omega) hE)
      · rw [take_past _ _ _ hE, strS, uint_back _ _ (by omega)]
        dsimp only
        rw [strT_torn rfl (long_not _) (by dsimp only; rw [size_take _ _ (by omega)]; omega)]
end Go.Proofs.Ytnagidgffkffhaa
