/-
  The document's list (layer 4): the numbers of a set, with commas.
-/
import Derived.Test.YtfeljdbodamflaaDoorRef
namespace Go.Proofs.YtfeljdbodamflaaDoor
open Go.RowKit Crn

def upTo (set k : Nat) : List Nat := (List.range k).filter (fun n => set.testBit n)
def listTo (set k : Nat) : Bytes := join 44 ((upTo set k).map num)
theorem upTo_yes {set k : Nat} (h : set.testBit k = true) : upTo set (k + 1) = upTo set k ++ [k] := by
  unfold upTo
  rw [List.range_succ, List.filter_append]
  simp [h]
theorem upTo_no {set k : Nat} (h : set.testBit k = false) : upTo set (k + 1) = upTo set k := by
  unfold upTo
  rw [List.range_succ, List.filter_append]
  simp [h]
theorem join_snoc (c : UInt8) (l : List Bytes) (x : Bytes) (h : l ≠ []) : join c (l ++ [x]) = join c l ++ c :: x := by
  induction l with
  | nil => exact absurd rfl h
  | cons p l ih =>
    cases l with
    | nil => rfl
    | cons q r =>
      show p ++ c :: join c (q :: r ++ [x]) = (p ++ c :: join c (q :: r)) ++ c :: x
      rw [ih (by simp)]
      simp
theorem num_ne (n : Nat) : num n ≠ [] := by unfold num two; split <;> simp
theorem num_len (n : Nat) : (num n).length ≤ 2 := by unfold num two; split <;> simp
theorem join_ne {c : UInt8} {l : List Nat} (h : l ≠ []) : join c (l.map num) ≠ [] := by
  match l, h with
  | [n], _ => exact num_ne n
  | n :: m :: l, _ => simp [join]
theorem listTo_first {set k : Nat} (h : set.testBit k = true) (h0 : listTo set k = []) : listTo set (k + 1) = num k := by
  have : upTo set k = [] := by
    cases hu : upTo set k with
    | nil => rfl
    | cons n l =>
      unfold listTo at h0
      rw [hu] at h0
      exact absurd h0 (join_ne (by simp))
  unfold listTo
  rw [upTo_yes h, this]
  rfl
theorem listTo_next {set k : Nat} (h : set.testBit k = true) (h0 : listTo set k ≠ []) : listTo set (k + 1) = listTo set k ++ 44 :: num k := by
  have : upTo set k ≠ [] := by
    intro e
    apply h0
    unfold listTo
    rw [e]
    rfl
  unfold listTo
  rw [upTo_yes h, List.map_append]
  exact join_snoc 44 _ _ (by simpa using this)
theorem listTo_no {set k : Nat} (h : set.testBit k = false) : listTo set (k + 1) = listTo set k := by
  unfold listTo
  rw [upTo_no h]
theorem listTo_len (set k : Nat) : (listTo set k).length ≤ 3 * k := by
  induction k with
  | zero => simp [listTo, upTo, join]
  | succ k ih =>
    cases h : set.testBit k
    · rw [listTo_no h]; omega
    · have := num_len k
      by_cases h0 : listTo set k = []
      · rw [listTo_first h h0]; omega
      · rw [listTo_next h h0]; simp; omega
theorem bs_append (a b : Bytes) : bs a ++ bs b = bs (a ++ b) := by
  apply ByteArray.ext
  simp [bs]

set_option maxRecDepth 100000 in
set_option maxHeartbeats 400000 in
theorem list_any (set : Nat) (w : World) (hs : set < 18446744073709551616) :
    Calls Tryd.prog 35 #[.int .u64 set] w fun e w' => e = .returned (.string (bs (list set))) ∧ Below w.heap.size w w' := by
  go_enter Tryd.func35, Tryd.ntmps35
  go_wp2_with fail
  go_loopw [3, 4] (fun v i wr => ∃ k : Nat, k ≤ 64 ∧ i = .int .i64 k ∧ Hid (v = .string (bs (listTo set k))) ∧ Hid (Below w.heap.size w wr)) (fun _ i _ => 64 - (intOf i).toNat)
  case atStart => exact ⟨0, by omega, rfl, rfl, Below.refl _ _⟩
  case round =>
    obtain ⟨k, hk, rfl, hv, hb⟩ := hrel
    have hv' := hv.out
    subst hv'
    by_cases hlt : k < 64
    · have hbt := bit_test set k hs
      have hlen := listTo_len set k
      cases htb : set.testBit k
      · rw [htb] at hbt
        have hn := Lib.hid (listTo_no htb)
        generalize hA : bs (listTo set k) = A at *
        go_wp2_with fail
        exact ⟨⟨k + 1, by omega, by go_num, by rw [hn.out, hA]; exact rfl, hb⟩, by simp [intOf]; omega⟩
      · rw [htb] at hbt
        have hie : (bs (listTo set k)).toList.isEmpty = (listTo set k).isEmpty := by rw [ByteArray.toList_eq, bs_toList]
        have hsz : (bs (listTo set k)).size ≤ 192 := by rw [bs_size]; omega
        by_cases h0 : listTo set k = []
        · have e0 : (bs (listTo set k)).toList.isEmpty = true := by rw [hie, h0]; rfl
          have hn := Lib.hid (listTo_first htb h0)
          have hA0 : Hid (bs (listTo set k) = bs []) := by rw [h0]; exact rfl
          generalize bs (listTo set k) = A at *
          clear h0 hie
          by_cases h10 : 10 ≤ k
          · have hnum : Hid (num k = two k) := if_pos h10
            have ct := two_any k wr (by omega)
            have hB : (bs (two k)).size ≤ 2 := by rw [bs_size]; exact Nat.le_refl 2
            have hfin : Hid (A ++ bs (two k) = bs (listTo set (k + 1))) := by rw [hA0.out, bs_append, hn.out, hnum.out]; exact rfl
            generalize bs (two k) = T at *
            replace ct := Lib.hid ct
            go_wp2_with fail
            refine ct.out.mono ?_
            rintro e w2 ⟨rfl, k2⟩
            have b2 := Lib.hid (hb.out.trans (k2.mono hb.out.size))
            clear k2
            have hz1 : ¬ 9223372036854775807 < A.size + T.size := by omega
            go_wp2_with fail
            exact ⟨⟨k + 1, by omega, by go_num, by rw [← hfin.out]; exact rfl, b2⟩, by simp [intOf]; omega⟩
          · have hnum : Hid (num k = [UInt8.ofNat (48 + k)]) := if_neg h10
            have hd := digit_byte (d := k) (by omega)
            have hcv := (buf_new wr [UInt8.ofNat (48 + k)] #[.int .u8 (48 + (k : Int))] (by rw [hd]; rfl)).text 1 1 rfl
            have hB : (bs [UInt8.ofNat (48 + k)]).size ≤ 1 := by rw [bs_size]; exact Nat.le_refl 1
            have hfin : Hid (A ++ bs [UInt8.ofNat (48 + k)] = bs (listTo set (k + 1))) := by rw [hA0.out, bs_append, hn.out, hnum.out]; exact rfl
            generalize bs [UInt8.ofNat (48 + k)] = T at *
            have b2 := Lib.hid (hb.out.alloc hb.out.size (.cells #[.int .u8 (48 + (k : Int))] 5))
            clear hd
            have hz1 : ¬ 9223372036854775807 < A.size + T.size := by omega
            go_wp2_with fail
            exact ⟨⟨k + 1, by omega, by go_num, by rw [← hfin.out]; exact rfl, b2⟩, by simp [intOf]; omega⟩
        · have e0 : (bs (listTo set k)).toList.isEmpty = false := by rw [hie]; cases h : listTo set k <;> simp [h] at h0 ⊢
          have hn := Lib.hid (listTo_next htb h0)
          obtain ⟨J, hJ⟩ : ∃ J, listTo set k = J := ⟨_, rfl⟩
          rw [hJ] at hn
          have hA0 : Hid (bs (listTo set k) = bs J) := by rw [hJ]; exact rfl
          generalize bs (listTo set k) = A at *
          clear h0 hie hJ
          have hz0 : ¬ 9223372036854775807 < A.size + (bs [44]).size := by rw [bs_size]; simp; omega
          by_cases h10 : 10 ≤ k
          · have hnum : Hid (num k = two k) := if_pos h10
            have ct := two_any k wr (by omega)
            have hB : (bs (two k)).size ≤ 2 := by rw [bs_size]; exact Nat.le_refl 2
            have hfin : Hid (A ++ bs [44] ++ bs (two k) = bs (listTo set (k + 1))) := by rw [hA0.out, bs_append, bs_append, hn.out, hnum.out]; simp; exact trivial
            generalize bs (two k) = T at *
            replace ct := Lib.hid ct
            go_wp2_with fail
            refine ct.out.mono ?_
            rintro e w2 ⟨rfl, k2⟩
            have b2 := Lib.hid (hb.out.trans (k2.mono hb.out.size))
            clear k2
            have hz1 : ¬ 9223372036854775807 < (A ++ bs [44]).size + T.size := by rw [ByteArray.size_append, bs_size]; simp; omega
            go_wp2_with fail
            exact ⟨⟨k + 1, by omega, by go_num, by rw [← hfin.out]; exact rfl, b2⟩, by simp [intOf]; omega⟩
          · have hnum : Hid (num k = [UInt8.ofNat (48 + k)]) := if_neg h10
            have hd := digit_byte (d := k) (by omega)
            have hcv := (buf_new wr [UInt8.ofNat (48 + k)] #[.int .u8 (48 + (k : Int))] (by rw [hd]; rfl)).text 1 1 rfl
            have hB : (bs [UInt8.ofNat (48 + k)]).size ≤ 1 := by rw [bs_size]; exact Nat.le_refl 1
            have hfin : Hid (A ++ bs [44] ++ bs [UInt8.ofNat (48 + k)] = bs (listTo set (k + 1))) := by rw [hA0.out, bs_append, bs_append, hn.out, hnum.out]; simp; exact trivial
            generalize bs [UInt8.ofNat (48 + k)] = T at *
            have b2 := Lib.hid (hb.out.alloc hb.out.size (.cells #[.int .u8 (48 + (k : Int))] 5))
            clear hd
            have hz1 : ¬ 9223372036854775807 < (A ++ bs [44]).size + T.size := by rw [ByteArray.size_append, bs_size]; simp; omega
            go_wp2_with fail
            exact ⟨⟨k + 1, by omega, by go_num, by rw [← hfin.out]; exact rfl, b2⟩, by simp [intOf]; omega⟩
    · obtain rfl : k = 64 := by omega
      go_wp2_with fail
      go_ret
      exact ⟨rfl, hb.out⟩
end Go.Proofs.YtfeljdbodamflaaDoor
