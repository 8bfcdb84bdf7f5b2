/-
  The answers that the document fixes are given: 'awake' answers true, whatever the memory, and turns nothing that was there.
-/
import Derived.Test.YtggpfggfiflnaaaReads
namespace Go.Proofs.Ytggpfggfiflnaaa
open Go.RowKit Cod

def b7 : ByteArray := ⟨#[172, 2, 1, 2, 97, 98, 122]⟩
def st7 : St := ⟨⟨#[172, 2, 1, 2, 97, 98, 122]⟩, 0⟩
def st5 : St := ⟨⟨#[1, 2, 97, 98, 122]⟩, 0⟩
def st4 : St := ⟨⟨#[2, 97, 98, 122]⟩, 0⟩
def st1 : St := ⟨⟨#[122]⟩, 0⟩
def st0 : St := ⟨⟨#[]⟩, 0⟩
def stT : St := ⟨⟨#[]⟩, 4⟩

theorem uint7 : uintS st7 = (300, st5) := by kernel_rfl
theorem int5 : intS st5 = (-1, st4) := by kernel_rfl
theorem str4 : strS st4 9 = (⟨#[97, 98]⟩, st1) := by kernel_rfl
theorem left1 : leftS st1 = 1 := by kernel_rfl
theorem byte1 : byteS st1 = (122, st0) := by kernel_rfl
theorem byte0 : byteS st0 = (0, stT) := by kernel_rfl
theorem leftT : leftS stT = 0 := by kernel_rfl
theorem enc300 : encB 300 = ⟨#[172, 2]⟩ := by rw [encB, enc_big (by omega), enc_small (by omega)]; rfl
theorem enc1 : encB (zig (-1)) = ⟨#[1]⟩ := by rw [show zig (-1) = 1 from rfl, encB, enc_small (by omega)]; rfl
theorem strab : strB ⟨#[97, 98]⟩ = ⟨#[2, 97, 98]⟩ := by rw [strB, show (⟨#[97, 98]⟩ : ByteArray).size = 2 from rfl, encB, enc_small (by omega)]; rfl

theorem uint_seven (b : Nat) (w : World) (t : Rd w b st7) : Calls Try.prog 17 #[.pointer (some ⟨b, 0, none⟩)] w fun e w' => e = .returned (.int .u64 300) ∧ Rd w' b st5 ∧ Kept b w w' := by
  have := uint_all b st7 w t; rw [uint7] at this; exact this
theorem int_five (b : Nat) (w : World) (t : Rd w b st5) : Calls Try.prog 19 #[.pointer (some ⟨b, 0, none⟩)] w fun e w' => e = .returned (.int .i64 (-1)) ∧ Rd w' b st4 ∧ Kept b w w' := by
  have := int_all b st5 w t; rw [int5] at this; exact this
theorem str_four (b : Nat) (w : World) (t : Rd w b st4) : Calls Try.prog 23 #[.pointer (some ⟨b, 0, none⟩), .int .i64 9] w fun e w' => e = .returned (.string ⟨#[97, 98]⟩) ∧ Rd w' b st1 ∧ Kept b w w' := by
  have := str_all b st4 9 w (by omega) (by omega) t; rw [str4] at this; exact this
theorem left_one (b : Nat) (w : World) (t : Rd w b st1) : Calls Try.prog 27 #[.pointer (some ⟨b, 0, none⟩)] w fun e w' => e = .returned (.int .i64 1) ∧ w = w' := by
  have := left_any b st1 w t; rw [left1] at this; exact this
theorem byte_one (b : Nat) (w : World) (t : Rd w b st1) : Calls Try.prog 21 #[.pointer (some ⟨b, 0, none⟩)] w fun e w' => e = .returned (.int .u8 122) ∧ Rd w' b st0 ∧ Kept b w w' := by
  have := byte_all b st1 w t; rw [byte1] at this; exact this
theorem byte_none (b : Nat) (w : World) (t : Rd w b st0) : Calls Try.prog 21 #[.pointer (some ⟨b, 0, none⟩)] w fun e w' => e = .returned (.int .u8 0) ∧ Rd w' b stT ∧ Kept b w w' := by
  have := byte_all b st0 w t; rw [byte0] at this; exact this
theorem err_torn (b : Nat) (w : World) (t : Rd w b stT) : Calls Try.prog 26 #[.pointer (some ⟨b, 0, none⟩)] w fun e w' => e = .returned (.int .i64 4) ∧ w = w' := err_any b stT w t
theorem left_torn (b : Nat) (w : World) (t : Rd w b stT) : Calls Try.prog 27 #[.pointer (some ⟨b, 0, none⟩)] w fun e w' => e = .returned (.int .i64 0) ∧ w = w' := by
  have := left_any b stT w t; rw [leftT] at this; exact this
theorem uint_300 (w : World) : Calls Try.prog 10 #[.int .u64 300] w fun e w' => e = .returned (.string ⟨#[172, 2]⟩) ∧ Below w.heap.size w w' := by
  have := uint_any 300 w (by omega); rw [enc300] at this; exact this
theorem int_m1 (w : World) : Calls Try.prog 12 #[.int .i64 (-1)] w fun e w' => e = .returned (.string ⟨#[1]⟩) ∧ Below w.heap.size w w' := by
  have := int_any (-1) w (by omega) (by omega); rw [enc1] at this; exact this
theorem str_ab (w : World) : Calls Try.prog 14 #[.string ⟨#[97, 98]⟩] w fun e w' => e = .returned (.string ⟨#[2, 97, 98]⟩) ∧ Below w.heap.size w w' := by
  have := str_any ⟨#[97, 98]⟩ w (by show 2 ≤ _; omega); rw [strab] at this; exact this

set_option maxHeartbeats 800000 in
theorem awake_any (w : World) : Calls Try.prog 9 #[] w fun e w' => e = .returned (.bool true) ∧ Below w.heap.size w w' := by
  go_enter Try.func9, Try.ntmps9
  go_wp2_with fail
  refine (read_any b7 _ (by show 7 ≤ _; omega)).mono ?_
  rintro e w1 ⟨b, rfl, hb, t1, b1⟩
  replace hb := Lib.hid hb
  replace b1 := Lib.hid b1
  replace t1 := Lib.hid t1
  go_wp2_with fail
  refine (uint_seven b _ t1.out).mono ?_
  rintro e w2 ⟨rfl, t2, k2⟩
  replace b2 := Lib.hid (b1.out.trans (k2.below hb.out b1.out.size))
  replace t2 := Lib.hid t2
  clear k2 t1 b1
  go_wp2_with fail
  refine (int_five b _ t2.out).mono ?_
  rintro e w3 ⟨rfl, t3, k3⟩
  replace b3 := Lib.hid (b2.out.trans (k3.below hb.out b2.out.size))
  replace t3 := Lib.hid t3
  clear k3 t2 b2
  go_wp2_with fail
  refine (str_four b _ t3.out).mono ?_
  rintro e w4 ⟨rfl, t4, k4⟩
  replace b4 := Lib.hid (b3.out.trans (k4.below hb.out b3.out.size))
  replace t4 := Lib.hid t4
  clear k4 t3 b3
  go_wp2_with fail
  refine (left_one b _ t4.out).mono ?_
  rintro e w4 ⟨rfl, rfl⟩
  go_wp2_with fail
  refine (byte_one b _ t4.out).mono ?_
  rintro e w5 ⟨rfl, t5, k5⟩
  replace b5 := Lib.hid (b4.out.trans (k5.below hb.out b4.out.size))
  replace t5 := Lib.hid t5
  clear k5 t4 b4
  go_wp2_with fail
  refine (byte_none b _ t5.out).mono ?_
  rintro e w6 ⟨rfl, t6, k6⟩
  replace b6 := Lib.hid (b5.out.trans (k6.below hb.out b5.out.size))
  replace t6 := Lib.hid t6
  clear k6 t5 b5
  go_wp2_with fail
  refine (uint_300 _).mono ?_
  rintro e w7 ⟨rfl, k7⟩
  replace b7 := Lib.hid (b6.out.trans (k7.mono b6.out.size))
  replace t7 := Lib.hid (t6.out.below k7)
  clear k7 t6 b6
  go_wp2_with fail
  refine (int_m1 _).mono ?_
  rintro e w8 ⟨rfl, k8⟩
  replace b8 := Lib.hid (b7.out.trans (k8.mono b7.out.size))
  replace t8 := Lib.hid (t7.out.below k8)
  clear k8 t7 b7
  go_wp2_with fail
  refine (str_ab _).mono ?_
  rintro e w9 ⟨rfl, k9⟩
  replace b9 := Lib.hid (b8.out.trans (k9.mono b8.out.size))
  replace t9 := Lib.hid (t8.out.below k9)
  clear k9 t8 b8
  go_wp2_with fail
  refine (err_torn b _ t9.out).mono ?_
  rintro e w9 ⟨rfl, rfl⟩
  go_wp2_with fail
  refine (left_torn b _ t9.out).mono ?_
  rintro e w9 ⟨rfl, rfl⟩
  go_wp2_with fail
  go_ret
  exact ⟨rfl, b9.out⟩
end Go.Proofs.Ytggpfggfiflnaaa
