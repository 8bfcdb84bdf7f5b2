/-
  The answers that the document fixes are given: 'awake' answers true, whatever the memory, and turns nothing that was there.
-/
import Derived.Test.YtddnlfelggbkcaaRefWhole
namespace Go.Proofs.Ytddnlfelggbkcaa
open Go.RowKit Crc

def s9 : ByteArray := ⟨#[49, 50, 51, 52, 53, 54, 55, 56, 57]⟩
theorem crc9 : crc s9.data.toList = 3421780262 := by kernel_rfl
theorem framed9 : framed s9 = ⟨#[49, 50, 51, 52, 53, 54, 55, 56, 57, 203, 244, 57, 38]⟩ := by
  apply WideShapes.bytes_inj
  rw [framed_data, crc9]; rfl
theorem whole9 : isWhole s9.data.toList = false := by kernel_rfl

theorem sum_nine (b : Nat) (w : World) (t : Fresh w b) :
    Calls Try.prog 11 #[.pointer (some ⟨b, 0, none⟩), .string ⟨#[49, 50, 51, 52, 53, 54, 55, 56, 57]⟩] w fun e w' => e = .returned (.int .u32 3421780262) ∧ Ready w' b ∧ Kept b w w' :=
  (sum_fresh b s9 w (by show 9 ≤ _; unfold maxLen; omega) t).mono fun _ _ ⟨he, h⟩ => ⟨by rw [he, crc9]; rfl, h⟩
theorem frame_nine (w : World) :
    Calls Try.prog 13 #[.string ⟨#[49, 50, 51, 52, 53, 54, 55, 56, 57]⟩] w fun e w' => e = .returned (.tuple #[.string ⟨#[49, 50, 51, 52, 53, 54, 55, 56, 57, 203, 244, 57, 38]⟩, .int .u32 3421780262]) ∧ Below w.heap.size w w' :=
  (frame_any s9 w (by show 9 ≤ _; omega)).mono fun _ _ ⟨he, h⟩ => ⟨by rw [he, crc9, framed9]; rfl, h⟩
theorem whole_nine (w : World) :
    Calls Try.prog 14 #[.string ⟨#[49, 50, 51, 52, 53, 54, 55, 56, 57]⟩] w fun e w' => e = .returned (.tuple #[.string ⟨#[]⟩, .bool false]) ∧ Below w.heap.size w w' :=
  (whole_any s9 w (by show 9 ≤ _; omega)).mono fun _ _ ⟨he, h⟩ => ⟨by rw [whole9] at he; exact he, h⟩

set_option maxHeartbeats 400000 in
theorem awake_any (w : World) : Calls Try.prog 8 #[] w fun e w' => e = .returned (.bool true) ∧ Below w.heap.size w w' := by
  go_enter Try.func8, Try.ntmps8
  go_wp2_with fail
  refine (new_any _).mono ?_
  rintro e w1 ⟨rfl, rfl⟩
  have t1 := Lib.hid (fresh_new w)
  have b1 := Lib.hid (below_new w)
  generalize w.alloc (.cells newCells 55) = w1 at *
  go_wp2_with fail
  refine (made_fresh _ _ t1.out).mono ?_
  rintro e w1 ⟨rfl, rfl⟩
  go_wp2_with fail
  refine (sum_nine _ _ t1.out).mono ?_
  rintro e w2 ⟨rfl, t2, k2⟩
  have b2 := Lib.hid (b1.out.trans (k2.below (Nat.le_refl _) b1.out.size))
  clear k2 t1 b1
  have t2 := Lib.hid t2
  go_wp2_with fail
  refine (frame_nine _).mono ?_
  rintro e w3 ⟨rfl, k3⟩
  have b3 := Lib.hid (b2.out.trans (k3.mono b2.out.size))
  have t3 := Lib.hid (t2.out.below k3)
  clear k3 t2 b2
  go_wp2_with fail
  refine (whole_nine _).mono ?_
  rintro e w4 ⟨rfl, k4⟩
  have b4 := Lib.hid (b3.out.trans (k4.mono b3.out.size))
  have t4 := Lib.hid (t3.out.below k4)
  clear k4 t3 b3
  go_wp2_with fail
  refine (made_ready _ _ t4.out).mono ?_
  rintro e w5 ⟨rfl, rfl⟩
  go_wp2_with fail
  go_ret
  exact ⟨rfl, b4.out⟩
end Go.Proofs.Ytddnlfelggbkcaa
