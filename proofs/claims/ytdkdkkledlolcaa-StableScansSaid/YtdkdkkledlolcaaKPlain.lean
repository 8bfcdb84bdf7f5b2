/-
  What divideHalf and the document's own Sum answer: the steps of the division, and the sum, for every input (a text of at most the model's greatest length).
-/
import Derived.Test.YtdkdkkledlolcaaRows
import Derived.Test.YtdkdkkledlolcaaKMath
import Derived.Laws.BitsAllLaws
import Derived.Lib.Hide
import Derived.WalkKit
import Derived.WalkSpells
import Derived.WalkLawsBesides
namespace Go.Proofs.Ytdkdkkledlolcaa.K
open Go.RowKit Crc
set_option maxRecDepth 100000

theorem ret_int {k : IntKind} {a b : Int} (h : a = b) : Ending.returned (.int k a) = .returned (.int k b) := by rw [h]

theorem and_one (c : Nat) (h : c < 4294967296) : bits .and .u32 (c : Int) 1 = ((c % 2 : Nat) : Int) := by
  have := u32_and_nat c 1 h (by omega)
  rw [Nat.and_one_is_mod] at this
  exact this
theorem xor_poly (c : Nat) (h : c < 4294967296) : bits .xor .u32 ((c : Int) / 2) 3988292384 = ((c / 2 ^^^ poly : Nat) : Int) := by
  have := u32_xor_nat (c / 2) poly (by omega) (by unfold poly; omega)
  simpa [poly] using this

theorem bitStep_odd {c : Nat} (h : c % 2 = 1) : bitStep c = c / 2 ^^^ poly := by unfold bitStep; rw [if_pos h]
theorem bitStep_even {c : Nat} (h : ¬ c % 2 = 1) : bitStep c = c / 2 := by unfold bitStep; rw [if_neg h]

set_option maxHeartbeats 400000 in
theorem divideHalf_any (r : Nat) (w : World) (hr : r < 4294967296) :
    Calls Try.prog 57 #[.int .u32 r] w fun e w' => e = .returned (.int .u32 (steps 4 r : Nat)) ∧ w = w' := by
  go_enter Try.func57, Try.ntmps57
  go_wp2
  go_loop [0, 4] (fun n i => ∃ k : Nat, k ≤ 4 ∧ i = .int .i64 k ∧ n = .int .u32 (steps k r : Nat)) (fun _ i => 4 - (intOf i).toNat)
  case atStart => exact ⟨0, by omega, rfl, rfl⟩
  case round =>
    obtain ⟨k, hk, rfl, rfl⟩ := hrel
    have hl := steps_lt k hr
    by_cases hlt : k < 4
    · have H1 : Hid (steps (k + 1) r = bitStep (steps k r)) := rfl
      generalize steps k r = c at *
      have Ha := Lib.hid (and_one c hl)
      have Hx := Lib.hid (xor_poly c hl)
      by_cases hc : c % 2 = 1
      · have ht : (bits .and .u32 (c : Int) 1 == 1) = true := by rw [Ha.out, hc]; rfl
        have H2 := Lib.hid (bitStep_odd hc)
        clear hc
        go_wp2
        go_round
        case rel => exact ⟨k + 1, by omega, by go_num, by rw [H1.out, H2.out, Hx.out]⟩
        case measure => simp [intOf]; omega
      · have ht : (bits .and .u32 (c : Int) 1 == 1) = false := by rw [Ha.out]; simp; omega
        have H2 := Lib.hid (bitStep_even hc)
        clear hc
        go_wp2
        go_round
        case rel => exact ⟨k + 1, by omega, by go_num, by rw [H1.out, H2.out]; rfl⟩
        case measure => simp [intOf]; omega
    · obtain rfl : k = 4 := by omega
      go_wp2
      go_ret
      exact ⟨rfl, rfl⟩
theorem take_snoc (s : ByteArray) (k : Nat) (h : k < s.size) : s.data.toList.take (k + 1) = s.data.toList.take k ++ [s[k]] := by
  rw [List.take_succ_eq_append_getElem (by simpa using h)]; rfl

theorem not_nat (c : Nat) (h : c < 4294967296) : bits .xor .u32 IntKind.u32.max (c : Int) = ((4294967295 - c : Nat) : Int) := by
  have h1 := u32_xor_nat 4294967295 c (by omega) h
  have h2 : 4294967295 ^^^ c = 4294967295 - c := by
    apply Nat.eq_of_testBit_eq; intro i
    have e : 4294967295 - c = 2 ^ 32 - (c + 1) := by omega
    rw [e, Nat.testBit_two_pow_sub_succ (by omega), Nat.testBit_xor, show (4294967295 : Nat) = 2 ^ 32 - 1 from rfl, Nat.testBit_two_pow_sub_one]
    by_cases hi : i < 32
    · simp [hi]
    · have : c.testBit i = false := Nat.testBit_lt_two_pow (Nat.lt_of_lt_of_le h (Nat.pow_le_pow_right (n := 2) (by omega) (by omega : 32 ≤ i)))
      simp [hi, this]
  rw [h2] at h1
  exact h1

theorem xor_byte (c b : Nat) (h : c < 4294967296) (hb : b < 256) : bits .xor .u32 (c : Int) (b : Int) = ((c ^^^ b : Nat) : Int) := u32_xor_nat c b h (by omega)

set_option maxHeartbeats 400000 in
theorem refSum_any (s : ByteArray) (w : World) (hs : s.size ≤ maxLen) :
    Calls Try.prog 44 #[.string s] w fun e w' => e = .returned (.int .u32 (crc s.data.toList : Nat)) ∧ w = w' := by
  unfold maxLen at hs
  go_enter Try.func44, Try.ntmps44
  go_wp2
  go_loop [3, 4] (fun c i => ∃ k : Nat, k ≤ s.size ∧ i = .int .i64 k ∧ c = .int .u32 (crcRun 4294967295 (s.data.toList.take k) : Nat)) (fun _ i => s.size - (intOf i).toNat)
  case atStart => exact ⟨0, by omega, rfl, rfl⟩
  case round =>
    obtain ⟨k, hk, rfl, rfl⟩ := hrel
    have hl := crcRun_lt (s.data.toList.take k) (c := 4294967295) (by omega)
    by_cases hlt : k < s.size
    · have H1 := Lib.hid (crcRun_snoc (s.data.toList.take k) s[k] 4294967295)
      have H2 := Lib.hid (take_snoc s k hlt)
      generalize crcRun 4294967295 (s.data.toList.take k) = c at *
      have hb := UInt8.toNat_lt s[k]
      have H3 := Lib.hid (xor_byte c s[k].toNat hl hb)
      go_wp2
      go_loop [3, 5] (fun x i => ∃ j : Nat, j ≤ 8 ∧ i = .int .i64 j ∧ x = .int .u32 (steps j (c ^^^ s[k].toNat) : Nat)) (fun _ i => 8 - (intOf i).toNat)
      case atStart => exact ⟨0, by omega, rfl, by rw [H3.out]; rfl⟩
      case round =>
        obtain ⟨j, hj, rfl, rfl⟩ := hrel
        have hx := xor_lt hl (show s[k].toNat < 4294967296 by omega)
        have hst := steps_lt j hx
        by_cases hjt : j < 8
        · have H4 : Hid (steps (j + 1) (c ^^^ s[k].toNat) = bitStep (steps j (c ^^^ s[k].toNat))) := rfl
          generalize steps j (c ^^^ s[k].toNat) = x at *
          have Hx := Lib.hid (xor_poly x hst)
          by_cases hc : x % 2 = 1
          · have ht : ((x : Int) % 2 == 1) = true := by simp; omega
            have H5 := Lib.hid (bitStep_odd hc)
            clear hc
            go_wp2
            go_round
            case rel => exact ⟨j + 1, by omega, by go_num, by rw [H4.out, H5.out, Hx.out]⟩
            case measure => simp [intOf]; omega
          · have ht : ((x : Int) % 2 == 1) = false := by simp; omega
            have H5 := Lib.hid (bitStep_even hc)
            clear hc
            go_wp2
            go_round
            case rel => exact ⟨j + 1, by omega, by go_num, by rw [H4.out, H5.out]; rfl⟩
            case measure => simp [intOf]; omega
        · obtain rfl : j = 8 := by omega
          go_wp2
          go_round
          case rel => exact ⟨k + 1, by omega, by go_num, by rw [H2.out, H1.out]; rfl⟩
          case measure => simp [intOf]; omega
    · have H3 := Lib.hid (not_nat _ hl)
      go_wp2
      go_ret
      exact ⟨ret_int (by rw [H3.out, List.take_of_length_le (by simp; omega)]; rfl), rfl⟩
end Go.Proofs.Ytdkdkkledlolcaa.K
