/-
  codec.Int, codec.Str and the document's own: any number with a sign, and any text of at most 100000 bytes, have the bytes that the document says.
-/
import Derived.Test.YtnagidgffkffhaaUint
import Derived.Laws.Bits64
namespace Go.Proofs.Ytnagidgffkffhaa
open Go.RowKit Cod

/-- A number with a sign as one without. -/
def zig (i : Int) : Nat := if 0 ≤ i then (2 * i).toNat else (-2 * i - 1).toNat
theorem zig_lt {i : Int} (h1 : -9223372036854775808 ≤ i) (h2 : i ≤ 9223372036854775807) : zig i < 18446744073709551616 := by
  unfold zig; split <;> omega

theorem not64 (c : Nat) (h : c < 18446744073709551616) : bits .xor .u64 IntKind.u64.max (c : Int) = ((18446744073709551615 - c : Nat) : Int) := by
  have h1 := u64_xor_nat 18446744073709551615 c (by omega) h
  have h2 : 18446744073709551615 ^^^ c = 18446744073709551615 - c := by
    apply Nat.eq_of_testBit_eq; intro i
    have e : 18446744073709551615 - c = 2 ^ 64 - (c + 1) := by omega
    rw [e, Nat.testBit_two_pow_sub_succ (by omega), Nat.testBit_xor, show (18446744073709551615 : Nat) = 2 ^ 64 - 1 from rfl, Nat.testBit_two_pow_sub_one]
    by_cases hi : i < 64
    · simp [hi]
    · have : c.testBit i = false := Nat.testBit_lt_two_pow (Nat.lt_of_lt_of_le h (Nat.pow_le_pow_right (n := 2) (by omega) (by omega : 64 ≤ i)))
      simp [hi, this]
  rw [h2] at h1
  exact h1

theorem zig_neg {i : Int} (h1 : -9223372036854775808 ≤ i) (h0 : ¬ 0 ≤ i) : bits .xor .u64 IntKind.u64.max (IntKind.u64.wrap (IntKind.u64.wrap i * 2)) = ((zig i : Nat) : Int) := by
  rw [IntKind.wrap_u64, IntKind.wrap_u64]
  obtain ⟨c, hc⟩ : ∃ c : Nat, (i % 18446744073709551616 * 2 % 18446744073709551616) = (c : Int) := ⟨(i % 18446744073709551616 * 2 % 18446744073709551616).toNat, by omega⟩
  rw [hc, not64 c (by omega), zig, if_neg h0]
  omega

theorem uint_at {x : Int} (n : Nat) (h : x = (n : Int)) (w : World) (hn : n < 18446744073709551616) :
    Calls Try.prog 81 #[.int .u64 x] w fun e w' => e = .returned (.string (encB n)) ∧ Below w.heap.size w w' := by subst h; exact uint_any n w hn
theorem refUint_at {x : Int} (n : Nat) (h : x = (n : Int)) (w : World) (hn : n < 18446744073709551616) :
    Calls Try.prog 62 #[.int .u64 x] w fun e w' => e = .returned (.string (encB n)) ∧ Below w.heap.size w w' := by subst h; exact refUint_any n w hn

/-- A text as bytes. -/
def strB (s : ByteArray) : ByteArray := encB s.size ++ s
theorem encB_size (n : Nat) : (encB n).size = (enc n).length := by rw [encB, strOfNums_size, nums, List.length_map]

end Go.Proofs.Ytnagidgffkffhaa
