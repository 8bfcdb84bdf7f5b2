/-
  codec.number: the number at the beginning of bytes, how many bytes it has, or what is wrong, is what 'num' says. Condition: at most 100000 bytes.
-/
import Derived.Test.YtnagidgffkffhaaText
namespace Go.Proofs.Ytnagidgffkffhaa
open Go.RowKit Cod

/-- The bytes of a text as numbers. -/
def bytesOf (s : ByteArray) : List Nat := s.data.toList.map UInt8.toNat
theorem bytesOf_len (s : ByteArray) : (bytesOf s).length = s.size := by simp [bytesOf]
theorem bytesOf_lt (s : ByteArray) : ∀ x ∈ bytesOf s, x < 256 := by
  intro x hx
  obtain ⟨u, _, rfl⟩ := List.mem_map.1 hx
  exact UInt8.toNat_lt u
theorem bytesOf_drop (s : ByteArray) (k : Nat) (h : k < s.size) : (bytesOf s).drop k = (s[k]).toNat :: (bytesOf s).drop (k + 1) := by
  rw [List.drop_eq_getElem_cons (by rw [bytesOf_len]; exact h)]
  congr 1
  simp [bytesOf]; rfl

/-- What the byte is to a number: the tests of the text. -/
def badB (k b : Nat) : Bool := decide ((0 < k ∧ b = 0) ∨ (k = 9 ∧ 1 < b))

theorem or_next (acc b k : Nat) (h9 : k ≤ 9) (ha : acc < 2 ^ (7 * k)) (hb : b < 256) (hk : k = 9 → b ≤ 1) :
    ∃ acc' : Nat, bits .or .u64 (acc : Int) (IntKind.u64.wrap ((b : Int) % 128 * 2 ^ (7 * k))) = (acc' : Int) ∧ acc' < 18446744073709551616 ∧ Hid (acc' = acc + b % 128 * 2 ^ (7 * k)) := by
  have hlt : acc + b % 128 * 2 ^ (7 * k) < 18446744073709551616 := by
    by_cases e : k = 9
    · subst e
      have := hk rfl
      have h1 : b % 128 * 2 ^ (7 * 9) ≤ 1 * 2 ^ (7 * 9) := Nat.mul_le_mul_right _ (by omega)
      have h2 : 2 ^ (7 * 9) = 9223372036854775808 := rfl
      rw [h2] at *
      omega
    · have h1 := acc_next (b := b) ha
      have h2 : 2 ^ (7 * (k + 1)) ≤ 2 ^ 63 := Nat.pow_le_pow_right (by omega) (by omega)
      have h3 : 2 ^ 63 = 9223372036854775808 := rfl
      omega
  refine ⟨acc + b % 128 * 2 ^ (7 * k), ?_, hlt, rfl⟩
  have e : ((b : Int) % 128 * 2 ^ (7 * k)) = ((b % 128 * 2 ^ (7 * k) : Nat) : Int) := by
    rw [Int.natCast_mul, Int.natCast_pow]; rfl
  rw [e, IntWalk.u64_in _ (by omega), u64_or_nat acc _ (by omega) (by omega), or_add ha]

/-- The answer as the code gives it. -/
def numV (t : Nat × Nat × Nat) : Value := .tuple #[.int .u64 t.1, .int .i64 t.2.1, .int .i64 t.2.2]

def At (s : ByteArray) (k acc : Nat) : Prop := acc < 2 ^ (7 * k) ∧ num 0 0 (bytesOf s) = num k acc ((bytesOf s).drop k)

theorem At.bad {s : ByteArray} {k acc : Nat} (h : At s k acc) (hk : k < s.size) (hb : (0 < k ∧ s[k].toNat = 0) ∨ (k = 9 ∧ 1 < s[k].toNat)) : num 0 0 (bytesOf s) = (0, 0, 3) := by
  rw [h.2, bytesOf_drop s k hk, num_bad hb]
theorem At.last {s : ByteArray} {k acc acc' : Nat} (h : At s k acc) (hk : k < s.size) (hb : ¬ ((0 < k ∧ s[k].toNat = 0) ∨ (k = 9 ∧ 1 < s[k].toNat))) (hl : s[k].toNat < 128) (e : acc' = acc + s[k].toNat % 128 * 2 ^ (7 * k)) :
    num 0 0 (bytesOf s) = (acc', k + 1, 0) := by
  rw [h.2, bytesOf_drop s k hk, num_last hb hl, e]
theorem At.more {s : ByteArray} {k acc acc' : Nat} (h : At s k acc) (hk : k < s.size) (hb : ¬ ((0 < k ∧ s[k].toNat = 0) ∨ (k = 9 ∧ 1 < s[k].toNat))) (hl : ¬ s[k].toNat < 128) (e : acc' = acc + s[k].toNat % 128 * 2 ^ (7 * k)) :
    At s (k + 1) acc' := by
  refine ⟨by rw [e]; exact acc_next h.1, ?_⟩
  rw [h.2, bytesOf_drop s k hk, num_more hb hl, e]
theorem At.torn {s : ByteArray} {acc : Nat} (h : At s s.size acc) : num 0 0 (bytesOf s) = (0, 0, 4) := by
  rw [h.2, List.drop_of_length_le (by rw [bytesOf_len]; omega)]; rfl

set_option maxRecDepth 100000 in
set_option maxHeartbeats 800000 in
theorem number_any (s : ByteArray) (w : World) (hs : s.size ≤ 100000) :
    Calls Try.prog 74 #[.string s] w fun e w' => e = .returned (numV (num 0 0 (bytesOf s))) ∧ w = w' := by
  go_enter Try.func74, Try.ntmps74
  go_wp2_with fail
  go_loop [2, 5] (fun n i => ∃ k acc : Nat, k ≤ s.size ∧ k ≤ 9 ∧ i = .int .i64 k ∧ n = .int .u64 acc ∧ Hid (At s k acc)) (fun _ i => s.size - (intOf i).toNat)
  case atStart => exact ⟨0, 0, by omega, by omega, rfl, rfl, ⟨by show 0 < 1; omega, rfl⟩⟩
  case round =>
    obtain ⟨k, acc, hk, h9, rfl, rfl, ha⟩ := hrel
    by_cases hlt : k < s.size
    · have hlt2 : (k : Int) < s.size := by omega
      have hb := UInt8.toNat_lt s[k]
      by_cases hbad : (0 < k ∧ s[k].toNat = 0) ∨ (k = 9 ∧ 1 < s[k].toNat)
      · have hr := Lib.hid (ha.out.bad hlt hbad)
        by_cases h0 : s[k].toNat = 0
        · have hk0 : 0 < k := by omega
          have e0 : ((s[k].toNat : Int) == 0) = true := by simp; exact h0
          replace h0 := Lib.hid h0
          clear hbad
          go_wp2_with fail
          all_goals (go_ret3; exact ⟨by rw [hr.out]; rfl, rfl⟩)
        · have hk9 : k = 9 := by omega
          have e0 : ((s[k].toNat : Int) == 0) = false := by simp; exact h0
          have e1 : (1 : Int) < s[k].toNat := by omega
          have e9 : ((k : Int) == 9) = true := by simp; omega
          have hk0 : 0 < k := by omega
          replace h0 := Lib.hid h0
          replace hk9 := Lib.hid hk9
          clear hbad
          go_wp2_with fail
          all_goals (go_ret3; exact ⟨by rw [hr.out]; rfl, rfl⟩)
      · obtain ⟨acc', hor, hacc', hac⟩ := or_next acc s[k].toNat k h9 ha.out.1 hb (by omega)
        have hnz : Hid (k = 0) ∨ (0 < k ∧ ((s[k].toNat : Int) == 0) = false) := by
          by_cases e : k = 0
          · exact Or.inl e
          · exact Or.inr ⟨by omega, by simp; omega⟩
        have hn9 : ((k : Int) == 9) = false ∨ (((k : Int) == 9) = true ∧ ¬ (1 : Int) < s[k].toNat) := by
          by_cases e : k = 9
          · exact Or.inr ⟨by simp; omega, by omega⟩
          · exact Or.inl (by simp; omega)
        by_cases hl : s[k].toNat < 128
        · have hr := Lib.hid (ha.out.last hlt hbad hl hac.out)
          have hl2 : (s[k].toNat : Int) < 128 := by omega
          replace hbad := Lib.hid hbad
          rcases hnz with h0 | ⟨h0, e0⟩ <;> rcases hn9 with e9 | ⟨e9, e1⟩
          all_goals go_wp2_with fail
          all_goals first | (go_ret3; exact ⟨by rw [hr.out]; rfl, rfl⟩) | (have := h0.out; omega)
        · have hr := Lib.hid (ha.out.more hlt hbad hl hac.out)
          have hl2 : ¬ (s[k].toNat : Int) < 128 := by omega
          have hk9 : k + 1 ≤ 9 := by omega
          replace hbad := Lib.hid hbad
          rcases hnz with h0 | ⟨h0, e0⟩ <;> rcases hn9 with e9 | ⟨e9, e1⟩
          all_goals go_wp2_with fail
          all_goals first | (refine ⟨⟨k + 1, acc', by omega, hk9, by go_num, rfl, hr⟩, ?_⟩; simp [intOf]; omega) | (have := h0.out; omega) | (exfalso; omega) | (exfalso; simp at e9; omega)
    · obtain rfl : k = s.size := by omega
      have hr := Lib.hid ha.out.torn
      go_wp2_with fail
      go_ret3
      exact ⟨by rw [hr.out]; rfl, rfl⟩
end Go.Proofs.Ytnagidgffkffhaa
