/-
  The plain mathematics of numbers as bytes, on natural numbers: what is written is read as it was, bytes that are a number are those that it is written in, cut off it is torn, and the shorter one is the less. No condition.
-/
namespace Go.Proofs.Ytnagidgffkffhaa.Cod

/-- A number in groups of seven bits, the lowest first. -/
def enc (n : Nat) : List Nat := if n < 128 then [n] else (n % 128 + 128) :: enc (n / 128)
termination_by n
decreasing_by omega

theorem enc_small {n : Nat} (h : n < 128) : enc n = [n] := by rw [enc, if_pos h]
theorem enc_big {n : Nat} (h : ¬ n < 128) : enc n = (n % 128 + 128) :: enc (n / 128) := by rw [enc, if_neg h]

theorem enc_pos (n : Nat) : 0 < (enc n).length := by
  by_cases h : n < 128
  · rw [enc_small h]; simp
  · rw [enc_big h]; simp

theorem enc_byte (n : Nat) : ∀ x ∈ enc n, x < 256 := by
  induction n using Nat.strongRecOn with
  | _ n ih =>
    by_cases h : n < 128
    · rw [enc_small h]; intro x hx; simp at hx; omega
    · rw [enc_big h]; intro x hx
      rcases List.mem_cons.1 hx with rfl | hx
      · omega
      · exact ih (n / 128) (by omega) x hx

theorem enc_len_le (k n : Nat) (h : n < 128 ^ (k + 1)) : (enc n).length ≤ k + 1 := by
  induction k generalizing n with
  | zero => rw [enc_small (by simpa using h)]; simp
  | succ k ih =>
    by_cases hn : n < 128
    · rw [enc_small hn]; simp
    · rw [enc_big hn]
      have := ih (n / 128) (by rw [Nat.pow_succ] at h; omega)
      simp only [List.length_cons]; omega

theorem enc_ten {n : Nat} (h : n < 18446744073709551616) : (enc n).length ≤ 10 := enc_len_le 9 n (by simp; omega)

theorem enc_mono : ∀ (b a : Nat), a ≤ b → (enc a).length ≤ (enc b).length := by
  intro b
  induction b using Nat.strongRecOn with
  | _ b ih =>
    intro a h
    by_cases ha : a < 128
    · rw [enc_small ha]; exact enc_pos b
    · rw [enc_big ha, enc_big (n := b) (by omega)]
      have := ih (b / 128) (by omega) (a / 128) (by omega)
      simp only [List.length_cons]; omega

theorem enc_shorter {a b : Nat} (h : (enc a).length < (enc b).length) : a < b := by
  rcases Nat.lt_or_ge a b with hl | hg
  · exact hl
  · have := enc_mono a b hg; omega

theorem enc_one (n : Nat) : (enc n).length = 1 ↔ n < 128 := by
  by_cases h : n < 128
  · rw [enc_small h]; simp [h]
  · rw [enc_big h]
    have := enc_pos (n / 128)
    simp only [List.length_cons]
    omega

/-- What stands at the beginning of bytes: the number, how many bytes it has, what is wrong. -/
def num : Nat → Nat → List Nat → Nat × Nat × Nat
  | _, _, [] => (0, 0, 4)
  | i, acc, b :: bs =>
    if (0 < i ∧ b = 0) ∨ (i = 9 ∧ 1 < b) then (0, 0, 3)
    else if b < 128 then (acc + b % 128 * 2 ^ (7 * i), i + 1, 0)
    else num (i + 1) (acc + b % 128 * 2 ^ (7 * i)) bs

theorem num_bad {i acc b : Nat} {bs : List Nat} (h : (0 < i ∧ b = 0) ∨ (i = 9 ∧ 1 < b)) : num i acc (b :: bs) = (0, 0, 3) := by rw [num, if_pos h]
theorem num_last {i acc b : Nat} {bs : List Nat} (h : ¬ ((0 < i ∧ b = 0) ∨ (i = 9 ∧ 1 < b))) (hb : b < 128) : num i acc (b :: bs) = (acc + b % 128 * 2 ^ (7 * i), i + 1, 0) := by rw [num, if_neg h, if_pos hb]
theorem num_more {i acc b : Nat} {bs : List Nat} (h : ¬ ((0 < i ∧ b = 0) ∨ (i = 9 ∧ 1 < b))) (hb : ¬ b < 128) : num i acc (b :: bs) = num (i + 1) (acc + b % 128 * 2 ^ (7 * i)) bs := by rw [num, if_neg h, if_neg hb]

theorem room_nine {i n : Nat} (h9 : i ≤ 9) (h : n < 2 ^ (64 - 7 * i)) (e : i = 9) : n < 2 := by subst e; simpa using h
theorem room_next {i : Nat} (h9 : i ≤ 8) : 2 ^ (64 - 7 * i) = 128 * 2 ^ (64 - 7 * (i + 1)) := by
  rw [show 64 - 7 * i = (64 - 7 * (i + 1)) + 7 by omega, Nat.pow_add]; omega
theorem pow_next (i : Nat) : 2 ^ (7 * (i + 1)) = 128 * 2 ^ (7 * i) := by
  rw [show 7 * (i + 1) = 7 * i + 7 by omega, Nat.pow_add]; omega

theorem num_enc (n : Nat) : ∀ (i acc : Nat) (rest : List Nat), i ≤ 9 → n < 2 ^ (64 - 7 * i) → (0 < i → 0 < n) → num i acc (enc n ++ rest) = (acc + n * 2 ^ (7 * i), i + (enc n).length, 0) := by
  induction n using Nat.strongRecOn with
  | _ n ih =>
    intro i acc rest h9 hn h0
    have hn9 := room_nine h9 hn
    by_cases h : n < 128
    · rw [enc_small h]
      show num i acc (n :: rest) = _
      rw [num_last (by omega) h, Nat.mod_eq_of_lt h]; rfl
    · rw [enc_big h]
      show num i acc ((n % 128 + 128) :: (enc (n / 128) ++ rest)) = _
      have h8 : i ≤ 8 := by omega
      rw [num_more (by omega) (by omega), ih (n / 128) (by omega) (i + 1) _ rest (by omega) (by rw [room_next h8] at hn; omega) (by omega), pow_next]
      have e : (n % 128 + 128) % 128 = n % 128 := by omega
      have e2 : n % 128 * 2 ^ (7 * i) + n / 128 * (128 * 2 ^ (7 * i)) = n * 2 ^ (7 * i) := by
        rw [← Nat.mul_assoc, ← Nat.add_mul]; congr 1; omega
      rw [e, Nat.add_assoc, e2]
      simp only [List.length_cons]
      rw [Nat.add_assoc, Nat.add_comm 1]

theorem num_cut (n : Nat) : ∀ (i acc k : Nat), i ≤ 9 → n < 2 ^ (64 - 7 * i) → k < (enc n).length → num i acc ((enc n).take k) = (0, 0, 4) := by
  induction n using Nat.strongRecOn with
  | _ n ih =>
    intro i acc k h9 hn hk
    have hn9 := room_nine h9 hn
    by_cases h : n < 128
    · rw [enc_small h] at hk ⊢
      obtain rfl : k = 0 := by simpa using hk
      rfl
    · rw [enc_big h] at hk ⊢
      match k with
      | 0 => rfl
      | k + 1 =>
        show num i acc ((n % 128 + 128) :: (enc (n / 128)).take k) = _
        have h8 : i ≤ 8 := by omega
        rw [num_more (by omega) (by omega)]
        exact ih (n / 128) (by omega) (i + 1) _ k (by omega) (by rw [room_next h8] at hn; omega) (by simpa using hk)

theorem num_is (bs : List Nat) : ∀ (i acc n size : Nat), i ≤ 9 → (∀ x ∈ bs, x < 256) → num i acc bs = (n, size, 0) →
    ∃ m k, size = i + k ∧ 0 < k ∧ k ≤ bs.length ∧ bs.take k = enc m ∧ n = acc + m * 2 ^ (7 * i) ∧ (0 < i → 0 < m) ∧ m < 2 ^ (64 - 7 * i) := by
  induction bs with
  | nil => intro i acc n size _ _ h; simp [num] at h
  | cons b bs ih =>
    intro i acc n size h9 hb h
    have hb0 := hb b (by simp)
    by_cases hbad : (0 < i ∧ b = 0) ∨ (i = 9 ∧ 1 < b)
    · rw [num_bad hbad] at h; simp at h
    · by_cases hl : b < 128
      · rw [num_last hbad hl] at h
        simp only [Prod.mk.injEq] at h
        obtain ⟨rfl, rfl, -⟩ := h
        refine ⟨b, 1, rfl, by omega, by simp, by rw [enc_small hl]; rfl, by rw [Nat.mod_eq_of_lt hl], by omega, ?_⟩
        by_cases e : i = 9
        · subst e; simp; omega
        · have := room_next (i := i) (by omega)
          have hp : 0 < 2 ^ (64 - 7 * (i + 1)) := Nat.pow_pos (by omega)
          omega
      · rw [num_more hbad hl] at h
        have h8 : i ≤ 8 := by omega
        obtain ⟨m, k, rfl, hk, hkl, ht, rfl, hm, hr⟩ := ih (i + 1) _ n size (by omega) (fun x hx => hb x (by simp [hx])) h
        have hm := hm (by omega)
        refine ⟨b % 128 + 128 * m, k + 1, by omega, by omega, by simpa using hkl, ?_, ?_, by omega, by rw [room_next h8]; omega⟩
        · rw [enc_big (by omega), List.take_succ_cons, ht]
          congr 1
          · omega
          · congr 1; omega
        · rw [pow_next, Nat.add_assoc]
          congr 1
          rw [Nat.add_mul, Nat.mul_comm 128 m, Nat.mul_assoc]

theorem num_size (bs : List Nat) : ∀ (i acc : Nat), (num i acc bs).2.1 ≤ i + bs.length := by
  induction bs with
  | nil => intro i acc; simp [num]
  | cons b bs ih =>
    intro i acc
    by_cases hbad : (0 < i ∧ b = 0) ∨ (i = 9 ∧ 1 < b)
    · rw [num_bad hbad]; simp
    · by_cases hl : b < 128
      · rw [num_last hbad hl]; simp
      · rw [num_more hbad hl]
        have := ih (i + 1) (acc + b % 128 * 2 ^ (7 * i))
        simp only [List.length_cons]; omega

theorem num_err (bs : List Nat) : ∀ (i acc : Nat), (num i acc bs).2.2 = 0 ∨ num i acc bs = (0, 0, 3) ∨ num i acc bs = (0, 0, 4) := by
  induction bs with
  | nil => intro i acc; simp [num]
  | cons b bs ih =>
    intro i acc
    by_cases hbad : (0 < i ∧ b = 0) ∨ (i = 9 ∧ 1 < b)
    · rw [num_bad hbad]; simp
    · by_cases hl : b < 128
      · rw [num_last hbad hl]; simp
      · rw [num_more hbad hl]; exact ih _ _

/-- The number at the beginning of bytes is one of 64 bits. -/
theorem num_lt {bs : List Nat} (hb : ∀ x ∈ bs, x < 256) : (num 0 0 bs).1 < 18446744073709551616 := by
  rcases num_err bs 0 0 with h | h | h
  · obtain ⟨m, k, -, -, -, -, e, -, hm⟩ := num_is bs 0 0 (num 0 0 bs).1 (num 0 0 bs).2.1 (by omega) hb (Prod.ext rfl (Prod.ext rfl h))
    rw [e]; simpa using hm
  · rw [h]; simp
  · rw [h]; simp

theorem enc_inj {a b : Nat} (ha : a < 18446744073709551616) (hb : b < 18446744073709551616) (h : enc a = enc b) : a = b := by
  have h1 := num_enc a 0 0 [] (by omega) (by simpa using ha) (by omega)
  have h2 := num_enc b 0 0 [] (by omega) (by simpa using hb) (by omega)
  rw [h, h2] at h1
  simpa using h1.symm

theorem or_add {acc x i : Nat} (h : acc < 2 ^ i) : acc ||| x * 2 ^ i = acc + x * 2 ^ i := by
  rw [Nat.or_comm, Nat.mul_comm, Nat.add_comm, Nat.two_pow_add_eq_or_of_lt h]

/-- The bytes so far stay within their bits. -/
theorem acc_next {acc b i : Nat} (h : acc < 2 ^ (7 * i)) : acc + b % 128 * 2 ^ (7 * i) < 2 ^ (7 * (i + 1)) := by
  rw [pow_next]
  have : b % 128 * 2 ^ (7 * i) ≤ 127 * 2 ^ (7 * i) := Nat.mul_le_mul_right _ (by omega)
  omega

theorem or_128 : ∀ x, x < 256 → x ||| 128 = x % 128 + 128 := by decide +kernel
end Go.Proofs.Ytnagidgffkffhaa.Cod
